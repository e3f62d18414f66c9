import Derived.Test.YtdcnejhlmdkecaaGreatDoorWAG
import Derived.Test.YtdcnejhlmdkecaaGreatDoorWAC
import Derived.Test.YtdcnejhlmdkecaaGreatDoorWAB
import Derived.Test.YtdcnejhlmdkecaaGreatDoorWAM
import Derived.Test.YtdcnejhlmdkecaaGreatDoorSCanon
import Derived.Test.YtdcnejhlmdkecaaGreatDoorWAR
import Derived.Test.YtdcnejhlmdkecaaGreatDoorWBA
import Derived.Test.YtdcnejhlmdkecaaGreatDoorWAH
namespace Go.Proofs.YtdcnejhlmdkecaaGreatDoor

open Go.RowKit

theorem alike_same (xs : List Nd) : Alike Nd.eqb xs xs := ⟨rfl, fun _ _ _ => Nd.eqb_refl _⟩

theorem canonOf_le (t : List Nd) : (canonOf t).length ≤ t.length := by
  unfold canonOf
  split
  · have := (canonTo_len t t.length (Nat.le_refl _)).1
    omega
  · simp

/-- The one pair of Meet, as it is laid. -/
theorem pairs_one (W : World) {x y : List Nd} {ax ay : Option Addr} {cx cy : Nat} (hx : Nodes W ax x) (hy : Nodes W ay y) :
    Pairs (W.alloc (.cells #[.slice ax x.length cx, .slice ay y.length cy] 41)) (some ⟨W.heap.size, 0, none⟩) [(x, y)] := by
  have hB : Below W.heap.size W (W.alloc (.cells #[.slice ax x.length cx, .slice ay y.length cy] 41)) := (Below.refl _ W).alloc (Nat.le_refl _) _
  intro i hi
  have h0 : i = 0 := by simp at hi; omega
  subst h0
  refine ⟨W.heap.size, 0, ax, cx, ay, cy, rfl, ?_, ?_, hx.below hB, hy.below hB⟩
  · rw [cell_of_row _ _ _ _ _ _ (heap_alloc_new _ _)]; rfl
  · rw [cell_of_row _ _ _ _ _ _ (heap_alloc_new _ _)]; rfl

/-- Numbers of unknowns moved by 300. -/
def up300 (t : List Nd) : List Nd := ren (fun x => x + 300) t

theorem up300_meet {b : List Nd} (hb : typeb b = true) : up300 (canonOf b) = meetY 301 b := by
  rw [meetX_eq hb]
  unfold up300 meetY
  rw [(nm_shift 1 301 b b.length (Nat.le_refl _)).2]
  rfl

theorem up300_take {t : List Nd} {k : Nat} (h : k < t.length) : up300 (t.take (k + 1)) = up300 (t.take k) ++ [renN (fun x => x + 300) t[k]] := by
  unfold up300
  rw [List.take_succ_eq_append_getElem h, ren_append]
  rfl

theorem canon_nodes {b : List Nd} (hb : typeb b = true) : ∀ n ∈ canonOf b, n.kind = 61 → 1 ≤ n.num ∧ n.num ≤ 300 := by
  intro n hn hk
  rw [meetX_eq hb] at hn
  have hl := typeb_len hb
  rcases nm_nodes 1 b b.length (Nat.le_refl _) n hn with h | h
  · exact absurd hk h.2
  · omega

theorem row_empty (w : World) : Row (w.alloc (.cells #[] 35)) w.heap.size [] := (OwnN.empty (w := w) (B := w.heap.size) (Nat.le_refl _)).row.2

/-- The first loop's row: the first k nodes are moved. -/
theorem up_row {w : World} {g k : Nat} {t : List Nd} (hk : k < t.length) {kd nm : Int} {tx : ByteArray} {ks pl : Int} (hx : t[k] = ⟨kd, nm, tx, ks, pl⟩) (h : Row w g (up300 (t.take k) ++ t.drop k)) :
    NodeAt w g (k * 5) ⟨kd, nm, tx, ks, pl⟩ ∧ w.frozen? ⟨g, k * 5 + 1, none⟩ = false ∧
      (kd = 61 → Row (w.setCell ⟨g, k * 5 + 1, none⟩ (.int .i64 (nm + 300))) g (up300 (t.take (k + 1)) ++ t.drop (k + 1))) ∧ (kd ≠ 61 → Row w g (up300 (t.take (k + 1)) ++ t.drop (k + 1))) := by
  have hd : t.drop k = (⟨kd, nm, tx, ks, pl⟩ : Nd) :: t.drop (k + 1) := by rw [List.drop_eq_getElem_cons hk, hx]
  have hl : (up300 (t.take k)).length = k := by unfold up300; rw [ren_len]; simp; omega
  rw [hd] at h
  have hlen : k < (up300 (t.take k) ++ (⟨kd, nm, tx, ks, pl⟩ : Nd) :: t.drop (k + 1)).length := by simp [hl]
  have e9 : (up300 (t.take k) ++ (⟨kd, nm, tx, ks, pl⟩ : Nd) :: t.drop (k + 1))[k] = ⟨kd, nm, tx, ks, pl⟩ := by
    rw [List.getElem_append_right (by omega)]
    simp [hl]
  have hn := h.node k hlen
  rw [e9] at hn
  refine ⟨hn, h.frozen _, fun h61 => ?_, fun h61 => ?_⟩
  · have := h.putMid (v := nm + 300) hl
    rw [up300_take hk, hx]
    have e : renN (fun x => x + 300) ⟨kd, nm, tx, ks, pl⟩ = ⟨kd, nm + 300, tx, ks, pl⟩ := by simp [renN, h61]
    rw [e]
    exact this
  · rw [up300_take hk, hx]
    have e : renN (fun x => x + 300) ⟨kd, nm, tx, ks, pl⟩ = ⟨kd, nm, tx, ks, pl⟩ := by simp [renN, h61]
    rw [e, List.append_assoc]
    exact h

set_option maxRecDepth 100000 in
set_option maxHeartbeats 8000000 in
theorem specMeet_any (a b : List Nd) (ma mb : Nat) (HMA : Hid (a.length = ma)) (HMB : Hid (b.length = mb)) (hma : ma ≤ 1048576) (hmb : mb ≤ 1048576) (ao bo : Option Addr) (ca cb : Nat) (w : World) (hx : Nodes w ao a) (hy : Nodes w bo b) :
    Calls Tryz.prog 5 #[.slice ao ma ca, .slice bo mb cb] w fun e w' => ∃ g c l out fl, e = .returned (.tuple #[.slice (some ⟨g, 0, none⟩) l c, .bool fl]) ∧ w.heap.size ≤ g ∧ out.length = l ∧ Row w' g out ∧ MeetRes a b out fl ∧ Below w.heap.size w w' := by
  obtain ⟨z, hz⟩ : ∃ z, w.heap.size = z := ⟨_, rfl⟩
  have hB0 : Below w.heap.size w (w.alloc (.cells #[] 35)) := (Below.refl _ w).alloc (Nat.le_refl _) _
  have hx0 := hx.below hB0
  have hy0 := hy.below hB0
  have hn0 := row_empty w
  rw [hz] at hB0 hn0
  go_enter Tryz.func5, Tryz.ntmps5
  go_wp2_with fail
  refine (specCanon_any a ma HMA hma ao ca _ hx0).mono ?_
  rintro e w1 ⟨gx, cx, lx, rfl, hgx, hlx, hrx, hb1⟩
  have hy1 := hy0.below hb1
  have hn1 := hn0.below hb1
  have hbw1 : Below z w w1 := hB0.trans (hb1.mono (by have := hB0.size; omega))
  have hgx0 : z + 1 ≤ gx := by simpa [hz] using hgx
  clear hx hy hx0 hy0 hB0 hb1 hn0 hgx
  go_wp2_with fail
  refine (specCanon_any b mb HMB hmb bo cb _ hy1).mono ?_
  rintro e w2 ⟨gy, cy, ly, rfl, hgy, hly, hry, hb2⟩
  have hrx2 := hrx.below hb2
  have hn2 := hn1.below hb2
  have hbw2 : Below z w w2 := hbw1.trans (hb2.mono (by have := hbw1.size; omega))
  have hgxl := hrx.lt
  have hgxy : gx ≠ gy := by omega
  have hzl2 := hn2.lt
  have hgy0 : z + 1 ≤ gy := by omega
  have hgyl := hry.lt
  clear hy1 hn1 hb2 hrx hbw1 hgy
  have HLX : Hid ((canonOf a).length = lx) := hlx
  have HLY : Hid ((canonOf b).length = ly) := hly
  have HRX : Hid (Row w2 gx (canonOf a)) := hrx2
  have HRY : Hid (Row w2 gy (canonOf b)) := hry
  have HN : Hid (Row w2 z []) := hn2
  clear hlx hly hrx2 hry hn2
  by_cases hbad : lx = 0 ∨ ly = 0
  · have HRES : Hid (MeetRes a b [] false) := by
      refine .inl ⟨?_, rfl, rfl⟩
      rcases hbad with h | h
      · exact .inl (canon_empty.1 (HLX.out.trans h))
      · exact .inr (canon_empty.1 (HLY.out.trans h))
    by_cases hlx0 : lx = 0
    · subst hlx0
      go_wp2
      go_ret2
      exact ⟨z, _, _, [], false, rfl, by omega, rfl, HN.out, HRES.out, by rw [hz]; exact hbw2⟩
    · have hly0 : ly = 0 := by omega
      subst hly0
      have t1 : ((lx : Int) == 0) = false := by simp; omega
      go_wp2
      go_ret2
      exact ⟨z, _, _, [], false, rfl, by omega, rfl, HN.out, HRES.out, by rw [hz]; exact hbw2⟩
  · have hlx0 : lx ≠ 0 := fun h => hbad (.inl h)
    have hly0 : ly ≠ 0 := fun h => hbad (.inr h)
    have t1 : ((lx : Int) == 0) = false := by simp; omega
    have t2 : ((ly : Int) == 0) = false := by simp; omega
    have hta : typeb a = true := by
      cases h : typeb a
      · exact absurd (HLX.out.symm.trans (canon_empty.2 h)) hlx0
      · rfl
    have htb : typeb b = true := by
      cases h : typeb b
      · exact absurd (HLY.out.symm.trans (canon_empty.2 h)) hly0
      · rfl
    have HTA : Hid (typeb a = true) := hta
    have HTB : Hid (typeb b = true) := htb
    have hly3 : ly ≤ 300 := by have := canon_len htb; have := typeb_len htb; have := HLY.out; omega
    have hlx3 : lx ≤ 300 := by have := canon_len hta; have := typeb_len hta; have := HLX.out; omega
    clear hbad hta htb
    go_wp2
    go_loopw [9] (fun vi wr => ∃ k : Nat, k ≤ ly ∧ vi = .int .i64 (k : Int) ∧ Row wr gy (up300 ((canonOf b).take k) ++ (canonOf b).drop k) ∧ Row wr gx (canonOf a) ∧ Row wr z [] ∧ Below z w wr ∧ w2.heap.size ≤ wr.heap.size) (fun vi _ => ly - (intOf vi).toNat)
    case atStart => exact ⟨0, Nat.zero_le _, rfl, by simpa [up300, ren] using HRY.out, HRX.out, HN.out, hbw2, Nat.le_refl _⟩
    case round =>
      obtain ⟨k, hk, rfl, hry, hrx, hn, hb, hsz⟩ := hrel
      have hgl : gy < wr.heap.size := by omega
      by_cases hlt : k < ly
      · have hltx : k < (canonOf b).length := by have := HLY.out; omega
        obtain ⟨⟨kd, nm, tx, ks, pl⟩, hxk⟩ : ∃ x, (canonOf b)[k] = x := ⟨_, rfl⟩
        have hbd : kd = 61 → 1 ≤ nm ∧ nm ≤ 300 := by
          intro h9
          have := canon_nodes HTB.out (canonOf b)[k] (List.getElem_mem hltx) (by rw [hxk]; exact h9)
          rw [hxk] at this
          exact this
        obtain ⟨⟨c0, c1, c2, c3, c4⟩, hfz, hup, hno⟩ := up_row hltx hxk hry
        simp only at c0 c1 c2 c3 c4
        have HUP : Hid (kd = 61 → Row (wr.setCell ⟨gy, k * 5 + 1, none⟩ (.int .i64 (nm + 300))) gy (up300 ((canonOf b).take (k + 1)) ++ (canonOf b).drop (k + 1))) := hup
        have HNO : Hid (kd ≠ 61 → Row wr gy (up300 ((canonOf b).take (k + 1)) ++ (canonOf b).drop (k + 1))) := hno
        clear hup hno hxk hry
        by_cases h61 : kd = 61
        · subst h61
          obtain ⟨hb1, hb2⟩ := hbd rfl
          have HBUT : Hid (But (fun q => q = gy) wr (wr.setCell ⟨gy, k * 5 + 1, none⟩ (.int .i64 (nm + 300)))) := But.setCell (S := fun q => q = gy) (But.refl _ _) (p := ⟨gy, k * 5 + 1, none⟩) rfl _
          go_wp2
          go_roundw
          case rel => exact ⟨k + 1, by omega, by go_num, HUP.out rfl, HBUT.out.row hrx hgxy, HBUT.out.row hn (fun h9 => by have h8 : z = gy := h9; omega), hb.setCell (p := ⟨gy, k * 5 + 1, none⟩) (show z ≤ gy by omega) _, by rw [size_setCell]; exact hsz⟩
          case measure => simp [intOf]; omega
        · have t61 : ((kd : Int) == 61) = false := by simpa using h61
          go_wp2
          go_roundw
          case rel => exact ⟨k + 1, by omega, by go_num, HNO.out h61, hrx, hn, hb, hsz⟩
          case measure => simp [intOf]; omega
      · obtain rfl : k = ly := by omega
        have HY : Hid (Row wr gy (meetY 301 b)) := by
          have h9 := hry
          rw [List.take_of_length_le (by have := HLY.out; omega), List.drop_of_length_le (by have := HLY.out; omega), List.append_nil, up300_meet HTB.out] at h9
          exact h9
        clear hry
        have hmy : (meetY 301 b).length = k := by
          unfold meetY
          rw [(nmTo_len 301 b b.length (Nat.le_refl _)).1, ← canon_len HTB.out, HLY.out]
        have HPR := pairs_one wr (cx := cx) (cy := cy) hrx.nodes HY.out.nodes
        rw [HLX.out, hmy] at HPR
        have hBp : Below wr.heap.size wr (wr.alloc (.cells #[.slice (some ⟨gx, 0, none⟩) lx cx, .slice (some ⟨gy, 0, none⟩) k cy] 41)) := (Below.refl _ wr).alloc (Nat.le_refl _) _
        have HSO := specSolve_any [(canonOf a, meetY 301 b)] 1 rfl (by decide) (by intro p hp; simp only [List.mem_singleton] at hp; subst hp; simp only [hmy, HLX.out]; omega) _ 1 _ HPR
        have hrxp := hrx.below hBp
        have hnp := hn.below hBp
        have hbp : Below z w (wr.alloc (.cells #[.slice (some ⟨gx, 0, none⟩) lx cx, .slice (some ⟨gy, 0, none⟩) k cy] 41)) := hb.trans (hBp.mono (by omega))
        clear hBp HPR hrx hn hb
        go_wp2_with fail
        refine HSO.mono ?_
        rintro e w3 ⟨ok, at', so, l, c, bs, rfl, hbl, hres, hans, hb3⟩
        have hrx3 := hrxp.below hb3
        have hn3 := hnp.below hb3
        have hbw3 : Below z w w3 := hbp.trans (hb3.mono (by have := hbp.size; omega))
        have hz3 := hbw3.size
        have HRES : Hid (SolveRes [(canonOf a, meetY 301 b)] ok at' bs) := hres
        clear HSO hrxp hnp hbp hb3 hres
        have hBs : Below w3.heap.size w3 (w3.alloc (.cells #[.bool ok, .int .i64 at', .slice so l c] 38)) := (Below.refl _ w3).alloc (Nat.le_refl _) _
        have hrx4 := hrx3.below hBs
        have hn4 := hn3.below hBs
        have hans4 := hans.binds.below hBs
        have hbw4 : Below z w (w3.alloc (.cells #[.bool ok, .int .i64 at', .slice so l c] 38)) := hbw3.trans (hBs.mono (by omega))
        have hfa : (a.length : Int) < 301 := by have := typeb_len HTA.out; omega
        obtain ⟨hsl, hs3⟩ := solve_len HRES.out
        have HHBL : Hid (bs.length = l) := hbl
        rw [hbl] at hsl
        clear hrx3 hn3 hans hBs hbw3 hbl
        cases ok
        · have HM : Hid (MeetRes a b [] false) := .inr ⟨HTA.out, HTB.out, rfl, 301, false, at', bs, hfa, HRES.out, rfl⟩
          clear hrx4 hans4 hs3
          go_wp2
          go_ret2
          exact ⟨z, _, _, [], false, rfl, by omega, rfl, hn4, HM.out, by rw [hz]; exact hbw4⟩
        · have HMR : Hid (MeetRes a b (canonOf (putOf bs (canonOf a))) (decide (0 < (canonOf (putOf bs (canonOf a))).length))) := .inr ⟨HTA.out, HTB.out, rfl, 301, true, at', bs, hfa, HRES.out, rfl⟩
          have HPU := specPut_any bs l HHBL (by omega) (fun b hb => by have := hs3 b hb; omega) (canonOf a) lx HLX (by omega) so (some ⟨gx, 0, none⟩) c cx _ hans4 hrx4.nodes
          clear hans4 hrx4 hs3
          go_wp2_with fail
          refine HPU.mono ?_
          rintro e w5 ⟨gp, cp, lp, rfl, hgp, hlp, hrp, hb5⟩
          have hn5 := hn4.below hb5
          have hbw5 : Below z w w5 := hbw4.trans (hb5.mono (by have := hbw4.size; omega))
          have HLP : Hid ((putOf bs (canonOf a)).length = lp) := hlp
          have hlp3 : lp ≤ 300 := by
            have h9 := hlp
            unfold putOf at h9
            split at h9
            · next h8 => have := h8.2.2; omega
            · simp at h9; omega
          have hz5 := hbw5.size
          clear HPU hlp hn4 hbw4 hb5
          by_cases hlp0 : lp = 0
          · subst hlp0
            have e1 : canonOf (putOf bs (canonOf a)) = [] := by
              have h9 := (canon_pos bs (canonOf a)).1
              rw [HLP.out] at h9
              exact List.length_eq_zero_iff.1 (by rcases Nat.eq_zero_or_pos (canonOf (putOf bs (canonOf a))).length with h8 | h8; exact h8; exact absurd (h9 h8) (by omega))
            rw [e1] at HMR
            have HM : Hid (MeetRes a b [] false) := HMR.out
            clear HMR e1
            go_wp2
            go_ret2
            exact ⟨z, _, _, [], false, rfl, by omega, rfl, hn5, HM.out, by rw [hz]; exact hbw5⟩
          · have t3 : ((lp : Int) == 0) = false := by simp; omega
            have e1 : decide (0 < (canonOf (putOf bs (canonOf a))).length) = true := decide_eq_true ((canon_pos bs (canonOf a)).2 (by rw [HLP.out]; omega))
            rw [e1] at HMR
            have HCA := specCanon_any (putOf bs (canonOf a)) lp HLP (by omega) (some ⟨gp, 0, none⟩) cp w5 hrp.nodes
            clear e1 hrp
            go_wp2_with fail
            refine HCA.mono ?_
            rintro e w6 ⟨gr, cr, lr, rfl, hgr, hlr, hrr, hb6⟩
            have hbw6 : Below z w w6 := hbw5.trans (hb6.mono (by omega))
            have HF : Hid (∃ out : List Nd, out.length = lr ∧ Row w6 gr out ∧ MeetRes a b out true) := ⟨_, hlr, hrr, HMR.out⟩
            clear HCA hlr hrr HMR hb6
            go_wp2
            go_ret2
            obtain ⟨out, ho1, ho2, ho3⟩ := HF.out
            exact ⟨gr, _, _, out, true, rfl, by omega, ho1, ho2, ho3, by rw [hz]; exact hbw6⟩

theorem meetRes_le {a b out : List Nd} {fl : Bool} (h : MeetRes a b out fl) : out.length ≤ 300 := by
  rcases h with ⟨_, rfl, _⟩ | ⟨_, _, _, f, ok, i, bs, _, _, rfl⟩
  · simp
  · split
    · have h1 := canonOf_le (putOf bs (canonOf a))
      have h2 : (putOf bs (canonOf a)).length ≤ 300 := by
        unfold putOf
        split
        · next h8 => exact h8.2.2
        · simp
      omega
    · simp

set_option maxHeartbeats 2000000 in
theorem lawMeet (xs ys : List Nd) (ao bo : Option Addr) (ca cb : Nat) (w : World) (hx : Nodes w ao xs) (hy : Nodes w bo ys)
    (hsx : ∀ x ∈ xs, x.text.size ≤ maxLen) (hlx : xs.length ≤ 9223372036854775807) (hsy : ∀ x ∈ ys, x.text.size ≤ maxLen) (hly : ys.length ≤ 9223372036854775807)
    (hI : ∀ (n m g h : Nat) (W : World), xs.length = n → n ≤ 1048576 → ys.length = m → m ≤ 1048576 → Below w.heap.size w W → Row W g xs → Row W h ys → Calls Tryz.prog 7 #[.slice (some ⟨g, 0, none⟩) n n, .slice (some ⟨h, 0, none⟩) m m] W fun e w' => ∃ ag cg out fl, e = .returned (.tuple #[.slice ag out.length cg, .bool fl]) ∧ MeetRes xs ys out fl ∧ Ans w' W.heap.size ag out ∧ Below W.heap.size W w') :
    Calls Tryz.prog 3 #[.slice ao xs.length ca, .slice bo ys.length cb] w fun e w' => e = .returned (.bool true) ∧ Below w.heap.size w w' := by
  obtain ⟨n, hnn⟩ : ∃ n, xs.length = n := ⟨_, rfl⟩
  obtain ⟨m, hmm⟩ : ∃ m, ys.length = m := ⟨_, rfl⟩
  have HNX : Hid (xs.length = n) := hnn
  have HNY : Hid (ys.length = m) := hmm
  have hzx := szNodeS_any xs ao ca 1048576 w hx hsx hlx (by omega) (by omega)
  have hzy := fun (r : Int) (w0 : World) (h : Nodes w0 bo ys) (h0 : 0 ≤ r) (h1 : r ≤ 1048576) => szNodeS_any ys bo cb r w0 h hsy hly h0 h1
  rw [hnn] at hlx hzx ⊢
  rw [hmm] at hly ⊢
  simp only [hmm] at hzy
  go_enter Tryz.func3, Tryz.ntmps3
  go_wp2_with fail
  refine hzx.mono ?_
  rintro e w0 ⟨⟨r0, rfl, hr⟩, b0⟩
  rcases hr with hr | ⟨hr0, hr1⟩
  · subst hr
    clear hx hy hsx hsy hI hzx hzy
    go_wp2
    go_ret
    exact ⟨rfl, b0⟩
  have hr2 : r0 ≤ 1048576 := by omega
  have hnl : n ≤ 1048576 := by omega
  have hy0 := hy.below b0
  have tr0 : decide (r0 < 0) = false := decide_eq_false (by omega)
  have HHX : Hid (Nodes w ao xs) := hx
  have HHY : Hid (Nodes w bo ys) := hy
  have HI0 := hI
  have hz2 := hzy r0 w0 hy0 hr0 hr2
  clear hsx hx hy hI hzx hzy hsy hy0
  go_wp2_with fail
  refine hz2.mono ?_
  rintro e w1 ⟨⟨r, rfl, hr⟩, b1⟩
  have b1 := Below.step b0 b1
  clear b0 hz2
  rcases hr with hr | ⟨hr3, hr4⟩
  · subst hr
    clear HI0
    go_wp2
    go_ret
    exact ⟨rfl, b1⟩
  have hml : m ≤ 1048576 := by omega
  have tr : decide (r < 0) = false := decide_eq_false (by omega)
  clear hr4 hr1 hlx hly
  have TOX : Hid (∀ W, Below w.heap.size w W → Calls Tryz.prog 6 #[.slice ao n ca] W fun e w' => ∃ g, e = .returned (.slice (some ⟨g, 0, none⟩) n n) ∧ W.heap.size ≤ g ∧ Row w' g xs ∧ Below W.heap.size W w') := by
    intro W hW
    have h9 := toNodeS_any xs ao ca W (HHX.out.below hW) (by omega)
    rw [hnn] at h9
    exact h9
  have TOY : Hid (∀ W, Below w.heap.size w W → Calls Tryz.prog 6 #[.slice bo m cb] W fun e w' => ∃ g, e = .returned (.slice (some ⟨g, 0, none⟩) m m) ∧ W.heap.size ≤ g ∧ Row w' g ys ∧ Below W.heap.size W w') := by
    intro W hW
    have h9 := toNodeS_any ys bo cb W (HHY.out.below hW) (by omega)
    rw [hmm] at h9
    exact h9
  -- w0, w1
  go_wp2_with fail
  refine (TOX.out w1 b1).mono ?_
  rintro e w2 ⟨ga, rfl, _, RA, b2⟩
  have b2 := Below.step b1 b2
  clear b1
  go_wp2_with fail
  refine (TOY.out w2 b2).mono ?_
  rintro e w3 ⟨gc, rfl, _, RC, b3⟩
  have RA := RA.below b3
  have b3 := Below.step b2 b3
  clear b2
  go_wp2_with fail
  refine (specMeet_any xs ys n m HNX HNY hnl hml _ _ _ _ w3 RA.nodes RC.nodes).mono ?_
  rintro e w4 ⟨gw, cw, p, Z, z, rfl, hgw, hp, RW, hRes, b4⟩
  have HP : Hid (Z.length = p) := hp
  have hp3 : p ≤ 300 := by rw [← hp]; exact meetRes_le hRes
  have HI : Hid (∀ (g h : Nat) (W : World), Below w.heap.size w W → Row W g xs → Row W h ys → Calls Tryz.prog 7 #[.slice (some ⟨g, 0, none⟩) n n, .slice (some ⟨h, 0, none⟩) m m] W fun e w' => ∃ ag cg, e = .returned (.tuple #[.slice ag p cg, .bool z]) ∧ Ans w' W.heap.size ag Z ∧ Below W.heap.size W w') := by
    intro g h W h0 h1 h2
    refine (HI0 n m g h W hnn hnl hmm hml h0 h1 h2).mono ?_
    rintro e w' ⟨ag, cg, out, fl, rfl, hr, ha, hb⟩
    obtain ⟨rfl, rfl⟩ := meetRes_same hRes hr
    exact ⟨ag, cg, by rw [hp], ha, hb⟩
  have tzz0 : (z != z) = false := by simp
  have lw := RW.lt
  have b4 := Below.step b3 b4
  clear b3 RA RC hRes HI0 hp hnn hmm
  -- x0, x1
  go_wp2_with fail
  refine (TOX.out w4 b4).mono ?_
  rintro e w5 ⟨gx, rfl, hgx, RX, b5⟩
  obtain ⟨C4, hC4⟩ : ∃ C, w4.heap.size = C := ⟨_, rfl⟩
  rw [hC4] at hgx lw
  have hwC : w.heap.size ≤ C4 := by have := b4.size; omega
  have RW := RW.below b5
  have b5 := Below.step b4 b5
  clear b4 hC4
  go_wp2_with fail
  refine (TOY.out w5 b5).mono ?_
  rintro e w6 ⟨gy, rfl, hgy, RY, b6⟩
  have lg5 := RX.lt
  have RW := RW.below b6
  have RX := RX.below b6
  have lg6 := RY.lt
  have hs56 := b6.size
  have b6 := Below.step b5 b6
  clear b5
  -- g0, g1
  go_wp2_with fail
  refine (HI.out gx gy w6 b6 RX RY).mono ?_
  rintro e w7 ⟨ag, cg, rfl, RG, b7⟩
  obtain ⟨B7, hB7⟩ : ∃ B, w6.heap.size = B := ⟨_, rfl⟩
  rw [hB7] at RG lg6 hs56
  have hw7 : w.heap.size ≤ B7 := by have := b6.size; omega
  have RW := RW.below b7
  have RX := RX.below b7
  have RY := RY.below b7
  have b7 := Below.step b6 b7
  clear b6 hB7
  go_wp2_with fail
  refine (eqNodeS_any Z Z p p HP HP _ _ _ _ w7 RG.nodes RW.nodes (by omega) (by omega)).mono ?_
  rintro e w8 ⟨⟨u8, rfl, hu8⟩, b8⟩
  obtain rfl : u8 = true := hu8.2 (alike_same Z)
  clear hu8
  have RW := RW.below b8
  have RX := RX.below b8
  have RY := RY.below b8
  have RG := RG.below b8
  have b8 := Below.step b7 b8
  clear b7
  go_wp2_with fail
  refine (TOX.out w8 b8).mono ?_
  rintro e w9 ⟨g9, rfl, _, R9, b9⟩
  have RW := RW.below b9
  have RX := RX.below b9
  have RY := RY.below b9
  have RG := RG.below b9
  have b9 := Below.step b8 b9
  clear b8
  go_wp2_with fail
  refine (eqNodeS_any xs xs n n HNX HNX _ _ _ _ w9 RX.nodes R9.nodes (by omega) (by omega)).mono ?_
  rintro e w10 ⟨⟨u, rfl, hu⟩, b10⟩
  have hu1 : u = true := hu.2 (alike_same xs)
  subst hu1
  have RW := RW.below b10
  have RX := RX.below b10
  have RY := RY.below b10
  have RG := RG.below b10
  have b10 := Below.step b9 b10
  clear b9 R9 hu
  go_wp2_with fail
  refine (TOY.out w10 b10).mono ?_
  rintro e w11 ⟨g11, rfl, _, R11, b11⟩
  have RW := RW.below b11
  have RX := RX.below b11
  have RY := RY.below b11
  have RG := RG.below b11
  have b11 := Below.step b10 b11
  clear b10
  go_wp2_with fail
  refine (eqNodeS_any ys ys m m HNY HNY _ _ _ _ w11 RY.nodes R11.nodes (by omega) (by omega)).mono ?_
  rintro e w12 ⟨⟨u, rfl, hu⟩, b12⟩
  have hu1 : u = true := hu.2 (alike_same ys)
  subst hu1
  have RW := RW.below b12
  have RX := RX.below b12
  have RY := RY.below b12
  have RG := RG.below b12
  have b12 := Below.step b11 b12
  clear b11 R11 hu
  -- marks of the arguments
  go_wp2_with fail
  refine (markNodeS_any xs n gx n 1 w12 HNX RX (by omega) (by omega) (by omega)).mono ?_
  rintro e w13 ⟨rfl, _, bu⟩
  have RW := bu.row RW (by omega)
  have RG := RG.but bu (fun q _ hq _ h => by omega)
  have RY := bu.row RY (by omega)
  have b13 : Below w.heap.size w w13 := b12.trans (bu.below b12.size (fun q hq => by omega))
  clear b12 RX bu
  obtain ⟨km, hkm⟩ : ∃ km, 1 + 5 * n = km := ⟨_, rfl⟩
  have hkm1 : km ≤ 10000000 := by omega
  have hkm0 : 0 < km := by omega
  rw [hkm]
  clear hkm
  go_wp2_with fail
  refine (markNodeS_any ys m gy m km w13 HNY RY (by omega) (by omega) hkm0).mono ?_
  rintro e w14 ⟨rfl, _, bu⟩
  have RW := bu.row RW (by omega)
  have RG := RG.but bu (fun q _ hq _ h => by omega)
  have b14 : Below w.heap.size w w14 := b13.trans (bu.below b13.size (fun q hq => by omega))
  clear b13 RY bu
  obtain ⟨kn, hkn⟩ : ∃ kn, km + 5 * m = kn := ⟨_, rfl⟩
  have hkn1 : kn ≤ 200000000 := by omega
  rw [hkn]
  have tk : decide ((kn : Int) < 0) = false := decide_eq_false (by omega)
  clear hkn
  go_wp2_with fail
  refine (eqNodeS_any Z Z p p HP HP _ _ _ _ w14 RG.nodes RW.nodes (by omega) (by omega)).mono ?_
  rintro e w15 ⟨⟨u15, rfl, hu15⟩, b15⟩
  obtain rfl : u15 = true := hu15.2 (alike_same Z)
  clear hu15
  have RW := RW.below b15
  have RG := RG.below b15
  have b15 := Below.step b14 b15
  clear b14
  -- m, q
  go_wp2_with fail
  refine (markNodeS_ans Z p B7 ag cg 1 w15 HP RG (by omega) (by omega) (by omega)).mono ?_
  rintro e w16 ⟨rfl, RM, bu⟩
  have RW := bu.row RW (fun h => by have := h.2; omega)
  have b16 : Below w.heap.size w w16 := b15.trans (bu.below b15.size (fun q hq => by have := hq.2; omega))
  clear b15 RG bu
  go_wp2_with fail
  refine (heldNodeS_ans p B7 ag cg 1 w16 RM (by omega) (by omega) (by omega)).mono ?_
  rintro e w17 ⟨rfl, b17⟩
  have RW := RW.below b17
  have RM := RM.below b17
  have b17 := Below.step b16 b17
  clear b16
  -- h0, h1
  go_wp2_with fail
  refine (TOX.out w17 b17).mono ?_
  rintro e w18 ⟨g18, rfl, _, R18, b18⟩
  have RW := RW.below b18
  have RM := RM.below b18
  have b18 := Below.step b17 b18
  clear b17
  go_wp2_with fail
  refine (TOY.out w18 b18).mono ?_
  rintro e w19 ⟨g19, rfl, _, R19, b19⟩
  have RW := RW.below b19
  have RM := RM.below b19
  have R18 := R18.below b19
  have b19 := Below.step b18 b19
  clear b18
  go_wp2_with fail
  refine (HI.out g18 g19 w19 b19 R18 R19).mono ?_
  rintro e w20 ⟨ah, ch, rfl, RH, b20⟩
  have RW := RW.below b20
  have RM := RM.below b20
  have b20 := Below.step b19 b20
  clear b19 R18 R19
  go_wp2_with fail
  refine (eqNodeS_any Z Z p p HP HP _ _ _ _ w20 RH.nodes RW.nodes (by omega) (by omega)).mono ?_
  rintro e w21 ⟨⟨u21, rfl, hu21⟩, b21⟩
  obtain rfl : u21 = true := hu21.2 (alike_same Z)
  clear hu21
  have RM := RM.below b21
  have b21 := Below.step b20 b21
  clear b20 RH RW
  go_wp2_with fail
  refine (heldNodeS_ans p B7 ag cg 1 w21 RM (by omega) (by omega) (by omega)).mono ?_
  rintro e w22 ⟨rfl, b22⟩
  have b22 := Below.step b21 b22
  clear b21 RM
  go_wp2
  go_ret
  exact ⟨rfl, b22⟩

end Go.Proofs.YtdcnejhlmdkecaaGreatDoor

import Derived.Test.YtoiiibplkhedcaaGreatDoorGY
import Derived.Test.YtoiiibplkhedcaaGreatDoorUSol
import Derived.Test.YtoiiibplkhedcaaGreatDoorGD
import Derived.Test.YtoiiibplkhedcaaGreatDoorGC
namespace Go.Proofs.YtoiiibplkhedcaaGreatDoor
open Go.RowKit
theorem Qdz (W : World) {x y : List Nd} {ax ay : Option Addr} {cx cy : Nat} (hx : Nodes W ax x) (hy : Nodes W ay y) :
    Pairs (W.alloc (.cells #[.slice ax x.length cx, .slice ay y.length cy] 49)) (some ⟨W.heap.size, 0, none⟩) [(x, y)] := by
  have hB : Below W.heap.size W (W.alloc (.cells #[.slice ax x.length cx, .slice ay y.length cy] 49)) := (Below.refl _ W).alloc (Nat.le_refl _) _
  intro i hi
  have h0 : i = 0 := by simp at hi; omega
  subst h0
  refine ⟨W.heap.size, 0, ax, cx, ay, cy, rfl, ?_, ?_, hx.below hB, hy.below hB⟩
  · rw [cell_of_row _ _ _ _ _ _ (heap_alloc_new _ _)]; rfl
  · rw [cell_of_row _ _ _ _ _ _ (heap_alloc_new _ _)]; rfl
def Jad (t : List Nd) : List Nd := ren (fun x => x + 300) t
theorem Qfq {b : List Nd} (hb : typeb b = true) : Jad (canonOf b) = Jab 301 b := by
  rw [Qad hb]
  unfold Jad Jab
  rw [(Qfn 1 301 b b.length (Nat.le_refl _)).2]
  rfl
theorem Qcr {t : List Nd} {k : Nat} (h : k < t.length) : Jad (t.take (k + 1)) = Jad (t.take k) ++ [renN (fun x => x + 300) t[k]] := by
  unfold Jad
  rw [List.take_succ_eq_append_getElem h, Qao]
  rfl
theorem Qfk {b : List Nd} (hb : typeb b = true) : ∀ n ∈ canonOf b, n.kind = 61 → 1 ≤ n.num ∧ n.num ≤ 300 := by
  intro n hn hk
  rw [Qad hb] at hn
  have hl := typeb_len hb
  rcases Qbg 1 b b.length (Nat.le_refl _) n hn with h | h
  · exact absurd hk h.2
  · omega
theorem Qgn (w : World) : Row (w.alloc (.cells #[] 43)) w.heap.size [] := (OwnN.empty (w := w) (B := w.heap.size) (Nat.le_refl _)).row.2
theorem Jcc {w : World} {g k : Nat} {t : List Nd} (hk : k < t.length) {kd nm : Int} {tx : ByteArray} {ks pl : Int} (hx : t[k] = ⟨kd, nm, tx, ks, pl⟩) (h : Row w g (Jad (t.take k) ++ t.drop k)) :
    NodeAt w g (k * 5) ⟨kd, nm, tx, ks, pl⟩ ∧ w.frozen? ⟨g, k * 5 + 1, none⟩ = false ∧
      (kd = 61 → Row (w.setCell ⟨g, k * 5 + 1, none⟩ (.int .i64 (nm + 300))) g (Jad (t.take (k + 1)) ++ t.drop (k + 1))) ∧ (kd ≠ 61 → Row w g (Jad (t.take (k + 1)) ++ t.drop (k + 1))) := by
  have hd : t.drop k = (⟨kd, nm, tx, ks, pl⟩ : Nd) :: t.drop (k + 1) := by rw [List.drop_eq_getElem_cons hk, hx]
  have hl : (Jad (t.take k)).length = k := by unfold Jad; rw [Qah]; simp; omega
  rw [hd] at h
  have hlen : k < (Jad (t.take k) ++ (⟨kd, nm, tx, ks, pl⟩ : Nd) :: t.drop (k + 1)).length := by simp [hl]
  have e9 : (Jad (t.take k) ++ (⟨kd, nm, tx, ks, pl⟩ : Nd) :: t.drop (k + 1))[k] = ⟨kd, nm, tx, ks, pl⟩ := by
    rw [List.getElem_append_right (by omega)]
    simp [hl]
  have hn := h.node k hlen
  rw [e9] at hn
  refine ⟨hn, h.frozen _, fun h61 => ?_, fun h61 => ?_⟩
  · have := h.putMid (v := nm + 300) hl
    rw [Qcr hk, hx]
    have e : renN (fun x => x + 300) ⟨kd, nm, tx, ks, pl⟩ = ⟨kd, nm + 300, tx, ks, pl⟩ := by simp [renN, h61]
    rw [e]
    exact this
  · rw [Qcr hk, hx]
    have e : renN (fun x => x + 300) ⟨kd, nm, tx, ks, pl⟩ = ⟨kd, nm, tx, ks, pl⟩ := by simp [renN, h61]
    rw [e, List.append_assoc]
    exact h
set_option maxRecDepth 100000 in
set_option maxHeartbeats 8000000 in
theorem Qdt (a b : List Nd) (ma mb : Nat) (HMA : Hid (a.length = ma)) (HMB : Hid (b.length = mb)) (hma : ma ≤ 1048576) (hmb : mb ≤ 1048576) (ao bo : Option Addr) (ca cb : Nat) (w : World) (hx : Nodes w ao a) (hy : Nodes w bo b) :
    Calls Tryz.prog 5 #[.slice ao ma ca, .slice bo mb cb] w fun e w' => ∃ g c l out fl, e = .returned (.tuple #[.slice (some ⟨g, 0, none⟩) l c, .bool fl]) ∧ w.heap.size ≤ g ∧ out.length = l ∧ Row w' g out ∧ Qac a b out fl ∧ Below w.heap.size w w' := by
  obtain ⟨z, hz⟩ : ∃ z, w.heap.size = z := ⟨_, rfl⟩
  have hB0 : Below w.heap.size w (w.alloc (.cells #[] 43)) := (Below.refl _ w).alloc (Nat.le_refl _) _
  have hx0 := hx.below hB0
  have hy0 := hy.below hB0
  have hn0 := Qgn w
  rw [hz] at hB0 hn0
  go_enter Tryz.func5, Tryz.ntmps5
  go_wp2_with fail
  refine (specCanon_any a ma HMA hma ao ca _ hx0).mono ?_
  rintro e w1 ⟨gx, cx, lx, rfl, hgx, hlx, hrx, hb1⟩
  have hy1 := hy0.below hb1
  have hn1 := hn0.below hb1
  have hbw1 : Below z w w1 := hB0.trans (hb1.mono (by have := hB0.size; omega))
  have hgx0 : z + 1 ≤ gx := by simpa [hz] using hgx
  clear hx hy hx0 hy0 hB0 hb1 hn0 hgx
  go_wp2_with fail
  refine (specCanon_any b mb HMB hmb bo cb _ hy1).mono ?_
  rintro e w2 ⟨gy, cy, ly, rfl, hgy, hly, hry, hb2⟩
  have hrx2 := hrx.below hb2
  have hn2 := hn1.below hb2
  have hbw2 : Below z w w2 := hbw1.trans (hb2.mono (by have := hbw1.size; omega))
  have hgxl := hrx.lt
  have hgxy : gx ≠ gy := by omega
  have hzl2 := hn2.lt
  have hgy0 : z + 1 ≤ gy := by omega
  have hgyl := hry.lt
  clear hy1 hn1 hb2 hrx hbw1 hgy
  have HLX : Hid ((canonOf a).length = lx) := hlx
  have HLY : Hid ((canonOf b).length = ly) := hly
  have HRX : Hid (Row w2 gx (canonOf a)) := hrx2
  have HRY : Hid (Row w2 gy (canonOf b)) := hry
  have HN : Hid (Row w2 z []) := hn2
  clear hlx hly hrx2 hry hn2
  by_cases hbad : lx = 0 ∨ ly = 0
  · have HRES : Hid (Qac a b [] false) := by
      refine .inl ⟨?_, rfl, rfl⟩
      rcases hbad with h | h
      · exact .inl (canon_empty.1 (HLX.out.trans h))
      · exact .inr (canon_empty.1 (HLY.out.trans h))
    by_cases hlx0 : lx = 0
    · subst hlx0
      go_wp2
      go_ret2
      exact ⟨z, _, _, [], false, rfl, by omega, rfl, HN.out, HRES.out, by rw [hz]; exact hbw2⟩
    · have hly0 : ly = 0 := by omega
      subst hly0
      have t1 : ((lx : Int) == 0) = false := by simp; omega
      go_wp2
      go_ret2
      exact ⟨z, _, _, [], false, rfl, by omega, rfl, HN.out, HRES.out, by rw [hz]; exact hbw2⟩
  · have hlx0 : lx ≠ 0 := fun h => hbad (.inl h)
    have hly0 : ly ≠ 0 := fun h => hbad (.inr h)
    have t1 : ((lx : Int) == 0) = false := by simp; omega
    have t2 : ((ly : Int) == 0) = false := by simp; omega
    have hta : typeb a = true := by
      cases h : typeb a
      · exact absurd (HLX.out.symm.trans (canon_empty.2 h)) hlx0
      · rfl
    have htb : typeb b = true := by
      cases h : typeb b
      · exact absurd (HLY.out.symm.trans (canon_empty.2 h)) hly0
      · rfl
    have HTA : Hid (typeb a = true) := hta
    have HTB : Hid (typeb b = true) := htb
    have hly3 : ly ≤ 300 := by have := Qbe htb; have := typeb_len htb; have := HLY.out; omega
    have hlx3 : lx ≤ 300 := by have := Qbe hta; have := typeb_len hta; have := HLX.out; omega
    clear hbad hta htb
    go_wp2
    go_loopw [9] (fun vi wr => ∃ k : Nat, k ≤ ly ∧ vi = .int .i64 (k : Int) ∧ Row wr gy (Jad ((canonOf b).take k) ++ (canonOf b).drop k) ∧ Row wr gx (canonOf a) ∧ Row wr z [] ∧ Below z w wr ∧ w2.heap.size ≤ wr.heap.size) (fun vi _ => ly - (intOf vi).toNat)
    case atStart => exact ⟨0, Nat.zero_le _, rfl, by simpa [Jad, ren] using HRY.out, HRX.out, HN.out, hbw2, Nat.le_refl _⟩
    case round =>
      obtain ⟨k, hk, rfl, hry, hrx, hn, hb, hsz⟩ := hrel
      have hgl : gy < wr.heap.size := by omega
      by_cases hlt : k < ly
      · have hltx : k < (canonOf b).length := by have := HLY.out; omega
        obtain ⟨⟨kd, nm, tx, ks, pl⟩, hxk⟩ : ∃ x, (canonOf b)[k] = x := ⟨_, rfl⟩
        have hbd : kd = 61 → 1 ≤ nm ∧ nm ≤ 300 := by
          intro h9
          have := Qfk HTB.out (canonOf b)[k] (List.getElem_mem hltx) (by rw [hxk]; exact h9)
          rw [hxk] at this
          exact this
        obtain ⟨⟨c0, c1, c2, c3, c4⟩, hfz, hup, hno⟩ := Jcc hltx hxk hry
        simp only at c0 c1 c2 c3 c4
        have HUP : Hid (kd = 61 → Row (wr.setCell ⟨gy, k * 5 + 1, none⟩ (.int .i64 (nm + 300))) gy (Jad ((canonOf b).take (k + 1)) ++ (canonOf b).drop (k + 1))) := hup
        have HNO : Hid (kd ≠ 61 → Row wr gy (Jad ((canonOf b).take (k + 1)) ++ (canonOf b).drop (k + 1))) := hno
        clear hup hno hxk hry
        by_cases h61 : kd = 61
        · subst h61
          obtain ⟨hb1, hb2⟩ := hbd rfl
          have HBUT : Hid (But (fun q => q = gy) wr (wr.setCell ⟨gy, k * 5 + 1, none⟩ (.int .i64 (nm + 300)))) := But.setCell (S := fun q => q = gy) (But.refl _ _) (p := ⟨gy, k * 5 + 1, none⟩) rfl _
          go_wp2
          go_roundw
          case rel => exact ⟨k + 1, by omega, by go_num, HUP.out rfl, HBUT.out.row hrx hgxy, HBUT.out.row hn (fun h9 => by have h8 : z = gy := h9; omega), hb.setCell (p := ⟨gy, k * 5 + 1, none⟩) (show z ≤ gy by omega) _, by rw [size_setCell]; exact hsz⟩
          case measure => simp [intOf]; omega
        · have t61 : ((kd : Int) == 61) = false := by simpa using h61
          go_wp2
          go_roundw
          case rel => exact ⟨k + 1, by omega, by go_num, HNO.out h61, hrx, hn, hb, hsz⟩
          case measure => simp [intOf]; omega
      · obtain rfl : k = ly := by omega
        have HY : Hid (Row wr gy (Jab 301 b)) := by
          have h9 := hry
          rw [List.take_of_length_le (by have := HLY.out; omega), List.drop_of_length_le (by have := HLY.out; omega), List.append_nil, Qfq HTB.out] at h9
          exact h9
        clear hry
        have hmy : (Jab 301 b).length = k := by
          unfold Jab
          rw [(Qal 301 b b.length (Nat.le_refl _)).1, ← Qbe HTB.out, HLY.out]
        have HPR := Qdz wr (cx := cx) (cy := cy) hrx.nodes HY.out.nodes
        rw [HLX.out, hmy] at HPR
        have hBp : Below wr.heap.size wr (wr.alloc (.cells #[.slice (some ⟨gx, 0, none⟩) lx cx, .slice (some ⟨gy, 0, none⟩) k cy] 49)) := (Below.refl _ wr).alloc (Nat.le_refl _) _
        have HSO := Qdc [(canonOf a, Jab 301 b)] 1 rfl (by decide) (by intro p hp; simp only [List.mem_singleton] at hp; subst hp; simp only [hmy, HLX.out]; omega) _ 1 _ HPR
        have hrxp := hrx.below hBp
        have hnp := hn.below hBp
        have hbp : Below z w (wr.alloc (.cells #[.slice (some ⟨gx, 0, none⟩) lx cx, .slice (some ⟨gy, 0, none⟩) k cy] 49)) := hb.trans (hBp.mono (by omega))
        clear hBp HPR hrx hn hb
        go_wp2_with fail
        refine HSO.mono ?_
        rintro e w3 ⟨ok, at', so, l, c, bs, rfl, hbl, hres, hans, hb3⟩
        have hrx3 := hrxp.below hb3
        have hn3 := hnp.below hb3
        have hbw3 : Below z w w3 := hbp.trans (hb3.mono (by have := hbp.size; omega))
        have hz3 := hbw3.size
        have HRES : Hid (SolveRes [(canonOf a, Jab 301 b)] ok at' bs) := hres
        clear HSO hrxp hnp hbp hb3 hres
        have hBs : Below w3.heap.size w3 (w3.alloc (.cells #[.bool ok, .int .i64 at', .slice so l c] 46)) := (Below.refl _ w3).alloc (Nat.le_refl _) _
        have hrx4 := hrx3.below hBs
        have hn4 := hn3.below hBs
        have hans4 := hans.binds.below hBs
        have hbw4 : Below z w (w3.alloc (.cells #[.bool ok, .int .i64 at', .slice so l c] 46)) := hbw3.trans (hBs.mono (by omega))
        have hfa : (a.length : Int) < 301 := by have := typeb_len HTA.out; omega
        obtain ⟨hsl, hs3⟩ := solve_len HRES.out
        have HHBL : Hid (bs.length = l) := hbl
        rw [hbl] at hsl
        clear hrx3 hn3 hans hBs hbw3 hbl
        cases ok
        · have HM : Hid (Qac a b [] false) := .inr ⟨HTA.out, HTB.out, rfl, 301, false, at', bs, hfa, HRES.out, rfl⟩
          clear hrx4 hans4 hs3
          go_wp2
          go_ret2
          exact ⟨z, _, _, [], false, rfl, by omega, rfl, hn4, HM.out, by rw [hz]; exact hbw4⟩
        · have HMR : Hid (Qac a b (canonOf (putOf bs (canonOf a))) (decide (0 < (canonOf (putOf bs (canonOf a))).length))) := .inr ⟨HTA.out, HTB.out, rfl, 301, true, at', bs, hfa, HRES.out, rfl⟩
          have HPU := specPut_any bs l HHBL (by omega) (fun b hb => by have := hs3 b hb; omega) (canonOf a) lx HLX (by omega) so (some ⟨gx, 0, none⟩) c cx _ hans4 hrx4.nodes
          clear hans4 hrx4 hs3
          go_wp2_with fail
          refine HPU.mono ?_
          rintro e w5 ⟨gp, cp, lp, rfl, hgp, hlp, hrp, hb5⟩
          have hn5 := hn4.below hb5
          have hbw5 : Below z w w5 := hbw4.trans (hb5.mono (by have := hbw4.size; omega))
          have HLP : Hid ((putOf bs (canonOf a)).length = lp) := hlp
          have hlp3 : lp ≤ 300 := by
            have h9 := hlp
            unfold putOf at h9
            split at h9
            · next h8 => have := h8.2.2; omega
            · simp at h9; omega
          have hz5 := hbw5.size
          clear HPU hlp hn4 hbw4 hb5
          by_cases hlp0 : lp = 0
          · subst hlp0
            have e1 : canonOf (putOf bs (canonOf a)) = [] := by
              have h9 := (Qer bs (canonOf a)).1
              rw [HLP.out] at h9
              exact List.length_eq_zero_iff.1 (by rcases Nat.eq_zero_or_pos (canonOf (putOf bs (canonOf a))).length with h8 | h8; exact h8; exact absurd (h9 h8) (by omega))
            rw [e1] at HMR
            have HM : Hid (Qac a b [] false) := HMR.out
            clear HMR e1
            go_wp2
            go_ret2
            exact ⟨z, _, _, [], false, rfl, by omega, rfl, hn5, HM.out, by rw [hz]; exact hbw5⟩
          · have t3 : ((lp : Int) == 0) = false := by simp; omega
            have e1 : decide (0 < (canonOf (putOf bs (canonOf a))).length) = true := decide_eq_true ((Qer bs (canonOf a)).2 (by rw [HLP.out]; omega))
            rw [e1] at HMR
            have HCA := specCanon_any (putOf bs (canonOf a)) lp HLP (by omega) (some ⟨gp, 0, none⟩) cp w5 hrp.nodes
            clear e1 hrp
            go_wp2_with fail
            refine HCA.mono ?_
            rintro e w6 ⟨gr, cr, lr, rfl, hgr, hlr, hrr, hb6⟩
            have hbw6 : Below z w w6 := hbw5.trans (hb6.mono (by omega))
            have HF : Hid (∃ out : List Nd, out.length = lr ∧ Row w6 gr out ∧ Qac a b out true) := ⟨_, hlr, hrr, HMR.out⟩
            clear HCA hlr hrr HMR hb6
            go_wp2
            go_ret2
            obtain ⟨out, ho1, ho2, ho3⟩ := HF.out
            exact ⟨gr, _, _, out, true, rfl, by omega, ho1, ho2, ho3, by rw [hz]; exact hbw6⟩
end Go.Proofs.YtoiiibplkhedcaaGreatDoor

import Derived.Test.YtoiiibplkhedcaaGreatDoorSInstC
import Derived.StillTactics
set_option maxRecDepth 100000
set_option maxHeartbeats 8000000
namespace Go.Proofs.YtoiiibplkhedcaaGreatDoor
open Go.RowKit
theorem Qoe (W : World) {x y : List Nd} {ax ay : Option Addr} {cx cy : Nat} (hx : Nodes W ax x) (hy : Nodes W ay y) :
    Pairs (W.alloc (.cells #[.slice ax x.length cx, .slice ay y.length cy] 49)) (some ⟨W.heap.size, 0, none⟩) [(x, y)] := by
  have hB : Below W.heap.size W (W.alloc (.cells #[.slice ax x.length cx, .slice ay y.length cy] 49)) := (Below.refl _ W).alloc (Nat.le_refl _) _
  intro i hi
  have h0 : i = 0 := by simp at hi; omega
  subst h0
  refine ⟨W.heap.size, 0, ax, cx, ay, cy, rfl, ?_, ?_, hx.below hB, hy.below hB⟩
  · rw [cell_of_row _ _ _ _ _ _ (heap_alloc_new _ _)]; rfl
  · rw [cell_of_row _ _ _ _ _ _ (heap_alloc_new _ _)]; rfl
def Qgi (t : List Nd) : List Nd := ren (fun x => x + 300) t
theorem Qsm {b : List Nd} (hb : typeb b = true) : Qgi (Qab b) = Qbq 301 b := by
  rw [Qbk hb]
  unfold Qgi Qbq
  rw [(Qsb 1 301 b b.length (Nat.le_refl _)).2]
  rfl
theorem Qle {t : List Nd} {k : Nat} (h : k < t.length) : Qgi (t.take (k + 1)) = Qgi (t.take k) ++ [renN (fun x => x + 300) t[k]] := by
  unfold Qgi
  rw [List.take_succ_eq_append_getElem h, Qdj]
  rfl
theorem Qrq {b : List Nd} (hb : typeb b = true) : ∀ n ∈ Qab b, n.kind = 61 → 1 ≤ n.num ∧ n.num ≤ 300 := by
  intro n hn hk
  rw [Qbk hb] at hn
  have hl := Qao hb
  rcases Qge 1 b b.length (Nat.le_refl _) n hn with h | h
  · exact absurd hk h.2
  · omega
theorem Qvs (w : World) : Row (w.alloc (.cells #[] 43)) w.heap.size [] := (OwnN.empty (w := w) (B := w.heap.size) (Nat.le_refl _)).row.2
theorem Jcr {w : World} {g k : Nat} {t : List Nd} (hk : k < t.length) {kd nm : Int} {tx : ByteArray} {ks pl : Int} (hx : t[k] = ⟨kd, nm, tx, ks, pl⟩) (h : Row w g (Qgi (t.take k) ++ t.drop k)) :
    NodeAt w g (k * 5) ⟨kd, nm, tx, ks, pl⟩ ∧ w.frozen? ⟨g, k * 5 + 1, none⟩ = false ∧
      (kd = 61 → Row (w.setCell ⟨g, k * 5 + 1, none⟩ (.int .i64 (nm + 300))) g (Qgi (t.take (k + 1)) ++ t.drop (k + 1))) ∧ (kd ≠ 61 → Row w g (Qgi (t.take (k + 1)) ++ t.drop (k + 1))) := by
  have hd : t.drop k = (⟨kd, nm, tx, ks, pl⟩ : Nd) :: t.drop (k + 1) := by rw [List.drop_eq_getElem_cons hk, hx]
  have hl : (Qgi (t.take k)).length = k := by unfold Qgi; rw [Qcl]; simp; omega
  rw [hd] at h
  have hlen : k < (Qgi (t.take k) ++ (⟨kd, nm, tx, ks, pl⟩ : Nd) :: t.drop (k + 1)).length := by simp [hl]
  have e9 : (Qgi (t.take k) ++ (⟨kd, nm, tx, ks, pl⟩ : Nd) :: t.drop (k + 1))[k] = ⟨kd, nm, tx, ks, pl⟩ := by
    rw [List.getElem_append_right (by omega)]
    simp [hl]
  have hn := h.node k hlen
  rw [e9] at hn
  refine ⟨hn, h.frozen _, fun h61 => ?_, fun h61 => ?_⟩
  · have := h.putMid (v := nm + 300) hl
    rw [Qle hk, hx]
    have e : renN (fun x => x + 300) ⟨kd, nm, tx, ks, pl⟩ = ⟨kd, nm + 300, tx, ks, pl⟩ := by simp [renN, h61]
    rw [e]
    exact this
  · rw [Qle hk, hx]
    have e : renN (fun x => x + 300) ⟨kd, nm, tx, ks, pl⟩ = ⟨kd, nm, tx, ks, pl⟩ := by simp [renN, h61]
    rw [e, List.append_assoc]
    exact h
theorem Qnr (a b : List Nd) (ma mb : Nat) (HMA : Hid (a.length = ma)) (HMB : Hid (b.length = mb)) (hma : ma ≤ 1048576) (hmb : mb ≤ 1048576) (ao bo : Option Addr) (ca cb : Nat) (w : World) (hx : Nodes w ao a) (hy : Nodes w bo b) :
    Calls Tryz.prog 5 #[.slice ao ma ca, .slice bo mb cb] w fun e w' => ∃ g c l out fl, e = .returned (.tuple #[.slice (some ⟨g, 0, none⟩) l c, .bool fl]) ∧ w.heap.size ≤ g ∧ out.length = l ∧ Row w' g out ∧ Qbe a b out fl ∧ Below w.heap.size w w' := by
  obtain ⟨z, hz⟩ : ∃ z, w.heap.size = z := ⟨_, rfl⟩
  have hB0 : Below w.heap.size w (w.alloc (.cells #[] 43)) := (Below.refl _ w).alloc (Nat.le_refl _) _
  have hx0 := hx.below hB0
  have hy0 := hy.below hB0
  have hn0 := Qvs w
  rw [hz] at hB0 hn0
  go_enter Tryz.func5, Tryz.ntmps5
  go_wp2_with fail
  refine (Qet a ma HMA hma ao ca _ hx0).mono ?_
  rintro e w1 ⟨gx, cx, lx, rfl, hgx, hlx, hrx, hb1⟩
  have hy1 := hy0.below hb1
  have hn1 := hn0.below hb1
  have hbw1 : Below z w w1 := hB0.trans (hb1.mono (by have := hB0.size; omega))
  have hgx0 : z + 1 ≤ gx := by simpa [hz] using hgx
  clear hx hy hx0 hy0 hB0 hb1 hn0 hgx
  go_wp2_with fail
  refine (Qet b mb HMB hmb bo cb _ hy1).mono ?_
  rintro e w2 ⟨gy, cy, ly, rfl, hgy, hly, hry, hb2⟩
  have hrx2 := hrx.below hb2
  have hn2 := hn1.below hb2
  have hbw2 : Below z w w2 := hbw1.trans (hb2.mono (by have := hbw1.size; omega))
  have hgxl := hrx.lt
  have hgxy : gx ≠ gy := by omega
  have hzl2 := hn2.lt
  have hgy0 : z + 1 ≤ gy := by omega
  have hgyl := hry.lt
  clear hy1 hn1 hb2 hrx hbw1 hgy
  have HLX : Hid ((Qab a).length = lx) := hlx
  have HLY : Hid ((Qab b).length = ly) := hly
  have HRX : Hid (Row w2 gx (Qab a)) := hrx2
  have HRY : Hid (Row w2 gy (Qab b)) := hry
  have HN : Hid (Row w2 z []) := hn2
  clear hlx hly hrx2 hry hn2
  by_cases hbad : lx = 0 ∨ ly = 0
  · have HRES : Hid (Qbe a b [] false) := by
      refine .inl ⟨?_, rfl, rfl⟩
      rcases hbad with h | h
      · exact .inl (canon_empty.1 (HLX.out.trans h))
      · exact .inr (canon_empty.1 (HLY.out.trans h))
    by_cases hlx0 : lx = 0
    · subst hlx0
      go_wp2
      go_ret2
      exact ⟨z, _, _, [], false, rfl, by omega, rfl, HN.out, HRES.out, by rw [hz]; exact hbw2⟩
    · have hly0 : ly = 0 := by omega
      subst hly0
      have t1 : ((lx : Int) == 0) = false := by simp; omega
      go_wp2
      go_ret2
      exact ⟨z, _, _, [], false, rfl, by omega, rfl, HN.out, HRES.out, by rw [hz]; exact hbw2⟩
  · have hlx0 : lx ≠ 0 := fun h => hbad (.inl h)
    have hly0 : ly ≠ 0 := fun h => hbad (.inr h)
    have t1 : ((lx : Int) == 0) = false := by simp; omega
    have t2 : ((ly : Int) == 0) = false := by simp; omega
    have hta : typeb a = true := by
      cases h : typeb a
      · exact absurd (HLX.out.symm.trans (canon_empty.2 h)) hlx0
      · rfl
    have htb : typeb b = true := by
      cases h : typeb b
      · exact absurd (HLY.out.symm.trans (canon_empty.2 h)) hly0
      · rfl
    have HTA : Hid (typeb a = true) := hta
    have HTB : Hid (typeb b = true) := htb
    have hly3 : ly ≤ 300 := by have := Qga htb; have := Qao htb; have := HLY.out; omega
    have hlx3 : lx ≤ 300 := by have := Qga hta; have := Qao hta; have := HLX.out; omega
    clear hbad hta htb
    go_wp2
    go_loopw [9] (fun vi wr => ∃ k : Nat, k ≤ ly ∧ vi = .int .i64 (k : Int) ∧ Row wr gy (Qgi ((Qab b).take k) ++ (Qab b).drop k) ∧ Row wr gx (Qab a) ∧ Row wr z [] ∧ Below z w wr ∧ w2.heap.size ≤ wr.heap.size) (fun vi _ => ly - (intOf vi).toNat)
    case atStart => exact ⟨0, Nat.zero_le _, rfl, by simpa [Qgi, ren] using HRY.out, HRX.out, HN.out, hbw2, Nat.le_refl _⟩
    case round =>
      obtain ⟨k, hk, rfl, hry, hrx, hn, hb, hsz⟩ := hrel
      have hgl : gy < wr.heap.size := by omega
      by_cases hlt : k < ly
      · have hltx : k < (Qab b).length := by have := HLY.out; omega
        obtain ⟨⟨kd, nm, tx, ks, pl⟩, hxk⟩ : ∃ x, (Qab b)[k] = x := ⟨_, rfl⟩
        have hbd : kd = 61 → 1 ≤ nm ∧ nm ≤ 300 := by
          intro h9
          have := Qrq HTB.out (Qab b)[k] (List.getElem_mem hltx) (by rw [hxk]; exact h9)
          rw [hxk] at this
          exact this
        obtain ⟨⟨c0, c1, c2, c3, c4⟩, hfz, hup, hno⟩ := Jcr hltx hxk hry
        simp only at c0 c1 c2 c3 c4
        have HUP : Hid (kd = 61 → Row (wr.setCell ⟨gy, k * 5 + 1, none⟩ (.int .i64 (nm + 300))) gy (Qgi ((Qab b).take (k + 1)) ++ (Qab b).drop (k + 1))) := hup
        have HNO : Hid (kd ≠ 61 → Row wr gy (Qgi ((Qab b).take (k + 1)) ++ (Qab b).drop (k + 1))) := hno
        clear hup hno hxk hry
        by_cases h61 : kd = 61
        · subst h61
          obtain ⟨hb1, hb2⟩ := hbd rfl
          have HBUT : Hid (But (fun q => q = gy) wr (wr.setCell ⟨gy, k * 5 + 1, none⟩ (.int .i64 (nm + 300)))) := But.setCell (S := fun q => q = gy) (But.refl _ _) (p := ⟨gy, k * 5 + 1, none⟩) rfl _
          go_wp2
          go_roundw
          case rel => exact ⟨k + 1, by omega, by go_num, HUP.out rfl, HBUT.out.row hrx hgxy, HBUT.out.row hn (fun h9 => by have h8 : z = gy := h9; omega), hb.setCell (p := ⟨gy, k * 5 + 1, none⟩) (show z ≤ gy by omega) _, by rw [Qak]; exact hsz⟩
          case measure => simp [intOf]; omega
        · have t61 : ((kd : Int) == 61) = false := by simpa using h61
          go_wp2
          go_roundw
          case rel => exact ⟨k + 1, by omega, by go_num, HNO.out h61, hrx, hn, hb, hsz⟩
          case measure => simp [intOf]; omega
      · obtain rfl : k = ly := by omega
        have HY : Hid (Row wr gy (Qbq 301 b)) := by
          have h9 := hry
          rw [List.take_of_length_le (by have := HLY.out; omega), List.drop_of_length_le (by have := HLY.out; omega), List.append_nil, Qsm HTB.out] at h9
          exact h9
        clear hry
        have hmy : (Qbq 301 b).length = k := by
          unfold Qbq
          rw [(Qcy 301 b b.length (Nat.le_refl _)).1, ← Qga HTB.out, HLY.out]
        have HPR := Qoe wr (cx := cx) (cy := cy) hrx.nodes HY.out.nodes
        rw [HLX.out, hmy] at HPR
        have hBp : Below wr.heap.size wr (wr.alloc (.cells #[.slice (some ⟨gx, 0, none⟩) lx cx, .slice (some ⟨gy, 0, none⟩) k cy] 49)) := (Below.refl _ wr).alloc (Nat.le_refl _) _
        have HSO := Qmg [(Qab a, Qbq 301 b)] 1 rfl (by decide) (by intro p hp; simp only [List.mem_singleton] at hp; subst hp; simp only [hmy, HLX.out]; omega) _ 1 _ HPR
        have hrxp := hrx.below hBp
        have hnp := hn.below hBp
        have hbp : Below z w (wr.alloc (.cells #[.slice (some ⟨gx, 0, none⟩) lx cx, .slice (some ⟨gy, 0, none⟩) k cy] 49)) := hb.trans (hBp.mono (by omega))
        clear hBp HPR hrx hn hb
        go_wp2_with fail
        refine HSO.mono ?_
        rintro e w3 ⟨ok, at', so, l, c, bs, rfl, hbl, hres, hans, hb3⟩
        have hrx3 := hrxp.below hb3
        have hn3 := hnp.below hb3
        have hbw3 : Below z w w3 := hbp.trans (hb3.mono (by have := hbp.size; omega))
        have hz3 := hbw3.size
        have HRES : Hid (SolveRes [(Qab a, Qbq 301 b)] ok at' bs) := hres
        clear HSO hrxp hnp hbp hb3 hres
        have hBs : Below w3.heap.size w3 (w3.alloc (.cells #[.bool ok, .int .i64 at', .slice so l c] 46)) := (Below.refl _ w3).alloc (Nat.le_refl _) _
        have hrx4 := hrx3.below hBs
        have hn4 := hn3.below hBs
        have hans4 := hans.binds.below hBs
        have hbw4 : Below z w (w3.alloc (.cells #[.bool ok, .int .i64 at', .slice so l c] 46)) := hbw3.trans (hBs.mono (by omega))
        have hfa : (a.length : Int) < 301 := by have := Qao HTA.out; omega
        obtain ⟨hsl, hs3⟩ := Qnv HRES.out
        have HHBL : Hid (bs.length = l) := hbl
        rw [hbl] at hsl
        clear hrx3 hn3 hans hBs hbw3 hbl
        cases ok
        · have HM : Hid (Qbe a b [] false) := .inr ⟨HTA.out, HTB.out, rfl, 301, false, at', bs, hfa, HRES.out, rfl⟩
          clear hrx4 hans4 hs3
          go_wp2
          go_ret2
          exact ⟨z, _, _, [], false, rfl, by omega, rfl, hn4, HM.out, by rw [hz]; exact hbw4⟩
        · have HMR : Hid (Qbe a b (Qab (Qai bs (Qab a))) (decide (0 < (Qab (Qai bs (Qab a))).length))) := .inr ⟨HTA.out, HTB.out, rfl, 301, true, at', bs, hfa, HRES.out, rfl⟩
          have HPU := Qqe bs l HHBL (by omega) (fun b hb => by have := hs3 b hb; omega) (Qab a) lx HLX (by omega) so (some ⟨gx, 0, none⟩) c cx _ hans4 hrx4.nodes
          clear hans4 hrx4 hs3
          go_wp2_with fail
          refine HPU.mono ?_
          rintro e w5 ⟨gp, cp, lp, rfl, hgp, hlp, hrp, hb5⟩
          have hn5 := hn4.below hb5
          have hbw5 : Below z w w5 := hbw4.trans (hb5.mono (by have := hbw4.size; omega))
          have HLP : Hid ((Qai bs (Qab a)).length = lp) := hlp
          have hlp3 : lp ≤ 300 := by
            have h9 := hlp
            unfold Qai at h9
            split at h9
            · next h8 => have := h8.2.2; omega
            · simp at h9; omega
          have hz5 := hbw5.size
          clear HPU hlp hn4 hbw4 hb5
          by_cases hlp0 : lp = 0
          · subst hlp0
            have e1 : Qab (Qai bs (Qab a)) = [] := by
              have h9 := (Qpr bs (Qab a)).1
              rw [HLP.out] at h9
              exact List.length_eq_zero_iff.1 (by rcases Nat.eq_zero_or_pos (Qab (Qai bs (Qab a))).length with h8 | h8; exact h8; exact absurd (h9 h8) (by omega))
            rw [e1] at HMR
            have HM : Hid (Qbe a b [] false) := HMR.out
            clear HMR e1
            go_wp2
            go_ret2
            exact ⟨z, _, _, [], false, rfl, by omega, rfl, hn5, HM.out, by rw [hz]; exact hbw5⟩
          · have t3 : ((lp : Int) == 0) = false := by simp; omega
            have e1 : decide (0 < (Qab (Qai bs (Qab a))).length) = true := decide_eq_true ((Qpr bs (Qab a)).2 (by rw [HLP.out]; omega))
            rw [e1] at HMR
            have HCA := Qet (Qai bs (Qab a)) lp HLP (by omega) (some ⟨gp, 0, none⟩) cp w5 hrp.nodes
            clear e1 hrp
            go_wp2_with fail
            refine HCA.mono ?_
            rintro e w6 ⟨gr, cr, lr, rfl, hgr, hlr, hrr, hb6⟩
            have hbw6 : Below z w w6 := hbw5.trans (hb6.mono (by omega))
            have HF : Hid (∃ out : List Nd, out.length = lr ∧ Row w6 gr out ∧ Qbe a b out true) := ⟨_, hlr, hrr, HMR.out⟩
            clear HCA hlr hrr HMR hb6
            go_wp2
            go_ret2
            obtain ⟨out, ho1, ho2, ho3⟩ := HF.out
            exact ⟨gr, _, _, out, true, rfl, by omega, ho1, ho2, ho3, by rw [hz]; exact hbw6⟩
theorem Qhq {t : List Nd} (h : typeb t = true) : 0 < t.length ∧ t.length ≤ 300 := by
  simp only [typeb, Bool.and_eq_true, decide_eq_true_eq] at h
  obtain ⟨⟨h1, h2⟩, _⟩ := h
  refine ⟨?_, h1⟩
  obtain ⟨h3, _⟩ := Qii rfl h2
  exact h3
theorem Qkw (t : List Nd) (m : Nat) (HM : Hid (t.length = m)) (hm : m ≤ 1048576) (HW : Hid (∀ n ∈ t, n.kind = 61 → (Lit.int .i64 n.num).wf = true)) (ao : Option Addr) (cap : Nat) (w : World) (hx : Nodes w ao t) :
    Calls Tryz.prog 21 #[.slice ao m cap] w fun e w' => ∃ ag cg, e = .returned (.slice ag (Qab t).length cg) ∧ Ans w' w.heap.size ag (Qab t) ∧ Below w.heap.size w w' := by
  have HT := Qbr t m HM hm ao cap w hx
  cases ht : typeb t
  · rw [ht] at HT
    have HV : Hid (Qab t = []) := by simp [Hid, Qab, ht]
    clear hx
    go_enter Tryz.func21, Tryz.ntmps21
    go_wp2_with fail
    refine HT.mono ?_
    rintro e w1 ⟨rfl, hb1⟩
    clear HT
    go_wp2
    go_ret
    rw [HV.out]
    exact ⟨_, _, rfl, Or.inl rfl, hb1.alloc hb1.size _⟩
  · rw [ht] at HT
    obtain ⟨h0, h3⟩ := Qhq ht
    have h3m : m ≤ 300 := by have := HM.out; omega
    obtain ⟨b, o, rfl, hn0⟩ := hx 0 h0
    have HV : Hid (Qab t = (nmTo 1 t m).2) := by
      rw [Hid, Qab, if_pos ht, Qja, HM.out]
    have HL : Hid ((nmTo 1 t m).2.length = m) := (Qcy 1 t m (by have := HM.out; omega)).1
    clear hn0 h0 h3
    go_enter Tryz.func21, Tryz.ntmps21
    go_wp2_with fail
    refine HT.mono ?_
    rintro e w1 ⟨rfl, hb1⟩
    have hx1 := hx.below hb1
    clear HT hx
    go_wp2_with fail
    refine (Qdc 1 (by omega) (by omega) t m HM h3m HW b o cap w1 hx1).mono ?_
    rintro e w2 ⟨g, c, rfl, hg, hr, hb2⟩
    have hs := hb1.size
    have hb := Below.step hb1 hb2
    clear hb1 hb2 hx1
    go_wp2
    go_ret
    rw [HV.out, HL.out]
    exact ⟨_, _, rfl, hr.ans (by omega), hb⟩
theorem Qui (t : List Nd) : (Qab t).length ≤ t.length := by
  unfold Qab
  split
  · have := (Qdw t t.length (Nat.le_refl _)).1
    omega
  · simp
theorem Qow (a b : List Nd) (ma mb : Nat) (HMA : Hid (a.length = ma)) (HMB : Hid (b.length = mb)) (hma : ma ≤ 1048576) (hmb : mb ≤ 1048576) (HWA : Hid (∀ n ∈ a, (Lit.int .i64 n.num).wf = true)) (HWB : Hid (∀ n ∈ b, (Lit.int .i64 n.num).wf = true)) (gp : Value) (ao bo : Option Addr) (ca cb : Nat) (w : World) (hgv : w.cell? ⟨0, 0, none⟩ = some (.iface 232 gp)) (hgt : ErrT w) (hx : Nodes w ao a) (hy : Nodes w bo b) :
    Calls Tryz.prog 6 #[.slice ao ma ca, .slice bo mb cb] w fun e w' => ∃ ag cg out fl, e = .returned (.tuple #[.slice ag out.length cg, .bool fl]) ∧ Qbe a b out fl ∧ Ans w' w.heap.size ag out ∧ Below w.heap.size w w' := by
  obtain ⟨z, hz⟩ : ∃ z, w.heap.size = z := ⟨_, rfl⟩
  have hz1 : 1 < z := by rw [← hz]; exact Qaa hgt
  have HGV : Hid (w.cell? ⟨0, 0, none⟩ = some (.iface 232 gp)) := hgv
  have HGT : Hid (ErrT w) := hgt
  clear hgv hgt
  go_enter Tryz.func6, Tryz.ntmps6
  go_wp2_with fail
  refine (Qbr a ma HMA hma _ _ _ hx).mono ?_
  rintro e w1 ⟨rfl, hb1⟩
  cases hta : typeb a
  · have HR : Hid (Qbe a b [] false) := .inl ⟨.inl hta, rfl, rfl⟩
    clear hx hy
    go_wp2
    go_ret2
    exact ⟨_, _, [], false, rfl, HR.out, .inl rfl, hb1.alloc hb1.size _⟩
  · go_wp2_with fail
    refine (Qbr b mb HMB hmb _ _ _ (hy.below hb1)).mono ?_
    rintro e w2 ⟨rfl, hb2⟩
    have hb2 := Below.step hb1 hb2
    clear hb1
    cases htb : typeb b
    · have HR : Hid (Qbe a b [] false) := .inl ⟨.inr htb, rfl, rfl⟩
      clear hx hy
      go_wp2
      go_ret2
      exact ⟨_, _, [], false, rfl, HR.out, .inl rfl, hb2.alloc hb2.size _⟩
    · have HTA : Hid (typeb a = true) := hta
      have HTB : Hid (typeb b = true) := htb
      obtain ⟨h0a, h3a⟩ := Qhq hta
      obtain ⟨h0b, h3b⟩ := Qhq htb
      have hma3 : ma ≤ 300 := by have := HMA.out; omega
      have hmb3 : mb ≤ 300 := by have := HMB.out; omega
      obtain ⟨ab, ai, rfl, hq1⟩ := hx 0 h0a
      obtain ⟨bb, bi, rfl, hq2⟩ := hy 0 h0b
      have hx2 := hx.below hb2
      have hy2 := hy.below hb2
      have hbw2 : Below z w w2 := by rw [← hz]; exact hb2
      clear hq1 hq2
      clear hx hy h0a h3a h0b h3b hta htb hb2
      go_wp2_with fail
      refine (Qdc 1 (by omega) (by omega) a ma HMA hma3 (fun n hn _ => HWA.out n hn) ab ai ca w2 hx2).mono ?_
      rintro e w3 ⟨gx, cx, rfl, hgx, hrx, hb3⟩
      have hy3 := hy2.below hb3
      have hz2 := hbw2.size
      have hbw3 : Below z w w3 := hbw2.trans (hb3.mono (by omega))
      have hz3 := hbw3.size
      clear hx2 hy2 hbw2 hb3
      have HNF := Qdc ((ma : Int) + 1) (by omega) (by omega) b mb HMB hmb3 (fun n hn _ => HWB.out n hn) bb bi cb w3 hy3
      go_wp2_with fail
      refine HNF.mono ?_
      rintro e w4 ⟨gy, cy, rfl, hgy, hry, hb4⟩
      have hrx4 := hrx.below hb4
      have hbw4 : Below z w w4 := hbw3.trans (hb4.mono (by omega))
      have hz4 := hbw4.size
      have ex : (nmTo 1 a ma).2 = Qab a := by rw [Qbk HTA.out, HMA.out]
      have ey : (nmTo ((ma : Int) + 1) b mb).2 = Qbq ((a.length : Int) + 1) b := by unfold Qbq; rw [HMA.out, HMB.out]
      rw [ex] at hrx4
      rw [ey] at hry
      have hlx : (Qab a).length = ma := by rw [Qga HTA.out, HMA.out]
      have hly : (Qbq ((a.length : Int) + 1) b).length = mb := by
        unfold Qbq
        rw [(Qcy _ b b.length (Nat.le_refl _)).1, HMB.out]
      have HPR := Qoe w4 (cx := cx) (cy := cy) hrx4.nodes hry.nodes
      rw [hlx, hly] at HPR
      have hBp : Below w4.heap.size w4 (w4.alloc (.cells #[.slice (some ⟨gx, 0, none⟩) ma cx, .slice (some ⟨gy, 0, none⟩) mb cy] 49)) := (Below.refl _ w4).alloc (Nat.le_refl _) _
      have hbwp : Below z w (w4.alloc (.cells #[.slice (some ⟨gx, 0, none⟩) ma cx, .slice (some ⟨gy, 0, none⟩) mb cy] 49)) := hbw4.trans (hBp.mono (by omega))
      have hrxp := hrx4.below hBp
      have HWX : Hid (∀ n ∈ Qab a, (Lit.int .i64 n.num).wf = true) := by
        rw [Hid, Qbk HTA.out]
        exact Jcy 1 (by omega) (by omega) (Qao HTA.out) HWA.out
      have HSO := Qmt [(Qab a, Qbq ((a.length : Int) + 1) b)] 1 rfl (by decide) (by intro p hp; simp only [List.mem_singleton] at hp; subst hp; simp only [hlx, hly]; omega)
        (by
          intro p hp
          simp only [List.mem_singleton] at hp
          subst hp
          refine ⟨HWX.out, ?_⟩
          exact Jcy _ (by omega) (by have := Qao HTA.out; omega) (Qao HTB.out) HWB.out) gp _ 1 _ ((hbwp.cell (p := ⟨0, 0, none⟩) (by show 0 < z; omega)).trans HGV.out) (HGT.out.below hbwp hz1) HPR
      have HLX : Hid ((Qab a).length = ma) := hlx
      clear HNF hrx hry hrx4 hb4 hbw3 hbw4 ex ey hlx hly HPR hBp hy3 hgy
      go_wp2_with fail
      refine HSO.mono ?_
      rintro e w5 ⟨ok, at', so, l, c, bs, rfl, hbl, hres, hans, hb5⟩
      have hrx5 := hrxp.below hb5
      have hbw5 : Below z w w5 := hbwp.trans (hb5.mono (by have := hbwp.size; omega))
      have hz5 := hbw5.size
      obtain ⟨hsl, hs3⟩ := Qnv hres
      obtain ⟨hwb, hwp⟩ := Jca HTA.out HTB.out (by omega) (by have := Qao HTA.out; omega) hres
      have HWBS : Hid (∀ b ∈ bs, (Lit.int .i64 b.1).wf = true) := hwb
      have HWP : Hid (∀ n ∈ Qai bs (Qab a), n.kind = 61 → (Lit.int .i64 n.num).wf = true) := hwp
      have HRES : Hid (SolveRes [(Qab a, Qbq ((a.length : Int) + 1) b)] ok at' bs) := hres
      have HHBL : Hid (bs.length = l) := hbl
      rw [hbl] at hsl
      have hBs : Below w5.heap.size w5 (w5.alloc (.cells #[.bool ok, .int .i64 at', .slice so l c] 46)) := (Below.refl _ w5).alloc (Nat.le_refl _) _
      have hrx6 := hrx5.below hBs
      have hans6 := hans.binds.below hBs
      have hbw6 : Below z w (w5.alloc (.cells #[.bool ok, .int .i64 at', .slice so l c] 46)) := hbw5.trans (hBs.mono (by omega))
      have HK : Hid (∀ b ∈ bs, b.2.length ≤ 1048576) := fun b hb => by have := hs3 b hb; omega
      clear HSO hrxp hbwp hb5 hrx5 hans hres hwb hwp hbl hBs hs3
      cases ok
      · have HM : Hid (Qbe a b [] false) := .inr ⟨HTA.out, HTB.out, rfl, _, false, at', bs, by omega, HRES.out, rfl⟩
        clear hrx6 hans6
        go_wp2
        go_ret2
        exact ⟨_, _, [], false, rfl, HM.out, .inl rfl, by rw [hz]; exact hbw6.alloc (by have := hbw6.size; omega) _⟩
      · have HMR : Hid (Qbe a b (Qab (Qai bs (Qab a))) (decide (0 < (Qab (Qai bs (Qab a))).length))) := .inr ⟨HTA.out, HTB.out, rfl, _, true, at', bs, by omega, HRES.out, rfl⟩
        have HPU := Qri bs l HHBL (by omega) HK HWBS (Qab a) ma HLX hma HWX so (some ⟨gx, 0, none⟩) c cx _ hans6 hrx6.nodes
        clear hans6 hrx6
        go_wp2_with fail
        refine HPU.mono ?_
        rintro e w7 ⟨pg, pc, rfl, hpa, hb7⟩
        have hbw7 : Below z w w7 := hbw6.trans (hb7.mono (by have := hbw6.size; omega))
        have hz7 := hbw7.size
        have hlp3 : (Qai bs (Qab a)).length ≤ 300 := by
          unfold Qai
          split
          · next h8 => exact h8.2.2
          · simp
        obtain ⟨lp, hlp⟩ : ∃ lp, (Qai bs (Qab a)).length = lp := ⟨_, rfl⟩
        have HLP : Hid ((Qai bs (Qab a)).length = lp) := hlp
        rw [hlp] at hlp3 ⊢
        have HCA := Qkw (Qai bs (Qab a)) lp HLP (by omega) HWP pg pc w7 hpa.nodes
        clear HPU hbw6 hb7 hpa hlp
        go_wp2_with fail
        refine HCA.mono ?_
        rintro e w8 ⟨cg, cc, rfl, hca, hb8⟩
        have hbw8 : Below z w w8 := hbw7.trans (hb8.mono (by omega))
        have hans8 : Ans w8 z cg (Qab (Qai bs (Qab a))) := hca.mono (by omega)
        obtain ⟨out, hout⟩ : ∃ out, Qab (Qai bs (Qab a)) = out := ⟨_, rfl⟩
        rw [hout] at hans8 HMR ⊢
        have hol : out.length ≤ 300 := by
          rw [← hout]
          have := Qui (Qai bs (Qab a))
          rw [HLP.out] at this
          omega
        have HANS : Hid (Ans w8 z cg out) := hans8
        clear HCA hca hb8 hout hans8
        obtain ⟨lo, hlo⟩ : ∃ lo, out.length = lo := ⟨_, rfl⟩
        have HLO : Hid (out.length = lo) := hlo
        have HMR2 : Hid (Qbe a b out (decide (0 < lo))) := by
          rw [← hlo]; exact HMR.out
        rw [hlo] at hol ⊢
        clear hlo HMR
        go_wp2
        go_ret2
        exact ⟨cg, cc, out, decide (0 < lo), by rw [HLO.out]; rfl, HMR2.out, by rw [hz]; exact HANS.out, by rw [hz]; exact hbw8⟩
theorem neqS (x : Nd) (w : World) :
    (binOp .neq 43 (.agg #[.int .i64 x.kind, .int .i64 x.num, .string x.text, .int .i64 x.kids, .int .i64 x.place]) (.agg #[.int .i64 x.kind, .int .i64 x.num, .string x.text, .int .i64 x.kids, .int .i64 x.place])).run Tryz.prog w =
      .ok (.bool false) w := by
  go_simp
  repeat' split
  all_goals simp_all
theorem Tryz.mixed : Tryz.prog.follows .mixedOrders = true := by kernel_rfl
theorem Qjh (xs : List Nd) (n : Nat) (HX : Hid (xs.length = n)) (ao bo : Option Addr) (cap cbp : Nat) (w : World) (hx : Nodes w ao xs) (hy : Nodes w bo xs) (hlx : n ≤ 1048576) :
    Calls Tryz.prog 7 #[.slice ao n cap, .slice bo n cbp] w fun e w' => e = .returned (.bool true) ∧ Below w.heap.size w w' := by
  go_enter Tryz.func7, Tryz.ntmps7
  go_wp2
  go_loopw [5] (fun i wr => ∃ (k : Nat), k ≤ n ∧ i = .int .i64 k ∧ Below w.heap.size w wr) (fun i _ => n - (intOf i).toNat)
  case atStart => exact ⟨0, Nat.zero_le _, rfl, Below.refl _ _⟩
  case round =>
    obtain ⟨k, hk, rfl, hb⟩ := hrel
    by_cases hlt : k < n
    · have hltk : k < xs.length := by have := HX.out; omega
      obtain ⟨b, o, rfl, hn⟩ := hx.below hb k hltk
      obtain ⟨b', o', rfl, hn'⟩ := hy.below hb k hltk
      obtain ⟨x, hxk⟩ : ∃ x, xs[k] = x := ⟨_, rfl⟩
      rw [hxk] at hn hn'
      obtain ⟨c0, c1, c2, c3, c4⟩ := hn
      obtain ⟨d0, d1, d2, d3, d4⟩ := hn'
      clear hx hy hxk
      have hne := neqS x
      go_wp2
      go_still Tryz.mixed
      have hb2 : Below w.heap.size w wr.drew := hb.drew
      go_wp2
      go_roundw
      case rel => exact ⟨k + 1, by omega, by go_num, hb2⟩
      case measure => (simp [intOf]) <;> omega
    · clear hx hy
      go_wp2
      go_ret
      exact ⟨rfl, hb⟩
theorem SideOk2.wf {t : List Nd} (h : SideOk2 t) : ∀ x ∈ t, (Lit.int .i64 x.num).wf = true := fun x hx => by
  have := h.2 x hx
  exact WalkArith.wf_i64 (by omega)
theorem Jdt (n m : Nat) (ao mo : Option Addr) (cap cam : Nat) (w : World) (hn : n ≤ 9223372036854775807) (hm : m ≤ 9223372036854775807) (hc : Code w ao n) (hd : Code w mo m) (gp : Value) (hgv : w.cell? ⟨0, 0, none⟩ = some (.iface 232 gp)) (hgt : ErrT w) :
    Calls Tryz.prog 3 #[.slice ao n cap, .slice mo m cam] w fun e w' => e = .returned (.bool true) ∧ Below w.heap.size w w' := by
  obtain ⟨z, hz⟩ : ∃ z, w.heap.size = z := ⟨_, rfl⟩
  have hz1 : 1 < z := by rw [← hz]; exact Qaa hgt
  have HIM : Hid (∀ (a b : List Nd) (ma mb : Nat) (ao bo : Option Addr) (ca cb : Nat) (W : World), a.length = ma → b.length = mb → SideOk2 a → SideOk2 b → Below z w W → Nodes W ao a → Nodes W bo b → Calls Tryz.prog 6 #[.slice ao ma ca, .slice bo mb cb] W fun e w' => ∃ ag cg out fl, e = .returned (.tuple #[.slice ag out.length cg, .bool fl]) ∧ Qbe a b out fl ∧ Ans w' W.heap.size ag out ∧ Below W.heap.size W w') := by
    intro a b ma mb ao bo ca cb W h1 h2 h3 h4 hb h5 h6
    have l1 := h3.1
    have l2 := h4.1
    exact Qow a b ma mb h1 h2 (by omega) (by omega) h3.wf h4.wf gp ao bo ca cb W ((hb.cell (p := ⟨0, 0, none⟩) (by show 0 < z; omega)).trans hgv) (hgt.below hb hz1) h5 h6
  clear hgv hgt
  by_cases hbig : 1048576 < n
  · have t1 : decide ((n : Int) > 1048576) = true := decide_eq_true (by omega)
    clear hc hd
    go_enter Tryz.func3, Tryz.ntmps3
    go_wp2
    go_ret
    exact ⟨rfl, Below.refl _ _⟩
  have t1 : decide ((n : Int) > 1048576) = false := decide_eq_false (by omega)
  by_cases hbig2 : 1048576 < m
  · have t2 : decide ((m : Int) > 1048576) = true := decide_eq_true (by omega)
    clear hc hd
    go_enter Tryz.func3, Tryz.ntmps3
    go_wp2
    go_ret
    exact ⟨rfl, Below.refl _ _⟩
  have t2 : decide ((m : Int) > 1048576) = false := decide_eq_false (by omega)
  have HDR := Qpm n (by omega) ao cap w hc
  have HD : Hid (∀ W, Below z w W → Code W mo m) := fun W hW => hd.below (by rw [hz]; exact hW)
  clear hc hd
  go_enter Tryz.func3, Tryz.ntmps3
  go_wp2_with fail
  refine HDR.mono ?_
  rintro e w1 ⟨ga, ca, la, gb, cb, lb, A, B, rfl, hla, hlb, hrA, hrB, hsA, hsB, hb1⟩
  rw [hz] at hb1
  have HLA : Hid (A.length = la) := hla
  have HLB : Hid (B.length = lb) := hlb
  have HSA : Hid (SideOk2 A) := hsA
  have HSB : Hid (SideOk2 B) := hsB
  have hla1 : la ≤ 101 := by rw [← hla]; exact hsA.1
  have hlb1 : lb ≤ 101 := by rw [← hlb]; exact hsB.1
  have HME := Qnr A B la lb HLA HLB (by omega) (by omega) (some ⟨ga, 0, none⟩) (some ⟨gb, 0, none⟩) ca cb w1 hrA.nodes hrB.nodes
  have hs1 := hb1.size
  clear HDR hla hlb hsA hsB
  go_wp2_with fail
  refine HME.mono ?_
  rintro e w2 ⟨gw, cw, lz, Z, fl, rfl, _, hlz, hrW, hres, hb2⟩
  have hrA2 := hrA.below hb2
  have hrB2 := hrB.below hb2
  have hbz2 : Below z w w2 := hb1.trans (hb2.mono (by omega))
  have hs2 := hbz2.size
  have HLZ : Hid (Z.length = lz) := hlz
  have HRES : Hid (Qbe A B Z fl) := hres
  obtain ⟨hz3, hzw⟩ := Jad hres HSA.out.wf HSB.out.wf
  rw [hlz] at hz3
  have HZW : Hid (∀ n ∈ Z, (Lit.int .i64 n.num).wf = true) := hzw
  have HM1 := HIM.out A B la lb (some ⟨ga, 0, none⟩) (some ⟨gb, 0, none⟩) ca cb w2 HLA.out HLB.out HSA.out HSB.out hbz2 hrA2.nodes hrB2.nodes
  clear HME hrA hrB hb1 hb2 hlz hres hzw
  go_wp2_with fail
  refine HM1.mono ?_
  rintro e w3 ⟨am, cm, out1, fl1, rfl, hres1, hans1, hb3⟩
  obtain ⟨rfl, rfl⟩ := Qoo HRES.out hres1
  rw [HLZ.out]
  have hrA3 := hrA2.below hb3
  have hrB3 := hrB2.below hb3
  have hrW3 := hrW.below hb3
  have hbz3 : Below z w w3 := hbz2.trans (hb3.mono (by omega))
  have hs3 := hbz3.size
  have hnm3 := hans1.nodes
  have HM2 := HIM.out B A lb la (some ⟨gb, 0, none⟩) (some ⟨ga, 0, none⟩) cb ca w3 HLB.out HLA.out HSB.out HSA.out hbz3 hrB3.nodes hrA3.nodes
  clear HM1 hrA2 hrB2 hrW hbz2 hb3 hres1 hans1
  go_wp2_with fail
  refine HM2.mono ?_
  rintro e w4 ⟨aw, cw2, out2, fl2, rfl, hres2, hans2, hb4⟩
  obtain ⟨rfl, rfl⟩ := Jac HRES.out hres2
  rw [HLZ.out]
  have hrA4 := hrA3.below hb4
  have hrB4 := hrB3.below hb4
  have hrW4 := hrW3.below hb4
  have hbz4 : Below z w w4 := hbz3.trans (hb4.mono (by omega))
  have hs4 := hbz4.size
  have hnm4 := hnm3.below hb4
  have hnw4 := hans2.nodes
  have tfl : (fl != fl) = false := by simp
  have HX1 := Qjh Z lz HLZ am (some ⟨gw, 0, none⟩) cm cw w4 hnm4 hrW4.nodes (by omega)
  clear HM2 hrA3 hrB3 hrW3 hbz3 hb4 hres2 hans2 hnm3
  go_wp2_with fail
  refine HX1.mono ?_
  rintro e w5 ⟨rfl, hb5⟩
  have hrA5 := hrA4.below hb5
  have hrB5 := hrB4.below hb5
  have hrW5 := hrW4.below hb5
  have hbz5 : Below z w w5 := hbz4.trans (hb5.mono (by omega))
  have hs5 := hbz5.size
  have hnm5 := hnm4.below hb5
  have hnw5 := hnw4.below hb5
  have HX2 := Qjh Z lz HLZ aw (some ⟨gw, 0, none⟩) cw2 cw w5 hnw5 hrW5.nodes (by omega)
  clear HX1 hrA4 hrB4 hrW4 hbz4 hb5 hnm4 hnw4
  go_wp2_with fail
  refine HX2.mono ?_
  rintro e w6 ⟨rfl, hb6⟩
  have hrA6 := hrA5.below hb6
  have hrB6 := hrB5.below hb6
  have hbz6 : Below z w w6 := hbz5.trans (hb6.mono (by omega))
  have hs6 := hbz6.size
  have hnm6 := hnm5.below hb6
  have HWF := Qnf m (by omega) mo cam w6 (HD.out w6 hbz6)
  clear HX2 hrA5 hrB5 hrW5 hbz5 hb6 hnm5 hnw5
  go_wp2_with fail
  refine HWF.mono ?_
  rintro e w7 ⟨gf, cf, fs, rfl, hbf, hF, hb7⟩
  have hrA7 := hrA6.below hb7
  have hrB7 := hrB6.below hb7
  have hbz7 : Below z w w7 := hbz6.trans (hb7.mono (by omega))
  have hs7 := hbz7.size
  have hnm7 := hnm6.below hb7
  have HF : Hid (FillOk 8 fs) := hF
  have HFL : Hid (fs.length = 8) := hF.1
  have HFK : ∀ b ∈ fs, b.2.length ≤ 1048576 := by
    intro b hb
    obtain ⟨j, hj, rfl⟩ := List.getElem_of_mem hb
    have := (hF.2 j hj).2.len
    omega
  have HPU := Qin fs 8 HFL (by omega) HFK A la HLA (by omega) (some ⟨gf, 0, none⟩) (some ⟨ga, 0, none⟩) cf ca w7 hbf hrA7.nodes
  clear HWF hrA6 hrB6 hbz6 hb7 hnm6 hF
  go_wp2_with fail
  refine HPU.mono ?_
  rintro e w8 ⟨gc, cc, lc, rfl, _, hlc, hrC, hb8, hcc⟩
  have hrA8 := hrA7.below hb8
  have hrB8 := hrB7.below hb8
  have hbz8 : Below z w w8 := hbz7.trans (hb8.mono (by omega))
  have hs8 := hbz8.size
  have hnm8 := hnm7.below hb8
  obtain ⟨C, hC⟩ : ∃ C, Qai fs A = C := ⟨_, rfl⟩
  rw [hC] at hlc hrC
  have HC : Hid (Qai fs A = C) := hC
  have HLC : Hid (C.length = lc) := hlc
  have hlc3 : lc ≤ 300 := by
    rw [← hlc, ← hC]
    unfold Qai
    split
    · next h8 => exact h8.2.2
    · simp
  have HCW : Hid (∀ n ∈ C, (Lit.int .i64 n.num).wf = true) := by
    have h9 := Jdh HF.out HSA.out.wf
    intro n hn
    rw [← hC] at hn
    refine h9 n ?_
    unfold Qai at hn
    split at hn
    · exact hn
    · simp at hn
  have HIN := Qmh B C lb lc HLB HLC (by omega) (by omega) cb cc hcc gb gc w8 hrB8 hrC
  clear HPU hrA7 hrB7 hbz7 hb8 hnm7 hbf hC hlc HFK
  go_wp2_with fail
  refine HIN.mono ?_
  rintro e w9 ⟨ai, ci, li, bsi, fl0, rfl, _, hir0, _, _, _, hb9⟩
  have hrA9 := hrA8.below hb9
  have hrB9 := hrB8.below hb9
  have hrC9 := hrC.below hb9
  have hbz9 : Below z w w9 := hbz8.trans (hb9.mono (by omega))
  have hs9 := hbz9.size
  have hnm9 := hnm8.below hb9
  obtain ⟨hL1, hL2⟩ := Qwl HF.out HRES.out (by rw [HC.out]; exact hir0)
  rw [HC.out] at hL2
  clear HIN hrA8 hrB8 hrC hbz8 hb9 hnm8 hir0
  cases fl
  · obtain rfl : fl0 = false := hL1 rfl
    clear hL1 hL2 hrA9 hrB9 hrC9 hnm9
    go_wp2
    go_ret
    exact ⟨by simp, by rw [hz]; exact hbz9⟩
  · obtain ⟨hI1, hI2, hI3⟩ := hL2 rfl
    have HJ1 := Qfw A Z la lz HLA HLZ (by omega) (by omega) HSA.out.wf HZW (some ⟨ga, 0, none⟩) am ca cm w9 hrA9.nodes hnm9
    clear hL1 hL2
    go_wp2_with fail
    refine HJ1.mono ?_
    rintro e wa ⟨aj, cj, bsj, fj, rfl, hirj, _, hba⟩
    obtain rfl := hI1 hirj
    have hrBa := hrB9.below hba
    have hrCa := hrC9.below hba
    have hbza : Below z w wa := hbz9.trans (hba.mono (by omega))
    have hsa := hbza.size
    have hnma := hnm9.below hba
    have HJ2 := Qfw B Z lb lz HLB HLZ (by omega) (by omega) HSB.out.wf HZW (some ⟨gb, 0, none⟩) am cb cm wa hrBa.nodes hnma
    clear HJ1 hrA9 hrB9 hrC9 hbz9 hba hnm9 hirj hI1
    go_wp2_with fail
    refine HJ2.mono ?_
    rintro e wb ⟨ak, ck, bsk, fk, rfl, hirk, _, hbb⟩
    obtain rfl := hI2 hirk
    have hrCb := hrCa.below hbb
    have hbzb : Below z w wb := hbza.trans (hbb.mono (by omega))
    have hsb := hbzb.size
    have hnmb := hnma.below hbb
    have HJ3 := Qfw Z C lz lc HLZ HLC (by omega) (by omega) HZW HCW am (some ⟨gc, 0, none⟩) cm cc wb hnmb hrCb.nodes
    clear HJ2 hrBa hrCa hbza hbb hnma hirk hI2
    go_wp2_with fail
    refine HJ3.mono ?_
    rintro e wd ⟨al, cl, bsl, f3, rfl, hirl, _, hbd⟩
    have hbzd : Below z w wd := hbzb.trans (hbd.mono (by omega))
    cases fl0
    · clear HJ3 hI3 hirl hrCb hbzb hbd hnmb
      go_wp2
      go_ret
      exact ⟨by simp, by rw [hz]; exact hbzd⟩
    · obtain rfl := hI3 rfl hirl
      clear HJ3 hI3 hirl hrCb hbzb hbd hnmb
      go_wp2
      go_ret
      exact ⟨by simp, by rw [hz]; exact hbzd⟩
end Go.Proofs.YtoiiibplkhedcaaGreatDoor


import Derived.Test.YtocidoamfofefaaILv2
import Derived.BigQuiet
import Derived.BigGuard
namespace Go.Proofs.Ytocidoamfofefaa
open Go.RowKit Go.Maps

/-- What SameScheme asks of two nodes ahead of the TAlls. -/
def closB (ka kb : List Int) (n m : Nd) : Bool := if n.kind = 60 ∧ m.kind = 60 ∧ sgAt ka n.num ≠ 0 then sgAt ka n.num == sgAt kb m.num else n.eqb m && sgAt kb m.num == 0

/-- A map of levels in a box. -/
structure LvBox (w : World) (p : Nat) (bk : List Int) : Prop where
  box : ∃ z, w.heap[p]? = some (.cells #[.map (some z)] 54 (0, 0)) ∧ ∃ (D : DataW Unit) (n : Nat), w.ownsMap Try.prog 2 (plainElem Try.prog 58) z n D ∧ SgD bk D

theorem LvBox.below {w w' : World} {p : Nat} {bk : List Int} (h : LvBox w p bk) (hb : Below w.heap.size w w') : LvBox w' p bk := by
  obtain ⟨z, h1, D, n, h2, h3⟩ := h.box
  exact ⟨z, (hb.block p (Array.getElem?_eq_some_iff.1 h1).1).trans h1, D, n, ownsS_same h2 (hb.block z h2.lt), h3⟩

theorem LvBox.look {w : World} {p : Nat} {bk : List Int} (h : LvBox w p bk) {x : Int} (hw : (Lit.int .i64 x).wf = true) : ∃ z, w.cell? ⟨p, 0, none⟩ = some (.map (some z)) ∧ ∀ W, Below w.heap.size w W → (Instr.lookup 54 (.map (some z)) (.int .i64 x) false).run Try.prog W = .ok (.int .i32 (sgAt bk x)) W := by
  obtain ⟨z, h1, D, n, h2, h3⟩ := h.box
  refine ⟨z, by rw [cell_of_row _ _ _ _ _ _ h1]; rfl, fun W hW => ?_⟩
  have hkey : keyOf Try.prog 2 (.int .i64 x) = some (.int .i64 x) := keyOf_int_mk Try.underlying2 hw
  obtain ⟨c, hrun, hat, -⟩ := (ownsS_same h2 (hW.block z h2.lt)).lookup_int Try.law2S Try.underlying54 Try.underlying58 (Try.zeroS W) hkey
  rw [(h3.2.2 x).2] at hat
  have e : c = sgAt bk x := by simpa using hat.symm
  rw [hrun, e]

/-- '==' of two nodes. -/
theorem eqlS (x y : Nd) (w : World) :
    (binOp .eql 39 (.agg #[.int .i64 x.kind, .int .i64 x.num, .string x.text, .int .i64 x.kids, .int .i64 x.place]) (.agg #[.int .i64 y.kind, .int .i64 y.num, .string y.text, .int .i64 y.kids, .int .i64 y.place])).run Try.prog w =
      .ok (.bool (x.eqb y)) w := by
  unfold Nd.eqb
  go_simp
  repeat' split
  all_goals simp_all

set_option maxRecDepth 20000 in
set_option maxHeartbeats 4000000 in
theorem clos_any (ka kb : List Int) (n m : Nd) (hn : (Lit.int .i64 n.num).wf = true) (hm : (Lit.int .i64 m.num).wf = true) (pa pb : Nat) (w : World) (hA : LvBox w pa ka) (hB : LvBox w pb kb) :
    Calls Try.prog 42 #[.agg #[.int .i64 n.kind, .int .i64 n.num, .string n.text, .int .i64 n.kids, .int .i64 n.place], .agg #[.int .i64 m.kind, .int .i64 m.num, .string m.text, .int .i64 m.kids, .int .i64 m.place], .pointer (some ⟨pa, 0, none⟩), .pointer (some ⟨pb, 0, none⟩)] w fun e w' => e = .returned (.bool (closB ka kb n m)) ∧ Below w.heap.size w w' := by
  obtain ⟨za, ca, la⟩ := hA.look hn
  obtain ⟨zb, cb, lb⟩ := hB.look hm
  have HV : Hid (closB ka kb n m = if n.kind = 60 ∧ m.kind = 60 ∧ sgAt ka n.num ≠ 0 then sgAt ka n.num == sgAt kb m.num else n.eqb m && sgAt kb m.num == 0) := rfl
  obtain ⟨sa, hsa⟩ : ∃ sa, sgAt ka n.num = sa := ⟨_, rfl⟩
  obtain ⟨sb, hsb⟩ : ∃ sb, sgAt kb m.num = sb := ⟨_, rfl⟩
  rw [hsa] at la HV
  rw [hsb] at lb HV
  have hlA : pa < w.heap.size := lt_of_cell ca
  have hlB : pb < w.heap.size := lt_of_cell cb
  have hE := eqlS n m
  obtain ⟨eq, heq⟩ : ∃ e, n.eqb m = e := ⟨_, rfl⟩
  rw [heq] at HV hE
  clear hA hB hsa hsb heq
  obtain ⟨nk, nn, nt, nc, np⟩ := n
  obtain ⟨mk, mn, mt, mc, mp⟩ := m
  simp only at hn hm la lb HV hE ⊢
  have b1 := (Below.refl w.heap.size w).alloc (Nat.le_refl _) (.cells #[.int .i64 nk, .int .i64 nn, .string nt, .int .i64 nc, .int .i64 np] 39)
  have b2 := b1.alloc b1.size (.cells #[.int .i64 mk, .int .i64 mn, .string mt, .int .i64 mc, .int .i64 mp] 39)
  have la2 := la _ b2
  have lb2 := lb _ b2
  clear la lb
  by_cases h60 : nk = 60
  rotate_left
  · have t60 : (nk == 60) = false := by simpa using h60
    have HV2 : Hid (closB ka kb ⟨nk, nn, nt, nc, np⟩ ⟨mk, mn, mt, mc, mp⟩ = (eq && sb == 0)) := by show _ = _; rw [HV.out, if_neg (fun h => h60 h.1)]
    cases eq
    · go_enter Try.func42, Try.ntmps42
      go_wp2
      go_ret
      exact ⟨by rw [HV2.out]; rfl, b2⟩
    · go_enter Try.func42, Try.ntmps42
      go_wp2
      go_ret
      exact ⟨by rw [HV2.out]; rfl, b2⟩
  subst h60
  by_cases m60 : mk = 60
  rotate_left
  · have t60 : (mk == 60) = false := by simpa using m60
    have HV2 : Hid (closB ka kb ⟨60, nn, nt, nc, np⟩ ⟨mk, mn, mt, mc, mp⟩ = (eq && sb == 0)) := by show _ = _; rw [HV.out, if_neg (fun h => m60 h.2.1)]
    cases eq
    · go_enter Try.func42, Try.ntmps42
      go_wp2
      go_ret
      exact ⟨by rw [HV2.out]; rfl, b2⟩
    · go_enter Try.func42, Try.ntmps42
      go_wp2
      go_ret
      exact ⟨by rw [HV2.out]; rfl, b2⟩
  subst m60
  by_cases hs0 : sa = 0
  · subst hs0
    have HV2 : Hid (closB ka kb ⟨60, nn, nt, nc, np⟩ ⟨60, mn, mt, mc, mp⟩ = (eq && sb == 0)) := by show _ = _; rw [HV.out, if_neg (fun h => h.2.2 rfl)]
    cases eq
    · go_enter Try.func42, Try.ntmps42
      go_wp2
      go_ret
      exact ⟨by rw [HV2.out]; rfl, b2⟩
    · go_enter Try.func42, Try.ntmps42
      go_wp2
      go_ret
      exact ⟨by rw [HV2.out]; rfl, b2⟩
  · have ts : (sa != 0) = true := by simpa using hs0
    have HV2 : Hid (closB ka kb ⟨60, nn, nt, nc, np⟩ ⟨60, mn, mt, mc, mp⟩ = (sa == sb)) := by show _ = _; rw [HV.out, if_pos ⟨rfl, rfl, hs0⟩]
    go_enter Try.func42, Try.ntmps42
    go_wp2
    go_ret
    exact ⟨by rw [HV2.out]; rfl, b2⟩

/-- Node by node, in two lists of one length. -/
def allB (p : Nd → Nd → Bool) (xs ys : List Nd) (k : Nat) : Prop := ∀ i, i < k → p (ndAt xs i) (ndAt ys i) = true

set_option maxRecDepth 20000 in
set_option maxHeartbeats 4000000 in
theorem equalF_any (ka kb : List Int) (xs ys : List Nd) (n : Nat) (HX : Hid (n ≤ xs.length)) (HY : Hid (n ≤ ys.length)) (hn : n ≤ 60000) (HWX : Hid (∀ x ∈ xs, (Lit.int .i64 x.num).wf = true)) (HWY : Hid (∀ x ∈ ys, (Lit.int .i64 x.num).wf = true)) (ao bo : Option Addr) (ca cb pa pb : Nat) (w : World) (hx : Nodes w ao xs) (hy : Nodes w bo ys) (hA : LvBox w pa ka) (hB : LvBox w pb kb) :
    Calls Try.prog 41 #[.slice ao n ca, .slice bo n cb, .func (.func 42) #[] #[.pointer (some ⟨pa, 0, none⟩), .pointer (some ⟨pb, 0, none⟩)]] w fun e w' => (∃ r : Bool, e = .returned (.bool r) ∧ (r = true ↔ allB (closB ka kb) xs ys n)) ∧ Below w.heap.size w w' := by
  have HXN : Hid (Nodes w ao xs) := hx
  have HYN : Hid (Nodes w bo ys) := hy
  have HA : Hid (LvBox w pa ka) := hA
  have HB : Hid (LvBox w pb kb) := hB
  clear hx hy hA hB
  go_enter Try.func41, Try.ntmps41
  go_wp2
  go_loopw [17] (fun v wr => ∃ k : Nat, k ≤ n ∧ v = .int .i64 (k : Int) ∧ allB (closB ka kb) xs ys k ∧ Below w.heap.size w wr) (fun v _ => n - (intOf v).toNat)
  case atStart => exact ⟨0, Nat.zero_le _, rfl, fun i hi => absurd hi (Nat.not_lt_zero _), Below.refl _ _⟩
  case round =>
    obtain ⟨k, hk, rfl, hall, hb⟩ := hrel
    by_cases hkn : k < n
    rotate_left
    · obtain rfl : k = n := by omega
      have HR : Hid (allB (closB ka kb) xs ys k) := hall
      clear hall
      go_wp2
      go_ret
      exact ⟨⟨true, rfl, by simp only [true_iff]; exact HR.out⟩, hb⟩
    have hkx : k < xs.length := by have := HX.out; omega
    have hky : k < ys.length := by have := HY.out; omega
    obtain ⟨x, hxk⟩ : ∃ x, xs[k] = x := ⟨_, rfl⟩
    obtain ⟨y, hyk⟩ : ∃ y, ys[k] = y := ⟨_, rfl⟩
    obtain ⟨b1, o1, rfl, hnx⟩ := HXN.out.below hb k hkx
    obtain ⟨b2, o2, rfl, hny⟩ := HYN.out.below hb k hky
    have hwx : (Lit.int .i64 x.num).wf = true := by rw [← hxk]; exact HWX.out _ (List.getElem_mem hkx)
    have hwy : (Lit.int .i64 y.num).wf = true := by rw [← hyk]; exact HWY.out _ (List.getElem_mem hky)
    have HNX : Hid (ndAt xs k = x) := by show _ = _; rw [ndAt_get hkx, hxk]
    have HNY : Hid (ndAt ys k = y) := by show _ = _; rw [ndAt_get hky, hyk]
    rw [hxk] at hnx
    rw [hyk] at hny
    clear hxk hyk
    obtain ⟨c0, c1, c2, c3, c4⟩ := hnx
    obtain ⟨d0, d1, d2, d3, d4⟩ := hny
    have l1 : b1 < wr.heap.size := lt_of_cell c0
    have l2 : b2 < wr.heap.size := lt_of_cell d0
    have hCL : Hid (∀ W, Below wr.heap.size wr W → Calls Try.prog 42 #[.agg #[.int .i64 x.kind, .int .i64 x.num, .string x.text, .int .i64 x.kids, .int .i64 x.place], .agg #[.int .i64 y.kind, .int .i64 y.num, .string y.text, .int .i64 y.kids, .int .i64 y.place], .pointer (some ⟨pa, 0, none⟩), .pointer (some ⟨pb, 0, none⟩)] W fun e w' => e = .returned (.bool (closB ka kb x y)) ∧ Below W.heap.size W w') := by
      intro W hW
      have hbb := Below.step hb hW
      exact clos_any ka kb x y hwx hwy pa pb W (HA.out.below hbb) (HB.out.below hbb)
    have HALL : Hid (allB (closB ka kb) xs ys k) := hall
    have hb1 := (Below.refl wr.heap.size wr).alloc (Nat.le_refl _) (.cells #[.int .i64 x.kind, .int .i64 x.num, .string x.text, .int .i64 x.kids, .int .i64 x.place] 39)
    have hb2 := hb1.alloc hb1.size (.cells #[.int .i64 y.kind, .int .i64 y.num, .string y.text, .int .i64 y.kids, .int .i64 y.place] 39)
    clear hall hwx hwy
    go_wp2_with fail
    refine (hCL.out _ hb2).mono ?_
    rintro e w3 ⟨rfl, hb3⟩
    have hbb := Below.step hb (Below.step hb2 hb3)
    obtain ⟨v, hv⟩ : ∃ v, closB ka kb x y = v := ⟨_, rfl⟩
    rw [hv]
    clear hCL hb1 hb2 hb3 hb c0 c1 c2 c3 c4 d0 d1 d2 d3 d4
    cases v
    · have HF : Hid (¬ allB (closB ka kb) xs ys n) := by
        intro h
        have h9 := h k hkn
        rw [HNX.out, HNY.out, hv] at h9
        cases h9
      clear hv
      go_wp2
      go_ret
      exact ⟨⟨false, rfl, by simp only [Bool.false_eq_true, false_iff]; exact HF.out⟩, hbb⟩
    · have HT : Hid (allB (closB ka kb) xs ys (k + 1)) := by
        intro i hi
        by_cases e : i = k
        · subst e; rw [HNX.out, HNY.out]; exact hv
        · exact HALL.out i (by omega)
      clear hv
      go_wp2
      go_roundw
      case rel => exact ⟨k + 1, by omega, by go_num, HT.out, hbb⟩
      case measure => simp [intOf]; omega

end Go.Proofs.Ytocidoamfofefaa

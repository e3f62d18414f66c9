import Derived.Test.YtekogjmmfhbinaaPDem
import Derived.Test.YtekogjmmfhbinaaKnJ
import Derived.Test.YtekogjmmfhbinaaKnG
import Derived.Test.YtekogjmmfhbinaaKnS
import Derived.Test.YtekogjmmfhbinaaPlainEq
namespace Go.Proofs.Ytekogjmmfhbinaa

open Go.RowKit

set_option maxRecDepth 100000 in
set_option maxHeartbeats 1000000 in
theorem implPlain_any (t : List Nd) (m : Nat) (HM : Hid (t.length = m)) (hm : m ≤ 1048576) (ao : Option Addr) (cap : Nat) (w : World) (hx : Nodes w ao t) :
    Calls Try.prog 19 #[.slice ao m cap] w fun e w' => (∃ b : Bool, e = .returned (.bool b) ∧ (b = true ↔ InForm plainOwn plainKids pCode t)) ∧ Below w.heap.size w w' := by
  go_enter Try.func19, Try.ntmps19
  go_wp2_with fail
  refine (plainDemands_any w).mono ?_
  rintro e w1 ⟨⟨tab, hts, rfl, htab⟩, hb1⟩
  have HF := isInForm_any plainOwn plainKids pCode tab (.func (.func 35) #[] #[]) t m HM hm ao cap w1 (hx.below hb1) htab (isCodeV w1)
  clear htab hx
  go_wp2_with fail
  refine HF.mono ?_
  rintro e w2 ⟨⟨b, rfl, hb⟩, hb2⟩
  have HB : Hid (b = true ↔ InForm plainOwn plainKids pCode t) := hb
  have hbb := Below.step hb1 hb2
  clear HF hb hb1 hb2
  go_wp2
  go_ret
  exact ⟨⟨b, rfl, HB.out⟩, hbb⟩

/-- The model's answer. -/
def KnownS (t : List Nd) : Prop := PlainS t ∧ kn t t.length (t.length - 1) = true

theorem one_of_raw {t : List Nd} (h : rawDeep t ≠ 0) : 0 < t.length ∧ ∃ S ys, after t t.length = some (S, ys) ∧ S.length = 1 := by
  obtain ⟨h0, S, ys, hA⟩ := raw_after h
  refine ⟨h0, S, ys, hA, ?_⟩
  obtain ⟨s, hs, hd, -, -, -⟩ := raw_some rfl h0 hA
  have hf := after_fine hA
  have hfr : s.fr = 0 := by
    by_cases e : s.fr = 0
    · exact e
    · rw [hd, if_neg e] at h
      exact absurd rfl h
  have hc := hf.chain
  have hS0 : 0 < S.length := by
    rcases Nat.eq_zero_or_pos S.length with e | e
    · have := hc.2.2.2 e; omega
    · exact e
  obtain ⟨c1, c2⟩ := hc.2.2.1 hS0
  have hm := hf.mem (S.length - 1) (by omega)
  have er : (S[S.length - 1]'(by omega)).rt = t.length - 1 := by omega
  rw [er, hs] at hm
  simp only [Option.some.injEq] at hm
  rcases Nat.lt_or_ge 1 S.length with h1 | h1
  · have h9 := hc.2.1 (S.length - 2) (by omega)
    have e2 : S.length - 2 + 1 = S.length - 1 := by omega
    simp only [e2] at h9
    rw [← hm, hfr] at h9
    omega
  · omega

theorem plain_app {t : List Nd} (h : PlainS t) {i : Nat} (hi : i < t.length) (h77 : (ndAt t i).kind = 77) : (kidsRt t i).length = 2 := by
  obtain ⟨h0, S, ys, hA, -⟩ := one_of_raw h.2.1
  rw [kidsRt_len hA hi]
  have h9 := h.2.2.2 i hi
  unfold okP at h9
  simp only [Bool.and_eq_true] at h9
  obtain ⟨-, -, -, hf⟩ := h9
  have e1 : shapeP (ndAt t i) = ⟨#[99, 99]⟩ := by
    unfold shapeP
    rw [h77]
    rfl
  have e2 : starOf ⟨#[99, 99]⟩ = 2 := by decide
  rw [e1, e2] at hf
  unfold fitsB at hf
  simp only [Bool.and_eq_true] at hf
  have h8 := hf.1
  simpa [ByteArray.size] using h8

set_option maxRecDepth 20000 in
set_option maxHeartbeats 1000000 in
theorem specKnown_any (t : List Nd) (m : Nat) (HM : Hid (t.length = m)) (hm : m ≤ 1048576) (ao : Option Addr) (cap : Nat) (w : World) (hx : Nodes w ao t) :
    Calls Try.prog 8 #[.slice ao m cap] w fun e w' => (∃ b : Bool, e = .returned (.bool b) ∧ (b = true ↔ KnownS t)) ∧ Below w.heap.size w w' := by
  have HP := specPlain_any t m HM hm ao cap w hx
  have HX : Hid (Nodes w ao t) := hx
  clear hx
  go_enter Try.func8, Try.ntmps8
  go_wp2_with fail
  refine HP.mono ?_
  rintro e w1 ⟨⟨b, rfl, hb⟩, b1⟩
  clear HP
  cases b
  · have HF : Hid (false = true ↔ KnownS t) := by
      constructor
      · intro h; cases h
      · intro h; exact hb.2 h.1
    clear hb
    go_wp2
    go_ret
    exact ⟨⟨false, rfl, HF.out⟩, b1⟩
  · have HPS : Hid (PlainS t) := hb.1 rfl
    clear hb
    have hm6 : m ≤ 60000 := by have := HPS.out.1; have := HM.out; omega
    have hAe := one_of_raw HPS.out.2.1
    obtain ⟨h0, S, ys, hA, -⟩ := hAe
    have hm0 : 0 < m := by have := HM.out; omega
    have HA : Hid (after t m = some (S, ys)) := by show _ = _; rw [← HM.out]; exact hA
    have HSZ := sizes60_any t m HM hm6 ao cap w1 (HX.out.below b1)
    have hsub : (m : Int) - 1 = ((m - 1 : Nat) : Int) := by omega
    clear hA h0
    go_wp2_with fail
    refine HSZ.mono ?_
    rintro e w2 ⟨gz, cz, n, rfl, hz, b2⟩
    have hsz : sizesOf t = ys.map szOf := by unfold sizesOf; rw [HM.out, HA.out]
    rw [hsz] at hz
    have hyl := (after_fine HA.out).len
    have hnm : n = m := by have h9 := hz.1; simp at h9; omega
    subst hnm
    have bb := Below.step b1 b2
    have HK := l14Known_any t n HM hm6 S ys HA (fun i hi h => plain_app HPS.out (by have := HM.out; omega) h) ao cap gz cz _ n (n - 1) w2 (by omega) (by omega) (HX.out.below bb) hz
    obtain ⟨v, hv⟩ : ∃ v, kn t n (n - 1) = v := ⟨_, rfl⟩
    rw [hv] at HK
    have HR : Hid (v = true ↔ KnownS t) := by
      show _ ↔ _
      unfold KnownS
      rw [HM.out, hv]
      exact ⟨fun h => ⟨HPS.out, h⟩, fun h => h.2⟩
    clear hv hz HSZ hsz hyl b1 b2
    go_wp2_with fail
    refine HK.mono ?_
    rintro e w3 ⟨rfl, b3⟩
    have bc := Below.step bb b3
    clear HK bb b3
    cases v
    all_goals
      go_wp2
      go_ret
      exact ⟨⟨_, rfl, by simpa using HR.out⟩, bc⟩

set_option maxRecDepth 20000 in
set_option maxHeartbeats 1000000 in
theorem treeOf_any (w : World) (t : List Nd) (m : Nat) (HM : Hid (t.length = m)) (hm : m ≤ 60000) (hm0 : 0 < m) (S ys : List Sp) (HA : Hid (after t m = some (S, ys))) (hS1 : S.length = 1) (ao : Option Addr) (cap : Nat) (hx : Nodes w ao t) :
    Calls Try.prog 21 #[.slice ao m cap] w fun e w' => ∃ b, e = .returned (.pointer (some ⟨b, 0, none⟩)) ∧ TreeAt t w' (fun q => w.heap.size ≤ q) b (m - 1) ∧ Below w.heap.size w w' := by
  have HF := foldK_any w t m HM hm hm0 S ys HA hS1 ao cap hx
  clear hx hS1
  go_enter Try.func21, Try.ntmps21
  go_wp2_with fail
  refine HF.mono ?_
  rintro e w1 ⟨b, rfl, hT, b1⟩
  have HT : Hid (TreeAt t w1 (fun q => w.heap.size ≤ q) b (m - 1)) := hT
  clear HF hT
  go_wp2
  go_ret
  exact ⟨b, rfl, HT.out, b1⟩

set_option maxRecDepth 20000 in
set_option maxHeartbeats 1000000 in
theorem implKnown_any (t : List Nd) (m : Nat) (HM : Hid (t.length = m)) (hm : m ≤ 1048576) (ao : Option Addr) (cap : Nat) (w : World) (hx : Nodes w ao t) :
    Calls Try.prog 10 #[.slice ao m cap] w fun e w' => (∃ b : Bool, e = .returned (.bool b) ∧ (b = true ↔ KnownS t)) ∧ Below w.heap.size w w' := by
  have HP := implPlain_any t m HM hm ao cap w hx
  have HX : Hid (Nodes w ao t) := hx
  clear hx
  go_enter Try.func10, Try.ntmps10
  go_wp2_with fail
  refine HP.mono ?_
  rintro e w1 ⟨⟨b, rfl, hb⟩, b1⟩
  rw [← plain_eq t] at hb
  clear HP
  cases b
  · have HF : Hid (false = true ↔ KnownS t) := by
      constructor
      · intro h; cases h
      · intro h; exact hb.2 h.1
    clear hb
    go_wp2
    go_ret
    exact ⟨⟨false, rfl, HF.out⟩, b1⟩
  · have HPS : Hid (PlainS t) := hb.1 rfl
    clear hb
    have hm6 : m ≤ 60000 := by have := HPS.out.1; have := HM.out; omega
    have hAe := one_of_raw HPS.out.2.1
    obtain ⟨h0, S, ys, hA, hS1⟩ := hAe
    have hm0 : 0 < m := by have := HM.out; omega
    have HA : Hid (after t m = some (S, ys)) := by show _ = _; rw [← HM.out]; exact hA
    have HT := treeOf_any w1 t m HM hm6 hm0 S ys HA hS1 ao cap (HX.out.below b1)
    clear hA h0 hS1
    go_wp2_with fail
    refine HT.mono ?_
    rintro e w2 ⟨b, rfl, hT, b2⟩
    have HK := isKnown_any t m hm6 S ys HA (fun i hi h => plain_app HPS.out (by have := HM.out; omega) h) m (m - 1) b w2 _ (by omega) (by omega) hT
    have bb := Below.step b1 b2
    obtain ⟨v, hv⟩ : ∃ v, kn t m (m - 1) = v := ⟨_, rfl⟩
    rw [hv] at HK
    have HR : Hid (v = true ↔ KnownS t) := by
      show _ ↔ _
      unfold KnownS
      rw [HM.out, hv]
      exact ⟨fun h => ⟨HPS.out, h⟩, fun h => h.2⟩
    clear hv HT hT b1 b2
    go_wp2_with fail
    refine HK.mono ?_
    rintro e w3 ⟨rfl, b3⟩
    have bc := Below.step bb b3
    clear HK bb b3
    cases v
    all_goals
      go_wp2
      go_ret
      exact ⟨⟨_, rfl, by simpa using HR.out⟩, bc⟩

end Go.Proofs.Ytekogjmmfhbinaa


import Derived.Test.YtocidoamfofefaaISam
import Derived.Test.YtocidoamfofefaaSchM
import Derived.Test.YtocidoamfofefaaPDem
import Derived.Deep.RegionWith
namespace Go.Proofs.Ytocidoamfofefaa
open Go.RowKit Go.Maps

theorem TabOk.under {w w' : World} {tab : Array Value} {own : Nat → Option (Nd → Bool)} {kids : Nat → Nd → List Nd → Bool} (h : TabOk w tab own kids) (hb : Below w.heap.size w w') : TabOk w' tab own kids :=
  ⟨h.no, fun i p hi ho => by obtain ⟨u, v, h1, h2, h3, h4⟩ := h.yes i p hi ho; exact ⟨u, v, h1, h2, h3.below hb, h4.below hb⟩⟩

theorem LvBox.new {w : World} {z n : Nat} {D : DataW Unit} {bk : List Int} (h : w.ownsMap Try.prog 2 (plainElem Try.prog 58) z n D) (hF : SgD bk D) : LvBox (w.alloc (.cells #[.map (some z)] 54)) w.heap.size bk :=
  ⟨z, heap_alloc_new _ _, D, n, h.alloc _, hF⟩

theorem LvBox.len {w : World} {p : Nat} {bk : List Int} (h : LvBox w p bk) : ∃ z, w.cell? ⟨p, 0, none⟩ = some (.map (some z)) ∧ ∀ ty, (Builtin.len_ #[54] ty #[.map (some z)]).run Try.prog w = .ok (.int .i64 (bk.length : Int)) w := by
  obtain ⟨z, h1, D, n, h2, h3⟩ := h.box
  refine ⟨z, by rw [cell_of_row _ _ _ _ _ _ h1]; rfl, fun ty => ?_⟩
  rw [h2.len Try.underlying54 ty, h3.2.1]

/-- What the program answers. -/
def SameI (xs ys : List Nd) : Prop :=
  FormC xs ∧ FormC ys ∧ xs.length = ys.length ∧ (bkL xs (alls xs xs.length)).Nodup ∧ (bkL ys (alls ys ys.length)).Nodup ∧ alls xs xs.length = alls ys ys.length ∧ allB (closB (bkL xs (alls xs xs.length)) (bkL ys (alls ys ys.length))) xs ys (xs.length - alls xs xs.length)

set_option maxRecDepth 100000 in
set_option maxHeartbeats 4000000 in
theorem implSS_any (xs ys : List Nd) (n m : Nat) (HX : Hid (xs.length = n)) (HY : Hid (ys.length = m)) (hn : n ≤ 1048576) (hm : m ≤ 1048576) (HWX : Hid (∀ x ∈ xs, (Lit.int .i64 x.num).wf = true)) (HWY : Hid (∀ x ∈ ys, (Lit.int .i64 x.num).wf = true)) (ao bo : Option Addr) (ca cb : Nat) (hca : n ≤ ca) (hcb : m ≤ cb) (w : World) (hx : Nodes w ao xs) (hy : Nodes w bo ys) :
    Calls Try.prog 19 #[.slice ao n ca, .slice bo m cb] w fun e w' => (∃ b : Bool, e = .returned (.bool b) ∧ (b = true ↔ SameI xs ys)) ∧ Below w.heap.size w w' := by
  have HXN : Hid (Nodes w ao xs) := hx
  have HYN : Hid (Nodes w bo ys) := hy
  clear hx hy
  go_enter Try.func19, Try.ntmps19
  go_wp2_with fail
  refine (codeDemands_any _).mono ?_
  rintro e w1 ⟨⟨tab, hts, rfl, htab⟩, hb1⟩
  have one := htab.one hts
  have HTAB : Hid (TabOk w1 tab codeOwn codeKids) := htab
  clear htab
  go_wp2_with fail
  rw [run_storeCells_new w1 49 _ tab (by rw [hts]; kernel_rfl) (by rw [hts]; kernel_rfl) one]
  simp only [Result.andThen]
  rw [Oper.upon_skip]
  have r0 : (w1.alloc (.cells tab 49)).heap[w1.heap.size]? = some (.cells tab 49 (0, 0)) := heap_alloc_new _ _
  have bA := (Below.refl w1.heap.size w1).alloc (Nat.le_refl _) (.cells tab 49)
  have bb1 := Below.step hb1 bA
  generalize w1.alloc (.cells tab 49) = W0 at r0 bA bb1 ⊢
  go_wp2_with fail
  have hld : (loadVar 49 ⟨w1.heap.size, 0, none⟩).run Try.prog W0 = .ok (.agg tab) W0 := run_loadVar_row _ _ _ _ _ _ _ r0 Try.underlying49 rfl (by rw [hts]; kernel_rfl)
  unfold Oper.wp
  rw [exec_load (b := w1.heap.size) (v := .agg tab) rfl rfl hld]
  rw [Oper.upon_value]
  clear hld
  have HF := isInForm_any codeOwn codeKids pScheme tab (.func (.func 39) #[] #[]) xs n HX hn ao ca W0 (HXN.out.below bb1) (HTAB.out.under bA) (isSchemeV W0)
  go_wp2_with fail
  refine HF.mono ?_
  rintro e w2 ⟨⟨b2, rfl, hbx⟩, hb2⟩
  clear HF
  have bb2 := Below.step bb1 hb2
  have r2 := (hb2.block _ (Array.getElem?_eq_some_iff.1 r0).1).trans r0
  have HBX : Hid (b2 = true ↔ FormC xs) := hbx
  clear hbx hb1
  cases b2
  · have HN : Hid (¬ SameI xs ys) := by
      intro h
      have h9 := HBX.out.2 h.1
      cases h9
    clear HBX
    go_wp2
    go_ret
    exact ⟨⟨false, rfl, by simp only [Bool.false_eq_true, false_iff]; exact HN.out⟩, bb2⟩
  have HFX : Hid (FormC xs) := HBX.out.1 rfl
  clear HBX
  go_wp2_with fail
  have hld : (loadVar 49 ⟨w1.heap.size, 0, none⟩).run Try.prog w2 = .ok (.agg tab) w2 := run_loadVar_row _ _ _ _ _ _ _ r2 Try.underlying49 rfl (by rw [hts]; kernel_rfl)
  unfold Oper.wp
  rw [exec_load (b := w1.heap.size) (v := .agg tab) rfl rfl hld]
  rw [Oper.upon_value]
  clear hld
  have HF := isInForm_any codeOwn codeKids pScheme tab (.func (.func 39) #[] #[]) ys m HY hm bo cb w2 (HYN.out.below bb2) ((HTAB.out.under bA).under hb2) (isSchemeV w2)
  go_wp2_with fail
  refine HF.mono ?_
  rintro e w3 ⟨⟨b3, rfl, hby⟩, hb3⟩
  clear HF
  have bb3 := Below.step bb2 hb3
  have HBY : Hid (b3 = true ↔ FormC ys) := hby
  clear hby r0 r2 bA bb1 hb2 hb3 bb2 HTAB hts one
  cases b3
  · have HN : Hid (¬ SameI xs ys) := by
      intro h
      have h9 := HBY.out.2 h.2.1
      cases h9
    clear HBY
    go_wp2
    go_ret
    exact ⟨⟨false, rfl, by simp only [Bool.false_eq_true, false_iff]; exact HN.out⟩, bb3⟩
  have HFY : Hid (FormC ys) := HBY.out.1 rfl
  clear HBY
  by_cases hnm : n = m
  rotate_left
  · have HN : Hid (¬ SameI xs ys) := fun h => hnm (by rw [← HX.out, ← HY.out]; exact h.2.2.1)
    have tnm : ((n : Int) != (m : Int)) = true := by simp; omega
    go_wp2
    go_ret
    exact ⟨⟨false, rfl, by simp only [Bool.false_eq_true, false_iff]; exact HN.out⟩, bb3⟩
  subst hnm
  have h6 : n ≤ 60000 := by have := HFX.out.1; have := HX.out; omega
  obtain ⟨A, hA⟩ : ∃ A, alls xs xs.length = A := ⟨_, rfl⟩
  obtain ⟨B, hB⟩ : ∃ B, alls ys ys.length = B := ⟨_, rfl⟩
  have HEX : Hid (AllsEnd xs A) := by show AllsEnd _ _; rw [← hA]; exact HFX.out.endA
  have HEY : Hid (AllsEnd ys B) := by show AllsEnd _ _; rw [← hB]; exact HFY.out.endA
  have hAn : A < n := by have := HEX.out.lt; have := HX.out; omega
  have HSI : Hid (SameI xs ys ↔ (bkL xs A).Nodup ∧ (bkL ys B).Nodup ∧ A = B ∧ allB (closB (bkL xs A) (bkL ys B)) xs ys (n - A)) := by
    show _ ↔ _
    unfold SameI
    rw [hA, hB, HX.out, HY.out]
    exact ⟨fun h => ⟨h.2.2.2.1, h.2.2.2.2.1, h.2.2.2.2.2.1, h.2.2.2.2.2.2⟩, fun h => ⟨HFX.out, HFY.out, rfl, h.1, h.2.1, h.2.2.1, h.2.2.2⟩⟩
  clear hA hB
  have HLX := levelsOf_any xs n HX h6 HWX A HEX ao ca w3 (HXN.out.below bb3)
  go_wp2_with fail
  refine HLX.mono ?_
  rintro e w4 ⟨hres, hb4⟩
  have bb4 := Below.step bb3 hb4
  clear HLX hb4 bb3
  rcases hres with ⟨z1, D1, rfl, hz1, hnd1, hown1, hF1⟩ | ⟨rfl, hd1⟩
  rotate_left
  · have HN : Hid (¬ SameI xs ys) := fun h => hd1 (HSI.out.1 h).1
    have bb5 := bb4.alloc bb4.size (.cells #[.map none] 54)
    have HLY := levelsOf_any ys n HY h6 HWY B HEY bo cb _ (HYN.out.below bb5)
    clear hd1 HSI
    go_wp2_with fail
    refine HLY.mono ?_
    rintro e w6 ⟨hres, hb6⟩
    have bb6 := Below.step bb5 hb6
    clear HLY hb6 bb5 bb4
    rcases hres with ⟨z2, D2, rfl, -, -, -, -⟩ | ⟨rfl, -⟩
    · have bb7 := bb6.alloc bb6.size (.cells #[.map (some z2)] 54)
      go_wp2
      go_ret
      exact ⟨⟨false, rfl, by simp only [Bool.false_eq_true, false_iff]; exact HN.out⟩, bb7⟩
    · have bb7 := bb6.alloc bb6.size (.cells #[.map none] 54)
      go_wp2
      go_ret
      exact ⟨⟨false, rfl, by simp only [Bool.false_eq_true, false_iff]; exact HN.out⟩, bb7⟩
  have hL5 := LvBox.new hown1 hF1
  have bb5 := bb4.alloc bb4.size (.cells #[.map (some z1)] 54)
  have HLY := levelsOf_any ys n HY h6 HWY B HEY bo cb _ (HYN.out.below bb5)
  have HND1 : Hid ((bkL xs A).Nodup) := hnd1
  obtain ⟨p4, hp4⟩ : ∃ p, w4.heap.size = p := ⟨_, rfl⟩
  clear hown1 hF1 hnd1 hz1
  go_wp2_with fail
  refine HLY.mono ?_
  rintro e w6 ⟨hres, hb6⟩
  have bb6 := Below.step bb5 hb6
  have hL6 := hL5.below hb6
  rw [hp4] at hL6
  clear HLY hb6 bb5 bb4 hL5 hp4
  rcases hres with ⟨z2, D2, rfl, hz2, hnd2, hown2, hF2⟩ | ⟨rfl, hd2⟩
  rotate_left
  · have HN : Hid (¬ SameI xs ys) := fun h => hd2 (HSI.out.1 h).2.1
    have bb7 := bb6.alloc bb6.size (.cells #[.map none] 54)
    clear hL6 hd2
    go_wp2
    go_ret
    exact ⟨⟨false, rfl, by simp only [Bool.false_eq_true, false_iff]; exact HN.out⟩, bb7⟩
  have HND2 : Hid ((bkL ys B).Nodup) := hnd2
  have hL7 := hL6.below ((Below.refl w6.heap.size w6).alloc (Nat.le_refl _) (.cells #[.map (some z2)] 54))
  have hM7 := LvBox.new hown2 hF2
  have bb7 := bb6.alloc bb6.size (.cells #[.map (some z2)] 54)
  obtain ⟨W7, hW7⟩ : ∃ W, w6.alloc (.cells #[.map (some z2)] 54) = W := ⟨_, rfl⟩
  have hs7 : W7.heap.size = w6.heap.size + 1 := by rw [← hW7]; simp
  rw [hW7] at hL7 hM7 bb7
  obtain ⟨za, ca7, la7⟩ := hL7.len
  obtain ⟨zb, cb7, lb7⟩ := hM7.len
  rw [bkL_len] at la7 lb7
  have l7 : p4 < W7.heap.size := lt_of_cell ca7
  have l8 : w6.heap.size < W7.heap.size := by omega
  clear hown2 hF2 hnd2 hz2 hL6 bb6
  by_cases hAB : A = B
  rotate_left
  · have HN : Hid (¬ SameI xs ys) := fun h => hAB (HSI.out.1 h).2.2.1
    have tAB : ((A : Int) != (B : Int)) = true := by simp; omega
    go_wp2
    go_ret
    exact ⟨⟨false, rfl, by simp only [Bool.false_eq_true, false_iff]; exact HN.out⟩, bb7⟩
  subst hAB
  obtain ⟨q, hq⟩ : ∃ q : Nat, n - A = q := ⟨_, rfl⟩
  have hqn : q ≤ n := by omega
  have hqa : q ≤ ca := by omega
  have hqb : q ≤ cb := by omega
  have hsub : (n : Int) - (A : Int) = (q : Int) := by omega
  have HSI2 : Hid (SameI xs ys ↔ allB (closB (bkL xs A) (bkL ys A)) xs ys q) := by
    show _ ↔ _
    rw [HSI.out, hq]
    exact ⟨fun h => h.2.2.2, fun h => ⟨HND1.out, HND2.out, rfl, h⟩⟩
  obtain ⟨b1, o1, hao, -⟩ := HXN.out 0 (by have := HX.out; omega)
  obtain ⟨b2, o2, hbo, -⟩ := HYN.out 0 (by have := HY.out; omega)
  subst hao
  subst hbo
  have HEQ : Hid (∀ W, Below W7.heap.size W7 W → Calls Try.prog 41 #[.slice (some ⟨b1, o1, none⟩) q ca, .slice (some ⟨b2, o2, none⟩) q cb, .func (.func 42) #[] #[.pointer (some ⟨p4, 0, none⟩), .pointer (some ⟨w6.heap.size, 0, none⟩)]] W fun e w' => (∃ r : Bool, e = .returned (.bool r) ∧ (r = true ↔ allB (closB (bkL xs A) (bkL ys A)) xs ys q)) ∧ Below W.heap.size W w') := by
    intro W hW
    have hbb := Below.step bb7 hW
    exact equalF_any _ _ xs ys q (by show _ ≤ _; rw [HX.out]; exact hqn) (by show _ ≤ _; rw [HY.out]; exact hqn) (by omega) HWX HWY _ _ ca cb p4 w6.heap.size W (HXN.out.below hbb) (HYN.out.below hbb) (hL7.below hW) (hM7.below hW)
  have hbD := (Below.refl W7.heap.size W7).drew
  have HL7 : Hid (LvBox W7 p4 (bkL xs A)) := hL7
  clear HSI hL7 hM7 hq
  go_wp2_with fail
  go_region_with (go_at_call 41; refine (HEQ.out _ hbD).mono ?_; rintro e w8 ⟨⟨r, rfl, hr⟩, hb8⟩)
  all_goals
    have HR : Hid (r = true ↔ SameI xs ys) := by show _ ↔ _; rw [HSI2.out]; exact hr
    have bb8 := Below.step bb7 (Below.step hbD hb8)
    clear hr hb8 HEQ
    simp only [Act.put, List.getElem_toArray, List.getElem_cons_succ, List.getElem_cons_zero, List.setIfInBounds_toArray, List.set_cons_zero, List.set_cons_succ]
    go_wp2
    go_ret
    exact ⟨⟨r, rfl, HR.out⟩, bb8⟩

end Go.Proofs.Ytocidoamfofefaa

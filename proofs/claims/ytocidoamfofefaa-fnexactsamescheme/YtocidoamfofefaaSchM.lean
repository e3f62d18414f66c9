
import Derived.Test.YtocidoamfofefaaSSch
import Derived.Test.YtocidoamfofefaaSLev
import Derived.Test.YtocidoamfofefaaFormEq
import Derived.Test.YtocidoamfofefaaKnM
namespace Go.Proofs.Ytocidoamfofefaa

theorem one_rawS {t : List Nd} (h : rawDeep t ≠ 0) : 0 < t.length ∧ ∃ S ys, after t t.length = some (S, ys) ∧ S.length = 1 := by
  obtain ⟨h0, S, ys, hA⟩ := raw_after h
  refine ⟨h0, S, ys, hA, ?_⟩
  obtain ⟨s, hs, hd, -, -, -⟩ := raw_some rfl h0 hA
  have hf := after_fine hA
  have hfr : s.fr = 0 := by
    by_cases e : s.fr = 0
    · exact e
    · rw [hd, if_neg e] at h
      exact absurd rfl h
  have hc := hf.chain
  have hS0 : 0 < S.length := by
    rcases Nat.eq_zero_or_pos S.length with e | e
    · have := hc.2.2.2 e; omega
    · exact e
  obtain ⟨c1, c2⟩ := hc.2.2.1 hS0
  have hm := hf.mem (S.length - 1) (by omega)
  have er : (S[S.length - 1]'(by omega)).rt = t.length - 1 := by omega
  rw [er, hs] at hm
  simp only [Option.some.injEq] at hm
  rcases Nat.lt_or_ge 1 S.length with h1 | h1
  · have h9 := hc.2.1 (S.length - 2) (by omega)
    have e2 : S.length - 2 + 1 = S.length - 1 := by omega
    simp only [e2] at h9
    rw [← hm, hfr] at h9
    omega
  · omega

/-- What is free and isn't the root is a kid of a later node. -/
theorem parent_of {t : List Nd} {S ys : List Sp} {m : Nat} (hA : after t m = some (S, ys)) (hS1 : S.length = 1) :
    ∀ d k, k + d = m → ∀ Sk yk, after t k = some (Sk, yk) → ∀ j (h : j < Sk.length), Sk[j].rt + 1 ≠ m → ∃ p, k ≤ p ∧ p < m ∧ Sk[j].rt ∈ kidsRt t p := by
  intro d
  induction d with
  | zero =>
    intro k hk Sk yk hSk j hj hne
    obtain rfl : k = m := by omega
    rw [hA] at hSk
    simp only [Option.some.injEq, Prod.mk.injEq] at hSk
    obtain ⟨rfl, -⟩ := hSk
    exfalso
    have h9 := ((after_fine hA).chain.2.2.1 (by omega)).2
    have e : j = S.length - 1 := by omega
    subst e
    exact hne h9
  | succ d ih =>
    intro k hk Sk yk hSk j hj hne
    obtain ⟨S', hS'⟩ := after_part hA (k + 1) (by omega)
    obtain ⟨S0, ys0, s, hkt, ha, hs, -⟩ := after_inv hS'
    rw [hSk] at ha
    simp only [Option.some.injEq, Prod.mk.injEq] at ha
    obtain ⟨rfl, rfl⟩ := ha
    obtain ⟨h0, h1, he, -⟩ := step_some hs
    by_cases hc : j < Sk.length - t[k].kids.toNat
    · subst he
      have hj' : j < (Sk.take (Sk.length - t[k].kids.toNat) ++ [s]).length := by simp; omega
      have e : (Sk.take (Sk.length - t[k].kids.toNat) ++ [s])[j] = Sk[j] := by rw [List.getElem_append_left (by simp; omega)]; simp
      obtain ⟨p, h3, h4, h5⟩ := ih (k + 1) (by omega) _ _ hS' j hj' (by rw [e]; exact hne)
      rw [e] at h5
      exact ⟨p, by omega, h4, h5⟩
    · refine ⟨k, Nat.le_refl _, by omega, ?_⟩
      rw [kidsRt_eq hSk hkt]
      refine List.mem_map.2 ⟨Sk[j], ?_, rfl⟩
      have e : Sk[j] = (Sk.drop (Sk.length - t[k].kids.toNat))[j - (Sk.length - t[k].kids.toNat)]'(by simp; omega) := by
        rw [List.getElem_drop]
        congr 1
        omega
      rw [e]
      exact List.getElem_mem _

theorem parent_at {t : List Nd} {S ys : List Sp} {m : Nat} (hA : after t m = some (S, ys)) (hS1 : S.length = 1) {i : Nat} (hi : i + 1 < m) : ∃ p, i < p ∧ p < m ∧ i ∈ kidsRt t p := by
  obtain ⟨S1, hS1'⟩ := after_part hA (i + 1) (by omega)
  have hc := (after_fine hS1').chain
  have hS0 : 0 < S1.length := by
    rcases Nat.eq_zero_or_pos S1.length with e | e
    · have := hc.2.2.2 e; omega
    · exact e
  have h9 := (hc.2.2.1 hS0).2
  obtain ⟨p, h1, h2, h3⟩ := parent_of hA hS1 (m - (i + 1)) (i + 1) (by omega) S1 _ hS1' (S1.length - 1) (by omega) (by omega)
  have e : (S1[S1.length - 1]'(by omega)).rt = i := by omega
  rw [e] at h3
  exact ⟨p, by omega, h2, h3⟩

theorem kidsN_map {t : List Nd} {S ys : List Sp} {m : Nat} (hA : after t m = some (S, ys)) {i : Nat} (hi : i < m) : kidsN t i = (kidsRt t i).map (ndAt t) := by
  obtain ⟨Si, hSi, hk, hK⟩ := kids_atS hA i hi
  rw [kidsRt_eq hSi hk, kidsN_eq hSi hk, List.map_map]
  rfl

/-- A scheme's node: what its kids are. -/
theorem kids_of {x : Nd} {ks : List Nd} (h : nodeOk codeOwn codeKids x ks = true) (hs : pScheme x = true) : ∀ y ∈ ks, pScheme y = true ∧ (y.kind = 62 → x.kind = 62 ∧ ks.length = 1) := by
  unfold nodeOk at h
  simp only [Bool.and_eq_true] at h
  have hk := h.2
  have ht : ∀ y, pType y = true → pScheme y = true ∧ y.kind ≠ 62 := by
    intro y hy
    refine ⟨by unfold pScheme; rw [hy]; simp, ?_⟩
    unfold pType at hy
    intro e
    rw [e] at hy
    simp at hy
  obtain ⟨k, nm, tx, kk, pl⟩ := x
  simp only at hk
  have hkk : k = 62 ∨ k = 12 ∨ k = 13 ∨ k = 14 ∨ k = 60 := by
    unfold pScheme pType at hs
    simp at hs
    omega
  rcases hkk with rfl | rfl | rfl | rfl | rfl
  · have hk' : fitAll [pScheme] ks = true := hk
    match ks, hk' with
    | [a], hk' =>
      intro y hy
      simp only [List.mem_singleton] at hy
      subst hy
      simp only [fitAll, Bool.and_true] at hk'
      exact ⟨hk', fun _ => ⟨rfl, rfl⟩⟩
    | [], hk' => simp [fitAll] at hk'
    | a :: b :: ks, hk' => simp [fitAll] at hk'
  · have hk' : (decide ((0 : Int) ≤ (ks.length : Int)) && ks.all pType) = true := hk
    simp only [Bool.and_eq_true, List.all_eq_true] at hk'
    intro y hy
    obtain ⟨h1, h2⟩ := ht y (hk'.2 y hy)
    exact ⟨h1, fun e => absurd e h2⟩
  · have hk' : fitAll [pType, pType] ks = true := hk
    match ks, hk' with
    | [a, b], hk' =>
      simp only [fitAll, Bool.and_true, Bool.and_eq_true] at hk'
      intro y hy
      simp only [List.mem_cons, List.not_mem_nil, or_false] at hy
      rcases hy with rfl | rfl
      · obtain ⟨h1, h2⟩ := ht _ hk'.1
        exact ⟨h1, fun e => absurd e h2⟩
      · obtain ⟨h1, h2⟩ := ht _ hk'.2
        exact ⟨h1, fun e => absurd e h2⟩
    | [], hk' => simp [fitAll] at hk'
    | [a], hk' => simp [fitAll] at hk'
    | a :: b :: c :: ks, hk' => simp [fitAll] at hk'
  · have hk' : (((ks.length : Int) != 1) && ks.all pType) = true := hk
    simp only [Bool.and_eq_true, List.all_eq_true] at hk'
    intro y hy
    obtain ⟨h1, h2⟩ := ht y (hk'.2 y hy)
    exact ⟨h1, fun e => absurd e h2⟩
  · have hk' : fitAll [] ks = true := hk
    match ks, hk' with
    | [], _ => intro y hy; cases hy
    | a :: ks, hk' => simp [fitAll] at hk'

/-- A scheme, as the program asks for it. -/
def FormC (t : List Nd) : Prop := InForm codeOwn codeKids pScheme t

theorem FormC.node {t : List Nd} (h : FormC t) {i : Nat} (hi : i < t.length) : nodeOk codeOwn codeKids (ndAt t i) (kidsN t i) = true := by
  have h9 := h.2.2.1 i hi
  unfold okAt at h9
  simp only [Bool.and_eq_true] at h9
  exact h9.1

theorem FormC.all {t : List Nd} (h : FormC t) : ∀ d i, i + 1 + d = t.length → pScheme (ndAt t i) = true := by
  obtain ⟨h0, S, ys, hA, hS1⟩ := one_rawS h.2.1
  intro d
  induction d using Nat.strongRecOn with
  | _ d ih =>
    intro i hi
    by_cases hd : d = 0
    · subst hd
      have e : i = t.length - 1 := by omega
      rw [e]
      exact h.2.2.2
    · obtain ⟨p, h1, h2, h3⟩ := parent_at hA hS1 (i := i) (by omega)
      have hp := ih (t.length - 1 - p) (by omega) p (by omega)
      have h4 : ndAt t i ∈ kidsN t p := by rw [kidsN_map hA h2]; exact List.mem_map.2 ⟨i, h3, rfl⟩
      exact (kids_of (h.node h2) hp _ h4).1

theorem FormC.sch {t : List Nd} (h : FormC t) {i : Nat} (hi : i < t.length) : pScheme (ndAt t i) = true := h.all (t.length - 1 - i) i (by omega)

theorem FormC.next {t : List Nd} (h : FormC t) {i : Nat} (hi : i + 1 < t.length) (h62 : (ndAt t i).kind = 62) : (ndAt t (i + 1)).kind = 62 := by
  obtain ⟨h0, S, ys, hA, hS1⟩ := one_rawS h.2.1
  obtain ⟨p, h1, h2, h3⟩ := parent_at hA hS1 hi
  have h4 : ndAt t i ∈ kidsN t p := by rw [kidsN_map hA h2]; exact List.mem_map.2 ⟨i, h3, rfl⟩
  obtain ⟨h5, h6⟩ := (kids_of (h.node h2) (h.sch h2) _ h4).2 h62
  obtain ⟨Sp, hSp, hk, hK⟩ := kids_atS hA p h2
  have h7 := kidsRt_len hA h2
  rw [h6] at h7
  rw [kidsRt_eq hSp hk] at h3 h7
  rw [List.length_map] at h7
  have h8 := hK.last (by omega)
  obtain ⟨s, hs, he⟩ := List.mem_map.1 h3
  obtain ⟨j, hj, rfl⟩ := List.getElem_of_mem hs
  have ej : j = (Sp.drop (Sp.length - t[p].kids.toNat)).length - 1 := by omega
  subst ej
  have e : p = i + 1 := by omega
  rw [← e]
  exact h5

theorem FormC.first {t : List Nd} (h : FormC t) : (ndAt t 0).kind ≠ 62 := by
  intro e
  have h0 := (one_rawS h.2.1).1
  have h1 := h.node h0
  unfold nodeOk at h1
  simp only [Bool.and_eq_true] at h1
  have h2 := h1.2
  have ek : kidsN t 0 = [] := by simp [kidsN, fam]
  rw [ek, e] at h2
  have h3 : fitAll [pScheme] [] = true := h2
  simp [fitAll] at h3

theorem alls_facts (t : List Nd) (m : Nat) : (∀ j, j < alls t m → (ndAt t (m - 1 - j)).kind = 62) ∧ (alls t m < m → (ndAt t (m - 1 - alls t m)).kind ≠ 62) := by
  induction m with
  | zero => exact ⟨fun j hj => absurd hj (by simp [alls]), fun h => absurd h (by omega)⟩
  | succ m ih =>
    by_cases h : (ndAt t m).kind = 62
    · have e : alls t (m + 1) = alls t m + 1 := by simp [alls, h]
      rw [e]
      refine ⟨fun j hj => ?_, fun hl => ?_⟩
      · by_cases ej : j = 0
        · subst ej; simpa using h
        · have h9 := ih.1 (j - 1) (by omega)
          have e2 : m - 1 - (j - 1) = m + 1 - 1 - j := by omega
          rw [e2] at h9
          exact h9
      · have h9 := ih.2 (by omega)
        have e2 : m - 1 - alls t m = m + 1 - 1 - (alls t m + 1) := by omega
        rw [e2] at h9
        exact h9
    · have e : alls t (m + 1) = 0 := by simp [alls, h]
      rw [e]
      exact ⟨fun j hj => absurd hj (by omega), fun _ => by simpa using h⟩

theorem FormC.endA {t : List Nd} (h : FormC t) : AllsEnd t (alls t t.length) := by
  have h0 := (one_rawS h.2.1).1
  obtain ⟨h1, h2⟩ := alls_facts t t.length
  have hl := alls_le t t.length
  have hlt : alls t t.length < t.length := by
    rcases Nat.lt_or_ge (alls t t.length) t.length with h9 | h9
    · exact h9
    · exfalso
      have h8 := h1 (t.length - 1) (by omega)
      have e : t.length - 1 - (t.length - 1) = 0 := by omega
      rw [e] at h8
      exact h.first h8
  exact ⟨hlt, h1, h2 hlt⟩

theorem FormC.ahead {t : List Nd} (h : FormC t) {i : Nat} (hi : i < t.length - alls t t.length) : (ndAt t i).kind ≠ 62 := by
  intro h62
  have hE := h.endA
  have key : ∀ d, i + d ≤ t.length - 1 - alls t t.length → (ndAt t (i + d)).kind = 62 := by
    intro d
    induction d with
    | zero => intro _; exact h62
    | succ d ih =>
      intro hd
      have h9 := ih (by omega)
      have hl := hE.lt
      exact h.next (i := i + d) (by omega) h9
  have hl := hE.lt
  have h9 := key (t.length - 1 - alls t t.length - i) (by omega)
  have e : i + (t.length - 1 - alls t t.length - i) = t.length - 1 - alls t t.length := by omega
  rw [e] at h9
  exact hE.not h9

end Go.Proofs.Ytocidoamfofefaa

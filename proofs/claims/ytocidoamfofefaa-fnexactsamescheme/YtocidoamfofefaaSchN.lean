
import Derived.Test.YtocidoamfofefaaSchM
namespace Go.Proofs.Ytocidoamfofefaa

theorem nodup_rev {l : List Int} : l.reverse.Nodup ↔ l.Nodup := by
  unfold List.Nodup
  rw [List.pairwise_reverse]
  exact ⟨fun h => h.imp fun h e => h e.symm, fun h => h.imp fun h e => h e.symm⟩

theorem new_iff (t : List Nd) (m : Nat) : (∀ k, k < m → newC t k = true) ↔ (allsL t m).length ≤ 1000 ∧ (allsL t m).Nodup := by
  induction m with
  | zero => simp [allsL]
  | succ m ih =>
    have hs : (∀ k, k < m + 1 → newC t k = true) ↔ (∀ k, k < m → newC t k = true) ∧ newC t m = true := by
      constructor
      · intro h
        exact ⟨fun k hk => h k (by omega), h m (by omega)⟩
      · intro h k hk
        by_cases e : k = m
        · subst e; exact h.2
        · exact h.1 k (by omega)
    rw [hs, ih]
    by_cases h62 : (ndAt t m).kind = 62
    · have e : allsL t (m + 1) = allsL t m ++ [(ndAt t m).num] := by simp [allsL, h62]
      have hn : newC t m = true ↔ (allsL t m).length < 1000 ∧ (ndAt t m).num ∉ allsL t m := by
        unfold newC
        simp only [h62, bne_self_eq_false, Bool.false_or, Bool.and_eq_true, decide_eq_true_eq]
        rw [lastTo_none]
        refine and_congr_right fun _ => ?_
        constructor
        · intro h hm
          obtain ⟨i, hi, he⟩ := List.getElem_of_mem hm
          exact h i hi (by rw [List.getElem?_eq_getElem hi, he])
        · intro h i hi he
          rw [List.getElem?_eq_getElem hi] at he
          simp only [Option.some.injEq] at he
          exact h (by rw [← he]; exact List.getElem_mem hi)
      rw [e, hn, List.nodup_append]
      simp only [List.length_append, List.length_singleton, List.mem_singleton]
      constructor
      · rintro ⟨⟨h1, h2⟩, h3, h4⟩
        refine ⟨by omega, h2, by simp, ?_⟩
        intro a ha b hb e9
        subst hb
        subst e9
        exact h4 ha
      · rintro ⟨h1, h2, -, h3⟩
        exact ⟨⟨by omega, h2⟩, by omega, fun h => h3 _ h _ rfl rfl⟩
    · have e : allsL t (m + 1) = allsL t m := by simp [allsL, h62]
      have hn : newC t m = true := by unfold newC; simp [h62]
      rw [e, hn]
      simp

/-- The nums of the TAlls at the end, the first one first. -/
theorem allsL_end {t : List Nd} {A : Nat} (hE : AllsEnd t A) (hahead : ∀ i, i < t.length - A → (ndAt t i).kind ≠ 62) : allsL t t.length = (bkL t A).reverse := by
  have hl := hE.lt
  have h0 : ∀ k, k ≤ t.length - A → allsL t k = [] := by
    intro k
    induction k with
    | zero => intro _; rfl
    | succ k ih =>
      intro hk
      have h9 := hahead k (by omega)
      simp [allsL, h9, ih (by omega)]
  have h1 : ∀ r, r ≤ A → allsL t (t.length - A + r) = (List.range r).map fun j => (ndAt t (t.length - A + j)).num := by
    intro r
    induction r with
    | zero => intro _; simpa using h0 _ (Nat.le_refl _)
    | succ r ih =>
      intro hr
      have h9 := hE.all (A - 1 - r) (by omega)
      have e : t.length - 1 - (A - 1 - r) = t.length - A + r := by omega
      rw [e] at h9
      have e2 : t.length - A + (r + 1) = (t.length - A + r) + 1 := by omega
      rw [e2]
      simp only [allsL, h9, if_true]
      rw [ih (by omega), List.range_succ, List.map_append]
      rfl
  have h2 := h1 A (Nat.le_refl _)
  have e : t.length - A + A = t.length := by omega
  rw [e] at h2
  rw [h2]
  apply List.ext_getElem
  · simp [bkL]
  · intro i hi1 hi2
    simp at hi1
    simp [bkL]
    congr 2
    omega

/-- What the model asks of a node, where its letter is right. -/
theorem okC_iff {t : List Nd} {S ys : List Sp} (h : after t t.length = some (S, ys)) (k : Nat) (hk : k < t.length) : okC t k = true ↔ nodeOk codeOwn codeKids (ndAt t k) (kidsN t k) = true ∧ pScheme (ndAt t k) = true := by
  obtain ⟨Si, hSi, hkt, hK⟩ := kids_atS h k hk
  have hn : (ndAt t k).kids = ((kidsN t k).length : Int) := by
    rw [ndAt_get hk, kidsN_eq hSi hkt, List.length_map]
    exact hK.num.choose_spec
  rw [← node_eq _ _ hn]
  unfold okC
  have hp : pScheme (ndAt t k) = true ↔ (letK (ndAt t k).kind = 116 ∨ letK (ndAt t k).kind = 115) := by
    rw [← isK_s]
    unfold isK
    simp
    omega
  have ht : (letK (ndAt t k).kind = 116 ∨ letK (ndAt t k).kind = 115) → tup1 (ndAt t k) = tupC (ndAt t k) := by
    intro hl
    unfold tup1 tupC
    have h75 : ((ndAt t k).kind == 75) = false := by
      simp
      intro e
      rw [e] at hl
      simp [letK] at hl
    have h20 : ((ndAt t k).kind == 20) = false := by
      simp
      intro e
      rw [e] at hl
      simp [letK] at hl
    rw [h75, h20]
    simp
  simp only [Bool.and_eq_true, Bool.or_eq_true, beq_iff_eq, bne_iff_ne]
  constructor
  · rintro ⟨h1, h2, h3, h4⟩
    exact ⟨⟨by omega, h2, by rw [ht h1]; exact h3, h4⟩, hp.2 h1⟩
  · rintro ⟨⟨h1, h2, h3, h4⟩, h5⟩
    have h6 := hp.1 h5
    exact ⟨h6, h2, by rw [← ht h6]; exact h3, h4⟩

theorem alls_allsL (t : List Nd) (k : Nat) : alls t k ≤ (allsL t k).length := by
  induction k with
  | zero => simp [alls]
  | succ k ih =>
    by_cases h : (ndAt t k).kind = 62
    · simp [alls, allsL, h]; omega
    · simp [alls, h]

theorem allsL_mono (t : List Nd) {k m : Nat} (h : k ≤ m) : (allsL t k).length ≤ (allsL t m).length := by
  induction m with
  | zero => have : k = 0 := by omega
            subst this; exact Nat.le_refl _
  | succ m ih =>
    by_cases e : k = m + 1
    · subst e; exact Nat.le_refl _
    · have h9 := ih (by omega)
      by_cases h62 : (ndAt t m).kind = 62
      · simp [allsL, h62]; omega
      · simp [allsL, h62]; exact h9

theorem sch_iff (t : List Nd) : SchS t ↔ FormC t ∧ (bkL t (alls t t.length)).Nodup := by
  constructor
  · rintro ⟨h1, h2, h3⟩
    obtain ⟨h0, S, ys, hA, hS1⟩ := one_rawS h2
    have hnew : ∀ k, k < t.length → newC t k = true := fun k hk => by have := h3 k hk; simp only [Bool.and_eq_true] at this; exact this.2
    have hok : ∀ k, k < t.length → okC t k = true := fun k hk => by have := h3 k hk; simp only [Bool.and_eq_true] at this; exact this.1
    obtain ⟨h4, h5⟩ := (new_iff t t.length).1 hnew
    have hF : FormC t := by
      refine ⟨h1, h2, ?_, ((okC_iff hA _ (by omega)).1 (hok (t.length - 1) (by omega))).2⟩
      intro i hi
      unfold okAt
      rw [((okC_iff hA i hi).1 (hok i hi)).1]
      have h6 := alls_allsL t (i + 1)
      have h7 := allsL_mono t (k := i + 1) (m := t.length) (by omega)
      simp
      omega
    refine ⟨hF, ?_⟩
    rw [allsL_end hF.endA (fun i hi => hF.ahead hi)] at h5
    exact nodup_rev.1 h5
  · rintro ⟨hF, hN⟩
    obtain ⟨h0, S, ys, hA, hS1⟩ := one_rawS hF.2.1
    have hL := allsL_end hF.endA (fun i hi => hF.ahead hi)
    have hnew := (new_iff t t.length).2 ⟨by
      rw [hL, List.length_reverse, bkL_len]
      have h9 := hF.2.2.1 (t.length - 1) (by omega)
      unfold okAt at h9
      simp only [Bool.and_eq_true, decide_eq_true_eq] at h9
      have e : t.length - 1 + 1 = t.length := by omega
      rw [e] at h9
      exact h9.2, by rw [hL]; exact nodup_rev.2 hN⟩
    refine ⟨hF.1, hF.2.1, fun i hi => ?_⟩
    rw [hnew i hi, (okC_iff hA i hi).2 ⟨hF.node hi, hF.sch hi⟩]
    rfl

end Go.Proofs.Ytocidoamfofefaa

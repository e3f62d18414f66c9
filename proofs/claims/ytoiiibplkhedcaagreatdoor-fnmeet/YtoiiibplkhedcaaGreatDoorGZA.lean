import Derived.Test.YtoiiibplkhedcaaGreatDoorGY
import Derived.Test.YtoiiibplkhedcaaGreatDoorGE
import Derived.Test.YtoiiibplkhedcaaGreatDoorGH
namespace Go.Proofs.YtoiiibplkhedcaaGreatDoor
def Jax (κ : Int → Int) (t : List Nd) : Prop := ∀ x ∈ metas t, ∀ y ∈ metas t, κ x = κ y → x = y
theorem Qcf {t : List Nd} {n : Nd} (hn : n ∈ t) (hk : n.kind = 61) : n.num ∈ metas t := List.mem_map.2 ⟨n, List.mem_filter.2 ⟨hn, by simpa using hk⟩, rfl⟩
theorem Jbl (f : Int) (t : List Nd) : ∀ k, k ≤ t.length → ∀ x ∈ (nmTo f t k).1, x ∈ metas t := by
  intro k
  induction k with
  | zero => intro _ x hx; simp [nmTo] at hx
  | succ k ih =>
    intro hk x hx
    rw [Qab f t k (by omega)] at hx
    have hmem : t[k]'(by omega) ∈ t := List.getElem_mem _
    unfold Qae at hx
    split at hx
    · next h61 =>
      simp only at hx
      split at hx
      · rcases List.mem_append.1 hx with h | h
        · exact ih (by omega) x h
        · simp at h; subst h; exact Qcf hmem h61
      · exact ih (by omega) x hx
    · exact ih (by omega) x hx
theorem Qdf {κ : Int → Int} {t : List Nd} (hi : Jax κ t) {met : List Int} (hm : ∀ x ∈ met, x ∈ metas t) {x : Int} (hx : x ∈ metas t) : placeIn (met.map κ) (κ x) = placeIn met x := by
  unfold placeIn
  rw [List.findIdx_map]
  induction met with
  | nil => rfl
  | cons y met ih =>
    rw [List.findIdx_cons, List.findIdx_cons]
    have hy := hm y (by simp)
    have ih' := ih (fun z hz => hm z (by simp [hz]))
    rw [ih']
    simp only [Function.comp]
    by_cases e : y = x
    · subst e; simp
    · have : κ y ≠ κ x := fun h => e (hi y hy x hx h)
      rw [beq_eq_false_iff_ne.2 this, beq_eq_false_iff_ne.2 e]
theorem Jbk {κ : Int → Int} (f : Int) {t : List Nd} (hi : Jax κ t) : ∀ k, k ≤ t.length → nmTo f (ren κ t) k = ((nmTo f t k).1.map κ, (nmTo f t k).2) := by
  intro k
  induction k with
  | zero => intro _; rfl
  | succ k ih =>
    intro hk
    have hk' : k < (ren κ t).length := by rw [Qah]; omega
    have hmet := Jbl f t k (by omega)
    rw [Qab f _ k hk', Qab f t k (by omega), ih (by omega)]
    have e : (ren κ t)[k] = renN κ (t[k]'(by omega)) := by simp [ren]
    have hmem : t[k]'(by omega) ∈ t := List.getElem_mem _
    rw [e]
    revert hmet hmem
    generalize t[k]'(by omega) = n
    generalize nmTo f t k = s
    intro hmet hmem
    unfold Qae
    rw [Qaz]
    by_cases h61 : n.kind = 61
    · rw [if_pos h61, if_pos h61]
      have hn : (renN κ n).num = κ n.num := by simp [renN, h61]
      have e3 : (renN κ n).text = n.text ∧ (renN κ n).kids = n.kids ∧ (renN κ n).place = n.place := by simp [renN, h61]
      have hpl := Qdf hi hmet (Qcf hmem h61)
      simp only [hn, hpl, List.length_map, e3.1, e3.2.1, e3.2.2]
      split
      · simp
      · rfl
    · rw [if_neg h61, if_neg h61]
      have e2 : renN κ n = n := by simp [renN, h61]
      rw [e2]
theorem Qfj {κ : Int → Int} {t : List Nd} (hi : Jax κ t) (ht : typeb t = true) (ht' : typeb (ren κ t) = true) : canonOf (ren κ t) = canonOf t := by
  rw [Qad ht, Qad ht', Qah, Jbk 1 hi t.length (Nat.le_refl _)]
theorem Qes {s t : List Nd} (hs : typeb s = true) (ht : typeb t = true) {θ θ' : Int → List Nd} (hθ : ∀ x, One (θ x)) (hθ' : ∀ x, One (θ' x)) (h1 : fill θ s = t) (h2 : fill θ' t = s) : canonOf t = canonOf s ∧ t.length = s.length := by
  have hff : ∀ t : List Nd, fill θ' (fill θ t) = fill (fun x => fill θ' (θ x)) t := by
    intro t
    induction t with
    | nil => rfl
    | cons n t ih =>
      have e9 : ∀ (θ : Int → List Nd) (n : Nd) (t : List Nd), fill θ (n :: t) = fillN θ n ++ fill θ t := fun θ n t => by simp [fill]
      rw [e9, e9, fill_append, ih]
      congr 1
      unfold fillN
      by_cases hk : n.kind = 61
      · rw [if_pos hk, if_pos hk]
      · rw [if_neg hk, if_neg hk]; simp [fill, fillN, hk]
  have hsub : ∀ x ∈ metas s, ∀ n ∈ θ x, n ∈ t := by
    intro x hx n hn
    obtain ⟨m, hm, rfl⟩ := List.mem_map.1 hx
    obtain ⟨hm1, hm2⟩ := List.mem_filter.1 hm
    rw [← h1]
    refine List.mem_flatMap.2 ⟨m, hm1, ?_⟩
    unfold fillN
    rw [if_pos (by simpa using hm2)]
    exact hn
  have hlt : Leafy t := plain_leafy (typeb_plain ht)
  classical
  obtain ⟨τ, hτ⟩ : ∃ τ : Int → List Nd, τ = fun x => if x ∈ metas s then fill θ' (θ x) else [metaN x] := ⟨_, rfl⟩
  have hτ1 : ∀ x, One (τ x) := by
    intro x
    subst hτ
    simp only
    split
    · next hx => exact fill_one hθ' (fun n hn hk => hlt n (hsub x hx n hn) hk) (hθ x)
    · exact metaN_one x
  have e : fill τ s = fill (fun x => [metaN x]) s := by
    have e9 : fill τ s = fill (fun x => fill θ' (θ x)) s := fill_congr (fun x hx => by subst hτ; simp only; rw [if_pos hx])
    rw [e9, ← hff, h1, h2, fill_id (typeb_plain hs)]
  have hinj := fill_inj_one hτ1 metaN_one (plain_leafy (typeb_plain hs)) (Qbw hs) e
  obtain ⟨κ, hκ⟩ : ∃ κ : Int → Int, κ = fun x => ((θ x).head?.map Nd.num).getD 0 := ⟨_, rfl⟩
  have hθκ : ∀ x ∈ metas s, θ x = [metaN (κ x)] ∧ θ' (κ x) = [metaN x] := by
    intro x hx
    have h9 := hinj x hx
    rw [hτ] at h9
    simp only [if_pos hx] at h9
    have hl := fill_len hθ' (θ x)
    rw [h9] at hl
    have hp := List.length_pos_iff.2 (hθ x).ne
    obtain ⟨n, hn⟩ : ∃ n, θ x = [n] := List.length_eq_one_iff.1 (by simp at hl; omega)
    have hnt := hsub x hx n (by rw [hn]; simp)
    have hpl := List.all_eq_true.1 (typeb_plain ht) n hnt
    rw [hn] at h9
    by_cases hk : n.kind = 61
    · have hm := plain_meta hpl hk
      have hkx : κ x = n.num := by rw [hκ]; simp [hn]
      refine ⟨by rw [hn, hkx, ← hm], ?_⟩
      rw [hkx]
      have ef : fill θ' [n] = θ' n.num := by simp [fill, fillN, hk]
      rw [ef] at h9
      exact h9
    · exfalso
      have ef : fill θ' [n] = [n] := by simp [fill, fillN, hk]
      rw [ef] at h9
      simp only [List.cons.injEq, and_true] at h9
      rw [h9] at hk
      exact hk rfl
  have hrm : ∀ u : List Nd, u.all Nd.plainb = true → fill (fun x => [metaN (κ x)]) u = ren κ u := by
    intro u
    induction u with
    | nil => intro _; rfl
    | cons n u ih =>
      intro hu
      simp only [List.all_cons, Bool.and_eq_true] at hu
      have e9 : fill (fun x => [metaN (κ x)]) (n :: u) = fillN (fun x => [metaN (κ x)]) n ++ fill (fun x => [metaN (κ x)]) u := by simp [fill]
      rw [e9, ih hu.2]
      unfold fillN
      by_cases hk : n.kind = 61
      · rw [if_pos hk]
        have hm := plain_meta hu.1 hk
        show [metaN (κ n.num)] ++ ren κ u = renN κ n :: ren κ u
        have : renN κ n = metaN (κ n.num) := by
          rw [hm]
          simp [renN, metaN]
        rw [this]
        rfl
      · rw [if_neg hk]
        show [n] ++ ren κ u = renN κ n :: ren κ u
        have : renN κ n = n := by simp [renN, hk]
        rw [this]
        rfl
  have htr : t = ren κ s := by
    rw [← h1, ← hrm s (typeb_plain hs)]
    exact fill_congr (fun x hx => (hθκ x hx).1)
  have hInj : Jax κ s := by
    intro x hx y hy exy
    have h1 := (hθκ x hx).2
    have h2 := (hθκ y hy).2
    rw [exy, h2] at h1
    exact (metaN_inj h1).symm
  refine ⟨?_, by rw [htr, Qah]⟩
  rw [htr]
  exact Qfj hInj hs (by rw [← htr]; exact ht)
structure Mgci (a b m : List Nd) : Prop where
  ea : ∃ α : Int → List Nd, (∀ x, One (α x)) ∧ fill α a = m
  eb : ∃ β : Int → List Nd, (∀ x, One (β x)) ∧ fill β b = m
  all : ∀ α β : Int → List Nd, (∀ x, One (α x)) → (∀ x, One (β x)) → fill α a = fill β b → ∃ θ : Int → List Nd, (∀ x, One (θ x)) ∧ fill θ m = fill α a
theorem Mgci.swap {a b m : List Nd} (h : Mgci a b m) : Mgci b a m := by
  refine ⟨h.eb, h.ea, fun α β hα hβ e => ?_⟩
  obtain ⟨θ, h1, h2⟩ := h.all β α hβ hα e.symm
  exact ⟨θ, h1, by rw [h2, e]⟩
theorem Mgci.same {a b m m' : List Nd} (h : Mgci a b m) (h' : Mgci a b m') (hm : typeb m = true) (hm' : typeb m' = true) : canonOf m = canonOf m' ∧ m.length = m'.length := by
  obtain ⟨α, ha1, ha2⟩ := h.ea
  obtain ⟨β, hb1, hb2⟩ := h.eb
  obtain ⟨α', ha1', ha2'⟩ := h'.ea
  obtain ⟨β', hb1', hb2'⟩ := h'.eb
  obtain ⟨θ, t1, t2⟩ := h'.all α β ha1 hb1 (by rw [ha2, hb2])
  obtain ⟨θ', s1, s2⟩ := h.all α' β' ha1' hb1' (by rw [ha2', hb2'])
  rw [ha2] at t2
  rw [ha2'] at s2
  exact Qes hm' hm t1 s1 t2 s2
theorem Mgci.len {a b m m' : List Nd} (h : Mgci a b m) (h' : Mgci a b m') : m.length = m'.length := by
  obtain ⟨α, ha1, ha2⟩ := h.ea
  obtain ⟨β, hb1, hb2⟩ := h.eb
  obtain ⟨α', ha1', ha2'⟩ := h'.ea
  obtain ⟨β', hb1', hb2'⟩ := h'.eb
  obtain ⟨θ, t1, t2⟩ := h'.all α β ha1 hb1 (by rw [ha2, hb2])
  obtain ⟨θ', s1, s2⟩ := h.all α' β' ha1' hb1' (by rw [ha2', hb2'])
  rw [ha2] at t2
  rw [ha2'] at s2
  have l1 := fill_len t1 m'
  have l2 := fill_len s1 m
  rw [t2] at l1
  rw [s2] at l2
  omega
end Go.Proofs.YtoiiibplkhedcaaGreatDoor

namespace Go.Proofs.YtoiiibplkhedcaaGreatDoor
theorem Qbi {l r : List Int} {x : Int} (h : x ∈ l) : placeIn (l ++ r) x = placeIn l x := by
  unfold placeIn
  have hlt : l.findIdx (· == x) < l.length := List.findIdx_lt_length_of_exists ⟨x, h, by simp⟩
  rw [List.findIdx_append, if_pos hlt]
theorem Qct {l : List Int} {x : Int} (h : x ∈ l) : l[placeIn l x]? = some x := by
  unfold placeIn
  have hlt : l.findIdx (· == x) < l.length := List.findIdx_lt_length_of_exists ⟨x, h, by simp⟩
  rw [List.getElem?_eq_getElem hlt]
  have h8 : (l[l.findIdx (· == x)] == x) = true := List.findIdx_getElem (w := hlt)
  simpa using h8
theorem placeIn_not {l : List Int} {x : Int} : placeIn l x = l.length ↔ x ∉ l := by
  unfold placeIn
  rw [List.findIdx_eq_length]
  constructor
  · intro h hx
    have := h x hx
    simp at this
  · intro h y hy
    simp only [beq_eq_false_iff_ne]
    intro e
    exact h (e ▸ hy)
theorem Qcv (f : Int) (t : List Nd) (k : Nat) : ∀ j, k ≤ j → j ≤ t.length → ∃ r, (nmTo f t j).1 = (nmTo f t k).1 ++ r := by
  intro j
  induction j with
  | zero => intro h _; obtain rfl : k = 0 := by omega
            exact ⟨[], by simp⟩
  | succ j ih =>
    intro hkj hj
    by_cases e : k = j + 1
    · subst e; exact ⟨[], by simp⟩
    · obtain ⟨r, hr⟩ := ih (by omega) (by omega)
      rw [Qab f t j (by omega)]
      unfold Qae
      split
      · simp only
        split
        · exact ⟨r ++ [_], by rw [hr, List.append_assoc]⟩
        · exact ⟨r, hr⟩
      · exact ⟨r, hr⟩
theorem Qec (f : Int) (t : List Nd) : ∃ κ : Int → Int, Jax κ t ∧ (nmTo f t t.length).2 = ren κ t := by
  obtain ⟨M, hM⟩ : ∃ M, (nmTo f t t.length).1 = M := ⟨_, rfl⟩
  have step : ∀ k (hk : k < t.length), (t[k]).kind = 61 → t[k].num ∈ (nmTo f t (k + 1)).1 ∧ placeIn (nmTo f t k).1 t[k].num = placeIn M t[k].num := by
    intro k hk h61
    obtain ⟨r, hr⟩ := Qcv f t (k + 1) t.length (by omega) (Nat.le_refl _)
    rw [hM] at hr
    have hs := Qab f t k hk
    unfold Qae at hs
    rw [if_pos h61] at hs
    by_cases hp : placeIn (nmTo f t k).1 t[k].num = (nmTo f t k).1.length
    · have e1 : (nmTo f t (k + 1)).1 = (nmTo f t k).1 ++ [t[k].num] := by rw [hs]; simp only; rw [if_pos hp]
      have hin : t[k].num ∈ (nmTo f t (k + 1)).1 := by rw [e1]; simp
      refine ⟨hin, ?_⟩
      rw [hr, Qbi hin, e1]
      have hnot := placeIn_not.1 hp
      rw [hp]
      unfold placeIn
      rw [List.findIdx_append, if_neg (by rw [show (nmTo f t k).1.findIdx (· == t[k].num) = (nmTo f t k).1.length from hp]; omega)]
      simp
    · have e1 : (nmTo f t (k + 1)).1 = (nmTo f t k).1 := by rw [hs]; simp only; rw [if_neg hp]
      have hin : t[k].num ∈ (nmTo f t k).1 := by
        apply Classical.byContradiction
        intro h9
        exact hp (placeIn_not.2 h9)
      refine ⟨by rw [e1]; exact hin, ?_⟩
      rw [hr, e1, Qbi hin]
  have hmem : ∀ x ∈ metas t, x ∈ M := by
    intro x hx
    obtain ⟨n, hn, rfl⟩ := List.mem_map.1 hx
    obtain ⟨hn1, hn2⟩ := List.mem_filter.1 hn
    obtain ⟨k, hk, rfl⟩ := List.getElem_of_mem hn1
    obtain ⟨r, hr⟩ := Qcv f t (k + 1) t.length (by omega) (Nat.le_refl _)
    rw [hM] at hr
    rw [hr]
    exact List.mem_append_left _ (step k hk (by simpa using hn2)).1
  refine ⟨fun x => f + (placeIn M x : Int), ?_, ?_⟩
  · intro x hx y hy e
    have e2 : placeIn M x = placeIn M y := by simp only at e; omega
    have h1 := Qct (hmem x hx)
    have h2 := Qct (hmem y hy)
    rw [e2, h2] at h1
    simpa using h1.symm
  · have key : ∀ k, k ≤ t.length → (nmTo f t k).2 = ren (fun x => f + (placeIn M x : Int)) (t.take k) := by
      intro k
      induction k with
      | zero => intro _; rfl
      | succ k ih =>
        intro hk
        rw [Qab f t k (by omega), List.take_succ_eq_append_getElem (by omega), Qao, ← ih (by omega)]
        unfold Qae
        by_cases h61 : (t[k]'(by omega)).kind = 61
        · rw [if_pos h61]
          simp only
          congr 1
          simp only [ren, renN, List.map_cons, List.map_nil, if_pos h61]
          rw [(step k (by omega) h61).2]
        · rw [if_neg h61]
          simp only
          congr 1
          simp only [ren, renN, List.map_cons, List.map_nil, if_neg h61]
    have := key t.length (Nat.le_refl _)
    rw [List.take_length] at this
    exact this
theorem Qfp {σ : Int → List Nd} {t : List Nd} {x : Int} (hx : x ∈ metas t) : (σ x).length ≤ (fill σ t).length := by
  obtain ⟨n, hn, rfl⟩ := List.mem_map.1 hx
  obtain ⟨hn1, hn2⟩ := List.mem_filter.1 hn
  have hk : n.kind = 61 := by simpa using hn2
  obtain ⟨A, B, rfl⟩ := List.append_of_mem hn1
  have e : fill σ (A ++ n :: B) = fill σ A ++ (σ n.num ++ fill σ B) := by
    rw [fill_append]
    congr 1
    simp [fill, fillN, hk]
  rw [e]
  simp
  omega
theorem Jat (θ σ : Int → List Nd) (t : List Nd) : fill θ (fill σ t) = fill (fun x => fill θ (σ x)) t := by
  induction t with
  | nil => rfl
  | cons n t ih =>
    have e9 : ∀ (θ : Int → List Nd) (n : Nd) (t : List Nd), fill θ (n :: t) = fillN θ n ++ fill θ t := fun θ n t => by simp [fill]
    rw [e9, e9, fill_append, ih]
    congr 1
    unfold fillN
    by_cases hk : n.kind = 61
    · rw [if_pos hk, if_pos hk]
    · rw [if_neg hk, if_neg hk]; simp [fill, fillN, hk]
theorem Qcg {a b : List Nd} (ha : typeb a = true) {f : Int} (hf : (a.length : Int) < f) {α β : Int → List Nd} (hα : ∀ x, One (α x)) (hβ : ∀ x, One (β x)) :
    ∃ γ : Int → List Nd, (∀ x, One (γ x)) ∧ fill γ (canonOf a) = fill α a ∧ fill γ (Jab f b) = fill β b := by
  classical
  obtain ⟨κ, hκ, eκ⟩ := Qec 1 a
  obtain ⟨lam, hl, el⟩ := Qec f b
  have hx : canonOf a = ren κ a := by rw [Qad ha, eκ]
  have hy : Jab f b = ren lam b := by unfold Jab; rw [el]
  have hκr : ∀ n ∈ metas a, κ n ≤ (a.length : Int) := by
    intro n hn
    have := Qbh 1 a a.length (Nat.le_refl _) (κ n) (by rw [eκ, Qbo]; exact List.mem_map_of_mem hn)
    omega
  have hlr : ∀ n ∈ metas b, f ≤ lam n := by
    intro n hn
    have := Qbh f b b.length (Nat.le_refl _) (lam n) (by rw [el, Qbo]; exact List.mem_map_of_mem hn)
    omega
  refine ⟨fun y => if h : ∃ n, n ∈ metas a ∧ κ n = y then α h.choose else if h : ∃ n, n ∈ metas b ∧ lam n = y then β h.choose else [metaN y], ?_, ?_, ?_⟩
  · intro y
    simp only
    split
    · exact hα _
    · split
      · exact hβ _
      · exact metaN_one y
  · rw [hx, Qar]
    refine fill_congr (fun n hn => ?_)
    have h : ∃ m, m ∈ metas a ∧ κ m = κ n := ⟨n, hn, rfl⟩
    rw [dif_pos h]
    rw [hκ _ h.choose_spec.1 _ hn h.choose_spec.2]
  · rw [hy, Qar]
    refine fill_congr (fun n hn => ?_)
    have h0 : ¬ ∃ m, m ∈ metas a ∧ κ m = lam n := by
      rintro ⟨m, hm, e⟩
      have h1 := hκr m hm
      have h2 := hlr n hn
      omega
    have h : ∃ m, m ∈ metas b ∧ lam m = lam n := ⟨n, hn, rfl⟩
    rw [dif_neg h0, dif_pos h]
    rw [hl _ h.choose_spec.1 _ hn h.choose_spec.2]
theorem Qdi {a b : List Nd} (ha : typeb a = true) {f : Int} (hf : (a.length : Int) < f) {σ : Int → List Nd} (hs : SolveOk [(canonOf a, Jab f b)] σ) : Mgci a b (fill σ (canonOf a)) := by
  obtain ⟨κ, hκ, eκ⟩ := Qec 1 a
  obtain ⟨lam, hl, el⟩ := Qec f b
  have hx : canonOf a = ren κ a := by rw [Qad ha, eκ]
  have hy : Jab f b = ren lam b := by unfold Jab; rw [el]
  have hsol := hs.sol (canonOf a, Jab f b) (by simp)
  simp only at hsol
  refine ⟨⟨fun n => σ (κ n), fun n => hs.one _, by rw [hx, Qar]⟩, ⟨fun n => σ (lam n), fun n => hs.one _, by rw [hsol, hy, Qar]⟩, ?_⟩
  intro α β hα hβ e
  obtain ⟨γ, g1, g2, g3⟩ := Qcg (b := b) ha hf hα hβ
  have hsg : Solves γ [(canonOf a, Jab f b)] := by
    intro p hp
    simp only [List.mem_singleton] at hp
    subst hp
    simp only
    rw [g2, g3, e]
  refine ⟨γ, g1, ?_⟩
  rw [Jat, ← g2]
  refine fill_congr (fun n _ => hs.gen γ g1 hsg n)
theorem SolveOk.type_at {ps : List (List Nd × List Nd)} {σ : Int → List Nd} (hv : Valid ps) (hs : SolveOk ps σ) {x : Int} (hx : Occ ps x) (hl : (σ x).length ≤ 300) : typeb (σ x) = true := Qdg (hs.one _) hl (hs.plain _ (occ_num hv hx))
theorem Qgb {σ : Int → List Nd} {t : List Nd} (ht : t.all Nd.plainb = true) (hσ : ∀ x ∈ metas t, (σ x).all Nd.plainb = true) : (fill σ t).all Nd.plainb = true := by
  rw [List.all_eq_true]
  intro n hn
  obtain ⟨m, hm, hnm⟩ := List.mem_flatMap.1 hn
  unfold fillN at hnm
  split at hnm
  · next hk => exact List.all_eq_true.1 (hσ m.num (Qcf hm hk)) n hnm
  · simp only [List.mem_singleton] at hnm
    subst hnm
    exact List.all_eq_true.1 ht _ hm
theorem Qbc {a b out : List Nd} {fl : Bool} (h : Qac a b out fl) (ha : typeb a = true) (hb : typeb b = true) :
    (fl = true ∧ ∃ m, Mgci a b m ∧ typeb m = true ∧ out = canonOf m) ∨ (fl = false ∧ out = [] ∧ ∀ m, Mgci a b m → 300 < m.length) := by
  rcases h with ⟨h1, _, _⟩ | ⟨_, _, hfl, f, ok, i, bs, hf, hs, ho⟩
  · rcases h1 with h1 | h1
    · rw [ha] at h1; cases h1
    · rw [hb] at h1; cases h1
  · have hf1 : 1 ≤ f := by omega
    have hla := typeb_len ha
    have hlb := typeb_len hb
    have htx : typeb (canonOf a) = true := by rw [Qad ha]; exact Qdh 1 (by omega) ha
    have hty : typeb (Jab f b) = true := Qcw hf1 hb
    have hv : Valid [(canonOf a, Jab f b)] := by
      refine ⟨?_, ?_⟩
      · have h1 := typeb_len htx
        have h2 := typeb_len hty
        simp
        omega
      · intro p hp
        simp only [List.mem_singleton] at hp
        subst hp
        exact ⟨htx, hty⟩
    have hocc : ∀ x, Occ [(canonOf a, Jab f b)] x → x ∈ metas (canonOf a) ∨ x ∈ metas (Jab f b) := by
      rintro x ⟨p, hp, hx⟩
      simp only [List.mem_singleton] at hp
      subst hp
      exact hx
    cases hs with
    | bad h1 => exact absurd hv h1
    | no j _ hj _ hn =>
      right
      have hj0 : j = 0 := by simp at hj; omega
      subst hj0
      simp only [Bool.false_eq_true, if_false] at ho
      subst ho
      refine ⟨hfl, rfl, fun m hm => ?_⟩
      exfalso
      obtain ⟨α, a1, a2⟩ := hm.ea
      obtain ⟨β, b1, b2⟩ := hm.eb
      obtain ⟨γ, g1, g2, g3⟩ := Qcg (b := b) ha hf a1 b1
      refine hn γ g1 ?_
      intro p hp
      simp at hp
      subst hp
      simp only
      rw [g2, g3, a2, b2]
    | large σ x _ hsk hox hl =>
      right
      simp only [Bool.false_eq_true, if_false] at ho
      subst ho
      refine ⟨hfl, rfl, fun m hm => ?_⟩
      have hm0 := Qdi ha hf hsk
      rw [hm.len hm0]
      have hsol := hsk.sol (canonOf a, Jab f b) (by simp)
      simp only at hsol
      rcases hocc x hox with h9 | h9
      · have := Qfp (σ := σ) h9; omega
      · have := Qfp (σ := σ) h9; rw [← hsol] at this; omega
    | ok σ _ _ hsk hup hocc2 hall =>
      simp only [if_true] at ho
      have hm0 := Qdi ha hf hsk
      have hσ : ∀ q ∈ bs, q.2 = σ q.1 := fun q hq => (hall q hq).1
      have hfill : putAll bs (canonOf a) = fill σ (canonOf a) := by
        rw [Qbl bs (typeb_plain htx)]
        refine fill_congr (fun x hx => ?_)
        rw [Jaq hσ ((hocc2 x).2 ⟨_, List.mem_singleton.2 rfl, .inl hx⟩)]
        rfl
      have hts : ∀ b ∈ bs, typeb b.2 = true := by
        intro q hq
        have hoq : Occ [(canonOf a, Jab f b)] q.1 := (hocc2 q.1).1 (List.mem_map.2 ⟨q, hq, rfl⟩)
        have hl := (hall q hq).2
        rw [(hall q hq).1] at hl ⊢
        exact hsk.type_at hv hoq hl
      by_cases hw : (fill σ (canonOf a)).length ≤ 300
      · left
        have htm : typeb (fill σ (canonOf a)) = true := by
          refine Qdg (fill_one hsk.one (plain_leafy (typeb_plain htx)) (Qbw htx)) hw ?_
          exact Qgb (typeb_plain htx) (fun x hx => hsk.plain x (metas_num (typeb_plain htx) hx))
        have hp : putOf bs (canonOf a) = fill σ (canonOf a) := by
          rw [Jbe htx ((Qak bs).2 hts) (by rw [hfill]; exact hw), hfill]
        rw [hp] at ho
        refine ⟨?_, _, hm0, htm, ho⟩
        rw [hfl, ho, Qbe htm]
        exact decide_eq_true (typeb_pos htm)
      · right
        have hp : putOf bs (canonOf a) = [] := by
          unfold putOf
          rw [if_neg (fun h9 => hw (by rw [← hfill]; exact h9.2.2))]
        rw [hp] at ho
        have ho2 : out = [] := by rw [ho]; simp [canonOf, typeb, deepOf, after]
        refine ⟨by rw [hfl, ho2]; rfl, ho2, fun m hm => ?_⟩
        rw [hm.len hm0]
        omega
theorem Jbm {a b out out' : List Nd} {fl fl' : Bool} (h : Qac a b out fl) (h' : Qac b a out' fl') : out = out' ∧ fl = fl' := by
  by_cases ha : typeb a = true
  · by_cases hb : typeb b = true
    · rcases Qbc h ha hb with ⟨h1, m, h2, h3, h4⟩ | ⟨h1, h2, h3⟩
      · rcases Qbc h' hb ha with ⟨k1, m', k2, k3, k4⟩ | ⟨k1, k2, k3⟩
        · have hsame := h2.same k2.swap h3 k3
          exact ⟨by rw [h4, k4, hsame.1], by rw [h1, k1]⟩
        · exfalso
          have := k3 m h2.swap
          have := typeb_len h3
          omega
      · rcases Qbc h' hb ha with ⟨k1, m', k2, k3, k4⟩ | ⟨k1, k2, k3⟩
        · exfalso
          have := h3 m' k2.swap
          have := typeb_len k3
          omega
        · exact ⟨by rw [h2, k2], by rw [h1, k1]⟩
    · have hb' : typeb b = false := by simpa using hb
      rcases h with ⟨_, h1, h2⟩ | ⟨_, h1, _⟩
      · rcases h' with ⟨_, k1, k2⟩ | ⟨k1, _⟩
        · exact ⟨by rw [h1, k1], by rw [h2, k2]⟩
        · exact absurd k1 hb
      · exact absurd h1 hb
  · rcases h with ⟨_, h1, h2⟩ | ⟨h1, _⟩
    · rcases h' with ⟨_, k1, k2⟩ | ⟨_, k1, _⟩
      · exact ⟨by rw [h1, k1], by rw [h2, k2]⟩
      · exact absurd k1 ha
    · exact absurd h1 ha
end Go.Proofs.YtoiiibplkhedcaaGreatDoor

namespace Go.Proofs.YtoiiibplkhedcaaGreatDoor
def Qfi (fs : List (Int × List Nd)) (x : Int) : List Nd := (fsAt fs x).getD [Jaf x]
theorem FillOk.one {k : Nat} {fs : List (Int × List Nd)} (h : FillOk k fs) (x : Int) : One (Qfi fs x) := by
  unfold Qfi
  cases e : fsAt fs x with
  | none => exact Qef x
  | some t =>
    obtain ⟨b, hb, rfl⟩ := Qbz e
    obtain ⟨j, hj, rfl⟩ := List.getElem_of_mem hb
    exact (h.2 j hj).2.one
theorem FillOk.shut {k : Nat} {fs : List (Int × List Nd)} (h : FillOk k fs) {x : Int} {t : List Nd} (e : fsAt fs x = some t) : Shut 7 t := by
  obtain ⟨b, hb, rfl⟩ := Qbz e
  obtain ⟨j, hj, rfl⟩ := List.getElem_of_mem hb
  exact (h.2 j hj).2
theorem Jci {k : Nat} {fs : List (Int × List Nd)} (h : FillOk k fs) {A : List Nd} (hA : ∀ n ∈ A, (Go.Lit.int .i64 n.num).wf = true) : ∀ n ∈ putAll fs A, (Go.Lit.int .i64 n.num).wf = true := by
  intro n hn
  obtain ⟨m, hm, hnm⟩ := List.mem_flatMap.1 hn
  rw [Qax] at hnm
  split at hnm
  · cases e : fsAt fs m.num with
    | none =>
      rw [e] at hnm
      simp only [Option.getD_none, List.mem_singleton] at hnm
      subst hnm
      exact hA _ hm
    | some t =>
      rw [e] at hnm
      simp only [Option.getD_some] at hnm
      rw [(h.shut e).zero n hnm]
      decide
  · simp only [List.mem_singleton] at hnm
    subst hnm
    exact hA _ hm
end Go.Proofs.YtoiiibplkhedcaaGreatDoor

namespace Go.Proofs.YtoiiibplkhedcaaGreatDoor
theorem Jbz {a b out : List Nd} {fl : Bool} (h : Qac a b out fl) (ha : typeb a = true) (hb : typeb b = true) {α β : Int → List Nd} (hα : ∀ x, One (α x)) (hβ : ∀ x, One (β x)) (e : fill α a = fill β b) : ∃ m, Mgci a b m := by
  rcases h with ⟨h1, _, _⟩ | ⟨_, _, _, f, ok, i, bs, hf, hs, _⟩
  · rcases h1 with h1 | h1
    · rw [ha] at h1; cases h1
    · rw [hb] at h1; cases h1
  · have htx : typeb (canonOf a) = true := by rw [Qad ha]; exact Qdh 1 (by omega) ha
    have hty : typeb (Jab f b) = true := Qcw (by omega) hb
    cases hs with
    | bad h1 =>
      refine absurd ?_ h1
      refine ⟨?_, ?_⟩
      · have h1 := typeb_len htx
        have h2 := typeb_len hty
        simp
        omega
      · intro p hp
        simp only [List.mem_singleton] at hp
        subst hp
        exact ⟨htx, hty⟩
    | no j _ hj _ hn =>
      exfalso
      have hj0 : j = 0 := by simp at hj; omega
      subst hj0
      obtain ⟨γ, g1, g2, g3⟩ := Qcg (b := b) ha hf hα hβ
      refine hn γ g1 ?_
      intro p hp
      simp at hp
      subst hp
      simp only
      rw [g2, g3, e]
    | large σ _ _ hsk _ _ => exact ⟨_, Qdi ha hf hsk⟩
    | ok σ _ _ hsk _ _ _ => exact ⟨_, Qdi ha hf hsk⟩
theorem Jao {a b out : List Nd} (h : Qac a b out false) (ha : typeb a = true) (hb : typeb b = true) {α β : Int → List Nd} (hα : ∀ x, One (α x)) (hβ : ∀ x, One (β x)) (e : fill α a = fill β b) : 300 < (fill α a).length := by
  obtain ⟨m, hm⟩ := Jbz h ha hb hα hβ e
  rcases Qbc h ha hb with ⟨h1, _⟩ | ⟨_, _, h3⟩
  · cases h1
  · have h4 := h3 m hm
    obtain ⟨θ, t1, t2⟩ := hm.all α β hα hβ e
    have := fill_len t1 m
    rw [t2] at this
    omega
theorem Qch {g t : List Nd} {bs : List (Int × List Nd)} {fl : Bool} (h : InstRes g t bs fl) (hg : typeb g = true) (ht : typeb t = true) {θ : Int → List Nd} (hθ : ∀ x, One (θ x)) (e : fill θ g = t) : fl = true := by
  cases fl
  · exfalso
    obtain ⟨_, h9⟩ := h.2 rfl
    rcases h9 with h9 | h9 | h9
    · rw [hg] at h9; cases h9
    · rw [ht] at h9; cases h9
    · exact h9 θ hθ e
  · rfl
theorem Jap {k : Nat} {fs : List (Int × List Nd)} (hF : FillOk k fs) {a b out : List Nd} {fl : Bool} (h : Qac a b out fl) {bs : List (Int × List Nd)} {fl0 : Bool} (hc : InstRes b (putOf fs a) bs fl0) :
    (fl = false → fl0 = false) ∧ (fl = true → (∀ {cs f}, InstRes a out cs f → f = true) ∧ (∀ {cs f}, InstRes b out cs f → f = true) ∧ (fl0 = true → ∀ {cs f}, InstRes out (putOf fs a) cs f → f = true)) := by
  have hcom : fl0 = true → typeb a = true ∧ typeb b = true ∧ typeb (putOf fs a) = true ∧ fill (Qfi fs) a = putOf fs a ∧ ∃ β : Int → List Nd, (∀ x, One (β x)) ∧ fill β b = putOf fs a := by
    intro h0
    obtain ⟨h1, h2, h3⟩ := hc.1 h0
    have hne : putOf fs a ≠ [] := by
      intro e
      have := typeb_pos h2
      rw [e] at this
      simp at this
    obtain ⟨k1, k2, k3, k4⟩ := Qfl hne
    refine ⟨k1, h1, h2, ?_, pick bs, pick_one h3.one, h3.fills _ (pick_ext (up_nodup h3.up))⟩
    rw [k4, Qbl fs (typeb_plain k1)]
    rfl
  refine ⟨fun hf => ?_, fun hf => ?_⟩
  · cases h0 : fl0
    · rfl
    · exfalso
      obtain ⟨k1, k2, k3, k4, β, b1, b2⟩ := hcom h0
      subst hf
      have := Jao h k1 k2 hF.one b1 (by rw [k4, b2])
      rw [k4] at this
      have := typeb_len k3
      omega
  · subst hf
    have hty : typeb a = true ∧ typeb b = true := by
      rcases h with ⟨_, _, h3⟩ | ⟨h1, h2, _⟩
      · cases h3
      · exact ⟨h1, h2⟩
    rcases Qbc h hty.1 hty.2 with ⟨_, m, hm, htm, ho⟩ | ⟨h1, _⟩
    · obtain ⟨κ, hκ, eκ⟩ := Qec 1 m
      have hom : out = ren κ m := by rw [ho, Qad htm, eκ]
      have hto : typeb out = true := by rw [ho, Qad htm]; exact Qdh 1 (by omega) htm
      refine ⟨fun {cs f} hi => ?_, fun {cs f} hi => ?_, fun h0 {cs f} hi => ?_⟩
      · obtain ⟨α, a1, a2⟩ := hm.ea
        exact Qch hi hty.1 hto (θ := fun x => ren κ (α x)) (fun x => Qez (a1 x)) (by rw [← Qbx, a2, hom])
      · obtain ⟨β, a1, a2⟩ := hm.eb
        exact Qch hi hty.2 hto (θ := fun x => ren κ (β x)) (fun x => Qez (a1 x)) (by rw [← Qbx, a2, hom])
      · obtain ⟨k1, k2, k3, k4, β, b1, b2⟩ := hcom h0
        obtain ⟨θ, t1, t2⟩ := hm.all _ β hF.one b1 (by rw [k4, b2])
        classical
        refine Qch hi hto k3 (θ := fun y => if h : ∃ n, n ∈ metas m ∧ κ n = y then θ h.choose else [metaN y]) (fun y => ?_) ?_
        · split
          · exact t1 _
          · exact metaN_one y
        · rw [hom, Qar]
          rw [← k4, ← t2]
          refine fill_congr (fun n hn => ?_)
          have h9 : ∃ m', m' ∈ metas m ∧ κ m' = κ n := ⟨n, hn, rfl⟩
          rw [dif_pos h9]
          rw [hκ _ h9.choose_spec.1 _ hn h9.choose_spec.2]
    · cases h1
theorem Jbn {a b out : List Nd} {fl : Bool} (h : Qac a b out fl) (hA : ∀ n ∈ a, (Go.Lit.int .i64 n.num).wf = true) (hB : ∀ n ∈ b, (Go.Lit.int .i64 n.num).wf = true) : out.length ≤ 300 ∧ ∀ n ∈ out, (Go.Lit.int .i64 n.num).wf = true := by
  rcases h with ⟨_, rfl, _⟩ | ⟨ha, hb, _, f, ok, i, bs, hf, hs, ho⟩
  · exact ⟨by simp, fun n hn => by simp at hn⟩
  · cases ok
    · simp only [Bool.false_eq_true, if_false] at ho
      subst ho
      exact ⟨by simp, fun n hn => by simp at hn⟩
    · simp only [if_true] at ho
      subst ho
      have hP : ∀ p ∈ [(canonOf a, Jab f b)], (∀ n ∈ p.1, n.kind ≠ 61 → (Go.Lit.int .i64 n.num).wf = true) ∧ ∀ n ∈ p.2, n.kind ≠ 61 → (Go.Lit.int .i64 n.num).wf = true := by
        intro p hp
        simp only [List.mem_singleton] at hp
        subst hp
        refine ⟨fun n hn hk => ?_, fun n hn hk => ?_⟩
        · simp only [Qad ha] at hn
          rcases Qbg 1 a a.length (Nat.le_refl _) n hn with h9 | h9
          · exact hA n h9.1
          · exact absurd h9.1 hk
        · rcases Qbg f b b.length (Nat.le_refl _) n hn with h9 | h9
          · exact hB n h9.1
          · exact absurd h9.1 hk
      have hput : ∀ n ∈ putOf bs (canonOf a), n.kind ≠ 61 → (Go.Lit.int .i64 n.num).wf = true := by
        intro n hn hk
        have hn2 : n ∈ putAll bs (canonOf a) := by
          unfold putOf at hn
          split at hn
          · exact hn
          · simp at hn
        obtain ⟨m, hm, hnm⟩ := List.mem_flatMap.1 hn2
        rw [Qax] at hnm
        split at hnm
        · cases e : fsAt bs m.num with
          | none =>
            rw [e] at hnm
            simp only [Option.getD_none, List.mem_singleton] at hnm
            subst hnm
            exact (hP _ (List.mem_singleton.2 rfl)).1 _ hm hk
          | some t =>
            rw [e] at hnm
            simp only [Option.getD_some] at hnm
            obtain ⟨q, hq, rfl⟩ := Qbz e
            cases hs with
            | ok σ _ hv hsk hup hocc hall =>
              have ho : Occ [(canonOf a, Jab f b)] q.1 := (hocc q.1).1 (List.mem_map.2 ⟨q, hq, rfl⟩)
              rw [(hall q hq).1] at hnm
              exact Qex hv hsk ho _ hP n hnm hk
        · simp only [List.mem_singleton] at hnm
          subst hnm
          exact (hP _ (List.mem_singleton.2 rfl)).1 _ hm hk
      have hl3 : (putOf bs (canonOf a)).length ≤ 300 := by
        unfold putOf
        split
        · next h8 => exact h8.2.2
        · simp
      by_cases ht : typeb (putOf bs (canonOf a)) = true
      · rw [Qad ht]
        refine ⟨by rw [(Qal 1 _ _ (Nat.le_refl _)).1]; exact hl3, fun n hn => ?_⟩
        rcases Qbg 1 _ _ (Nat.le_refl _) n hn with h9 | h9
        · exact hput n h9.1 h9.2
        · exact Go.WalkArith.wf_i64 (by omega)
      · have e : canonOf (putOf bs (canonOf a)) = [] := List.length_eq_zero_iff.1 (canon_empty.2 (by simpa using ht))
        rw [e]
        exact ⟨by simp, fun n hn => by simp at hn⟩
end Go.Proofs.YtoiiibplkhedcaaGreatDoor

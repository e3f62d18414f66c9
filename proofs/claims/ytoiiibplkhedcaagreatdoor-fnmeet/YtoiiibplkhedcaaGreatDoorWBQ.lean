import Derived.Test.YtoiiibplkhedcaaGreatDoorWBP
namespace Go.Proofs.YtoiiibplkhedcaaGreatDoor
def renN (ρ : Int → Int) (n : Nd) : Nd := if n.kind = 61 then ⟨n.kind, ρ n.num, n.text, n.kids, n.place⟩ else n
def ren (ρ : Int → Int) (t : List Nd) : List Nd := t.map (renN ρ)
theorem Qfq (ρ : Int → Int) (n : Nd) : (renN ρ n).kind = n.kind := by unfold renN; split <;> rfl
theorem Qvu (ρ : Int → Int) (n : Nd) : (renN ρ n).kids = n.kids := by unfold renN; split <;> rfl
theorem Qcl (ρ : Int → Int) (t : List Nd) : (ren ρ t).length = t.length := by simp [ren]
theorem Qdj (ρ : Int → Int) (a b : List Nd) : ren ρ (a ++ b) = ren ρ a ++ ren ρ b := by simp [ren]
theorem Qoa (ρ : Int → Int) (t : List Nd) : ∀ k, Qag (ren ρ t) k = Qag t k := by
  intro k
  induction k with
  | zero => rfl
  | succ k ih =>
    simp only [Qag, ih]
    cases Qag t k with
    | none => rfl
    | some p =>
      obtain ⟨S, ys⟩ := p
      simp only [ren, List.getElem?_map]
      cases t[k]? with
      | none => rfl
      | some x => simp only [Option.map_some, Qvu]
theorem Qqs {ρ : Int → Int} {t : List Nd} (h : One t) : One (ren ρ t) := by
  obtain ⟨s, ys, e⟩ := h
  exact ⟨s, ys, by rw [Qcl, Qoa]; exact e⟩
theorem Qzj (ρ : Int → Int) (t : List Nd) : deepOf (ren ρ t) = deepOf t := by
  unfold deepOf
  rw [Qcl, Qoa]
theorem Qtf {ρ : Int → Int} (hρ : ∀ x, 1 ≤ ρ x ↔ 1 ≤ x) (n : Nd) : (renN ρ n).plainb = n.plainb := by
  unfold renN
  split
  · next h =>
    unfold Nd.plainb
    simp only [h]
    have : decide (1 ≤ ρ n.num) = decide (1 ≤ n.num) := by simp only [hρ]
    rw [this]
    rfl
  · rfl
theorem Qnz {ρ : Int → Int} (hρ : ∀ x, 1 ≤ ρ x ↔ 1 ≤ x) (t : List Nd) : (ren ρ t).all Nd.plainb = t.all Nd.plainb := by
  unfold ren
  rw [List.all_map]
  congr 1
  funext n
  exact Qtf hρ n
theorem Qfp {ρ : Int → Int} (hρ : ∀ x, 1 ≤ ρ x ↔ 1 ≤ x) (t : List Nd) : typeb (ren ρ t) = typeb t := by
  unfold typeb
  rw [Qcl, Qzj, Qnz hρ]
theorem Qeb (θ : Int → List Nd) (ρ : Int → Int) (t : List Nd) : fill θ (ren ρ t) = fill (fun x => θ (ρ x)) t := by
  induction t with
  | nil => rfl
  | cons n t ih =>
    have e1 : ren ρ (n :: t) = renN ρ n :: ren ρ t := rfl
    have e2 : ∀ (θ : Int → List Nd) (n : Nd) (t : List Nd), fill θ (n :: t) = Qas θ n ++ fill θ t := fun θ n t => by simp [fill]
    rw [e1, e2, e2, ih]
    congr 1
    unfold Qas
    rw [Qfq]
    by_cases h : n.kind = 61
    · rw [if_pos h, if_pos h]; simp only [renN, if_pos h]
    · rw [if_neg h, if_neg h]; simp only [renN, if_neg h]
theorem Qiy (θ : Int → List Nd) (ρ : Int → Int) (t : List Nd) : ren ρ (fill θ t) = fill (fun x => ren ρ (θ x)) t := by
  induction t with
  | nil => rfl
  | cons n t ih =>
    have e2 : ∀ (θ : Int → List Nd) (n : Nd) (t : List Nd), fill θ (n :: t) = Qas θ n ++ fill θ t := fun θ n t => by simp [fill]
    rw [e2, e2, Qdj, ih]
    congr 1
    unfold Qas
    by_cases h : n.kind = 61
    · rw [if_pos h, if_pos h]
    · rw [if_neg h, if_neg h]; simp only [ren, renN, List.map_cons, List.map_nil, if_neg h]
theorem Qhd (ρ : Int → Int) (t : List Nd) : metas (ren ρ t) = (metas t).map ρ := by
  induction t with
  | nil => rfl
  | cons n t ih =>
    have e1 : ren ρ (n :: t) = renN ρ n :: ren ρ t := rfl
    have e2 : ∀ (n : Nd) (t : List Nd), metas (n :: t) = metas [n] ++ metas t := fun n t => by rw [← Qau]; rfl
    rw [e1, e2, e2 n, ih, List.map_append]
    congr 1
    by_cases h : n.kind = 61
    · simp [metas, renN, h]
    · simp [metas, renN, h]
theorem Jcx {ρ : Int → Int} {t : List Nd} (h : ∀ x ∈ metas t, ρ x = x) : ren ρ t = t := by
  induction t with
  | nil => rfl
  | cons n t ih =>
    have e1 : ren ρ (n :: t) = renN ρ n :: ren ρ t := rfl
    have e2 : metas (n :: t) = metas [n] ++ metas t := by rw [← Qau]; rfl
    rw [e2] at h
    rw [e1, ih (fun x hx => h x (by simp [hx]))]
    congr 1
    unfold renN
    split
    · next hk =>
      have := h n.num (by simp [metas, hk])
      rw [this]
    · rfl
def renP (ρ : Int → Int) (ps : List (List Nd × List Nd)) : List (List Nd × List Nd) := ps.map fun p => (ren ρ p.1, ren ρ p.2)
theorem Qgd {θ : Int → List Nd} {ρ : Int → Int} {ps : List (List Nd × List Nd)} : Solves θ (renP ρ ps) ↔ Solves (fun x => θ (ρ x)) ps := by
  constructor
  · intro h p hp
    have := h (ren ρ p.1, ren ρ p.2) (List.mem_map.2 ⟨p, hp, rfl⟩)
    simp only [Qeb] at this
    exact this
  · intro h p hp
    obtain ⟨q, hq, rfl⟩ := List.mem_map.1 hp
    simp only [Qeb]
    exact h q hq
def back (dec : ∀ p : Prop, Decidable p) (ep : (Int → Prop) → Int) (rh : Int → Int) (y : Int) : Option Int := @ite _ (∃ x, rh x = y) (dec _) (some (ep fun x => rh x = y)) none
theorem Qyf {ρ : Int → Int} (hi : ∀ x y, ρ x = ρ y → x = y) (x : Int) : back Classical.propDecidable Classical.epsilon ρ (ρ x) = some x := by
  unfold back
  have h : ∃ z, ρ z = ρ x := ⟨x, rfl⟩
  rw [if_pos h]
  rw [hi _ _ (Classical.epsilon_spec h)]
theorem Qkn {ρ : Int → Int} {y x : Int} (h : back Classical.propDecidable Classical.epsilon ρ y = some x) : ρ x = y := by
  unfold back at h
  split at h
  · next hh =>
    simp only [Option.some.injEq] at h
    rw [← h]
    exact Classical.epsilon_spec hh
  · cases h
def renS (dec : ∀ p : Prop, Decidable p) (ep : (Int → Prop) → Int) (rh : Int → Int) (σ : Int → List Nd) (y : Int) : List Nd := match back dec ep rh y with
  | some x => ren rh (σ x)
  | none => [Qav y]
theorem Qqt {ρ : Int → Int} (hi : ∀ x y, ρ x = ρ y → x = y) (σ : Int → List Nd) (x : Int) : renS Classical.propDecidable Classical.epsilon ρ σ (ρ x) = ren ρ (σ x) := by
  unfold renS
  rw [Qyf hi]
theorem Qjn {ρ : Int → Int} (hi : ∀ x y, ρ x = ρ y → x = y) (hm : ∀ x y, x ≤ y → ρ x ≤ ρ y) (hρ : ∀ x, 1 ≤ ρ x ↔ 1 ≤ x) {ps : List (List Nd × List Nd)} {σ : Int → List Nd} (h : SolveOk ps σ) : SolveOk (renP ρ ps) (renS Classical.propDecidable Classical.epsilon ρ σ) := by
  refine ⟨fun y => ?_, fun y hy => ?_, ?_, fun θ hθ hs y => ?_, fun y z e => ?_⟩
  · unfold renS
    split
    · exact Qqs (h.one _)
    · exact Qbu _
  · unfold renS
    split
    · next x hx =>
      rw [Qnz hρ]
      refine h.plain x ((hρ x).1 ?_)
      rw [Qkn hx]; exact hy
    · simp only [List.all_cons, List.all_nil, Bool.and_true, Qav, Nd.plainb]
      simp [hy]
  · rw [Qgd]
    intro p hp
    have e : (fun x => renS Classical.propDecidable Classical.epsilon ρ σ (ρ x)) = fun x => ren ρ (σ x) := by funext x; exact Qqt hi σ x
    rw [e, ← Qiy, ← Qiy, h.sol p hp]
  · rw [Qgd] at hs
    have hg := h.gen _ (fun x => hθ (ρ x)) hs
    unfold renS
    split
    · next x hx =>
      rw [Qeb, hg x, Qkn hx]
    · simp [fill, Qas, Qav]
  · unfold renS at e
    split at e
    · next x hx =>
      obtain ⟨n, hn⟩ : ∃ n, σ x = [n] := List.length_eq_one_iff.1 (by rw [← Qcl ρ, e]; rfl)
      rw [hn] at e
      simp only [ren, List.map_cons, List.map_nil, List.cons.injEq, and_true] at e
      have hk : n.kind = 61 := by rw [← Qfq ρ, e]; rfl
      have hn2 : n = Qav n.num ∧ z = ρ n.num := by
        obtain ⟨a, b, c, d, f⟩ := n
        simp only at hk
        subst hk
        simp only [renN, Qav, if_true, Nd.mk.injEq, true_and] at e
        obtain ⟨e1, e2, e3, e4⟩ := e
        subst e2; subst e3; subst e4
        exact ⟨rfl, e1.symm⟩
      have hl := h.low x n.num (by rw [hn, ← hn2.1])
      rw [hn2.2, ← Qkn hx]
      exact hm _ _ hl
    · have := Qfu e
      omega
theorem occ_ren {ρ : Int → Int} {ps : List (List Nd × List Nd)} {x : Int} : Occ (renP ρ ps) x ↔ ∃ y, Occ ps y ∧ ρ y = x := by
  constructor
  · rintro ⟨p, hp, h⟩
    obtain ⟨q, hq, rfl⟩ := List.mem_map.1 hp
    simp only [Qhd, List.mem_map] at h
    rcases h with ⟨y, h1, h2⟩ | ⟨y, h1, h2⟩
    · exact ⟨y, ⟨q, hq, .inl h1⟩, h2⟩
    · exact ⟨y, ⟨q, hq, .inr h1⟩, h2⟩
  · rintro ⟨y, ⟨q, hq, h⟩, rfl⟩
    refine ⟨(ren ρ q.1, ren ρ q.2), List.mem_map.2 ⟨q, hq, rfl⟩, ?_⟩
    simp only [Qhd, List.mem_map]
    rcases h with h | h
    · exact .inl ⟨y, h, rfl⟩
    · exact .inr ⟨y, h, rfl⟩
theorem Qgx {ρ : Int → Int} (hρ : ∀ x, 1 ≤ ρ x ↔ 1 ≤ x) {ps : List (List Nd × List Nd)} : Qbf (renP ρ ps) ↔ Qbf ps := by
  unfold Qbf
  have e1 : ((renP ρ ps).map fun p => p.1.length + p.2.length) = ps.map fun p => p.1.length + p.2.length := by
    simp [renP, Qcl, Function.comp_def]
  rw [e1]
  refine and_congr Iff.rfl ⟨fun h p hp => ?_, fun h p hp => ?_⟩
  · have := h (ren ρ p.1, ren ρ p.2) (List.mem_map.2 ⟨p, hp, rfl⟩)
    simp only [Qfp hρ] at this
    exact this
  · obtain ⟨q, hq, rfl⟩ := List.mem_map.1 hp
    simp only [Qfp hρ]
    exact h q hq
theorem Qnm (ρ : Int → Int) (ps : List (List Nd × List Nd)) (i : Nat) : (renP ρ ps).take i = renP ρ (ps.take i) := by
  simp [renP, List.map_take]
theorem Qnw {ρ : Int → Int} (hi : ∀ x y, ρ x = ρ y → x = y) (hm : ∀ x y, x ≤ y → ρ x ≤ ρ y) (hρ : ∀ x, 1 ≤ ρ x ↔ 1 ≤ x) {ps : List (List Nd × List Nd)} {ok : Bool} {at' : Int} {bs : List (Int × List Nd)} (h : SolveRes ps ok at' bs) :
    SolveRes (renP ρ ps) ok at' (bs.map fun p => (ρ p.1, ren ρ p.2)) := by
  cases h using SolveRes.inv with
  | bad h => exact .bad (fun h' => h ((Qgx hρ).1 h'))
  | no i h1 h2 h3 h4 =>
    refine .no i ((Qgx hρ).2 h1) (by simpa [renP] using h2) ?_ ?_
    · obtain ⟨θ, hθ, hs⟩ := h3
      refine ⟨fun y => match back Classical.propDecidable Classical.epsilon ρ y with | some x => θ x | none => [Qav y], fun y => ?_, ?_⟩
      · simp only
        split
        · exact hθ _
        · exact Qbu _
      · rw [Qnm, Qgd]
        simp only [Qyf hi]
        exact hs
    · intro θ hθ hs
      rw [Qnm, Qgd] at hs
      exact h4 _ (fun x => hθ (ρ x)) hs
  | large σ x h1 h2 h3 h4 =>
    refine .large (renS Classical.propDecidable Classical.epsilon ρ σ) (ρ x) ((Qgx hρ).2 h1) (Qjn hi hm hρ h2) (occ_ren.2 ⟨x, h3, rfl⟩) ?_
    rw [Qqt hi, Qcl]
    exact h4
  | ok σ _ h1 h2 h3 h4 h5 =>
    refine .ok (renS Classical.propDecidable Classical.epsilon ρ σ) _ ((Qgx hρ).2 h1) (Qjn hi hm hρ h2) ?_ ?_ ?_
    · have e : nums (bs.map fun p => (ρ p.1, ren ρ p.2)) = (nums bs).map ρ := by simp [nums, Function.comp_def]
      rw [e]
      unfold Up at h3 ⊢
      rw [List.pairwise_map]
      refine h3.imp (fun {x y} hxy => ?_)
      have h9 := hm x y (by omega)
      rcases Int.lt_or_eq_of_le h9 with h8 | h8
      · exact h8
      · have := hi _ _ h8; omega
    · intro x
      have e : nums (bs.map fun p => (ρ p.1, ren ρ p.2)) = (nums bs).map ρ := by simp [nums, Function.comp_def]
      rw [e, List.mem_map, occ_ren]
      constructor
      · rintro ⟨y, hy, rfl⟩; exact ⟨y, (h4 y).1 hy, rfl⟩
      · rintro ⟨y, hy, rfl⟩; exact ⟨y, (h4 y).2 hy, rfl⟩
    · intro p hp
      obtain ⟨q, hq, rfl⟩ := List.mem_map.1 hp
      simp only [Qqt hi, Qcl]
      exact ⟨by rw [(h5 q hq).1], (h5 q hq).2⟩
theorem Jcz {ρ : Int → Int} (hi : ∀ x y, ρ x = ρ y → x = y) (f : Int) (t : List Nd) : ∀ k, k ≤ t.length → nmTo f (ren ρ t) k = ((nmTo f t k).1.map ρ, (nmTo f t k).2) := by
  have hpl : ∀ (met : List Int) (x : Int), placeIn (met.map ρ) (ρ x) = placeIn met x := by
    intro met x
    unfold placeIn
    rw [List.findIdx_map]
    congr 1
    funext y
    simp only [Function.comp]
    by_cases e : y = x
    · subst e; simp
    · have : ρ y ≠ ρ x := fun h => e (hi _ _ h)
      rw [beq_eq_false_iff_ne.2 this, beq_eq_false_iff_ne.2 e]
  intro k
  induction k with
  | zero => intro _; rfl
  | succ k ih =>
    intro hk
    have hk' : k < (ren ρ t).length := by rw [Qcl]; omega
    rw [Qbb f _ k hk', Qbb f t k (by omega), ih (by omega)]
    have e : (ren ρ t)[k] = renN ρ (t[k]'(by omega)) := by simp [ren]
    rw [e]
    generalize t[k]'(by omega) = n
    generalize nmTo f t k = s
    unfold Qbt
    rw [Qfq]
    by_cases h61 : n.kind = 61
    · rw [if_pos h61, if_pos h61]
      have hn : (renN ρ n).num = ρ n.num := by simp [renN, h61]
      have e3 : (renN ρ n).text = n.text ∧ (renN ρ n).kids = n.kids ∧ (renN ρ n).place = n.place := by simp [renN, h61]
      simp only [hn, hpl, List.length_map, e3.1, e3.2.1, e3.2.2]
      split
      · simp
      · rfl
    · rw [if_neg h61, if_neg h61]
      have e2 : renN ρ n = n := by simp [renN, h61]
      rw [e2]
theorem Qya {ρ : Int → Int} (hi : ∀ x y, ρ x = ρ y → x = y) (hρ : ∀ x, 1 ≤ ρ x ↔ 1 ≤ x) (t : List Nd) : Qab (ren ρ t) = Qab t := by
  unfold Qab
  rw [Qfp hρ, Qcl, ← Qja, Jcz hi 1 t t.length (Nat.le_refl _), ← Qja]
theorem Qsb (f g : Int) (t : List Nd) : ∀ k, k ≤ t.length → (nmTo g t k).1 = (nmTo f t k).1 ∧ (nmTo g t k).2 = ren (fun x => x + (g - f)) (nmTo f t k).2 := by
  intro k
  induction k with
  | zero => intro _; exact ⟨rfl, rfl⟩
  | succ k ih =>
    intro hk
    obtain ⟨h1, h2⟩ := ih (by omega)
    rw [Qbb f t k (by omega), Qbb g t k (by omega)]
    generalize t[k]'(by omega) = n
    revert h1 h2
    generalize nmTo f t k = s
    generalize nmTo g t k = u
    intro h1 h2
    unfold Qbt
    by_cases h61 : n.kind = 61
    · rw [if_pos h61, if_pos h61, h1, h2]
      refine ⟨rfl, ?_⟩
      simp only [Qdj]
      congr 1
      simp only [ren, renN, List.map_cons, List.map_nil, if_pos h61]
      congr 2
      omega
    · rw [if_neg h61, if_neg h61, h1, h2]
      refine ⟨rfl, ?_⟩
      simp only [Qdj]
      congr 1
      simp only [ren, renN, List.map_cons, List.map_nil, if_neg h61]
theorem Qgf (f : Int) (t : List Nd) : ∀ k, k ≤ t.length → ∀ x ∈ metas (nmTo f t k).2, f ≤ x ∧ x < f + (k : Int) := by
  intro k
  induction k with
  | zero => intro _ x hx; simp [nmTo, metas] at hx
  | succ k ih =>
    intro hk x hx
    have hl := (Qcy f t k (by omega)).2
    rw [Qbb f t k (by omega)] at hx
    have ih' := ih (by omega)
    revert hl ih' hx
    generalize t[k]'(by omega) = n
    generalize nmTo f t k = s
    intro hx hl ih'
    unfold Qbt at hx
    by_cases h61 : n.kind = 61
    · rw [if_pos h61] at hx
      simp only [Qau, List.mem_append] at hx
      rcases hx with hx | hx
      · have := ih' x hx; omega
      · simp only [metas, List.filter_cons, h61, beq_self_eq_true, if_true, List.filter_nil, List.map_cons, List.map_nil, List.mem_singleton] at hx
        have := Qel s.1 n.num
        omega
    · rw [if_neg h61] at hx
      simp only [Qau, List.mem_append] at hx
      rcases hx with hx | hx
      · have := ih' x hx; omega
      · simp [metas, h61] at hx
theorem Qsa (f : Int) (hf : 1 ≤ f) (t : List Nd) : ∀ k, k ≤ t.length → ∀ i, ∀ (h1 : i < (nmTo f t k).2.length) (h2 : i < t.length), (nmTo f t k).2[i].kids = t[i].kids ∧ (t[i].plainb = true → ((nmTo f t k).2[i]).plainb = true) := by
  intro k
  induction k with
  | zero => intro _ i h1; simp [nmTo] at h1
  | succ k ih =>
    intro hk i h1 h2
    have hl := (Qcy f t k (by omega)).1
    have ih' := ih (by omega) i
    have hl2 := (Qcy f t (k + 1) (by omega)).1
    have key : ∀ (s : List Int × List Nd), s.2.length = k → (∀ (h1 : i < s.2.length) (h2 : i < t.length), (s.2[i]).kids = t[i].kids ∧ (t[i].plainb = true → (s.2[i]).plainb = true)) → ∀ (h1 : i < (Qbt f s (t[k]'(by omega))).2.length), ((Qbt f s (t[k]'(by omega))).2[i]).kids = t[i].kids ∧ (t[i].plainb = true → ((Qbt f s (t[k]'(by omega))).2[i]).plainb = true) := by
      intro s hs hi' h1'
      by_cases h61 : (t[k]'(by omega)).kind = 61
      · have e : (Qbt f s (t[k]'(by omega))).2 = s.2 ++ [{ t[k]'(by omega) with num := f + (placeIn s.1 (t[k]'(by omega)).num : Int) }] := by
          unfold Qbt; rw [if_pos h61]
        simp only [e] at h1' ⊢
        by_cases hik : i < s.2.length
        · rw [List.getElem_append_left hik]
          exact hi' hik h2
        · have hie : i = k := by simp at h1'; omega
          subst hie
          rw [List.getElem_append_right (by omega)]
          simp only [hs, Nat.sub_self, List.getElem_cons_zero]
          refine ⟨trivial, fun hp => ?_⟩
          unfold Nd.plainb at hp ⊢
          simp only [h61] at hp ⊢
          simp at hp ⊢
          refine ⟨hp.1, ⟨hp.2.1.1, ?_⟩, hp.2.2⟩
          omega
      · have e : (Qbt f s (t[k]'(by omega))).2 = s.2 ++ [t[k]'(by omega)] := by
          unfold Qbt; rw [if_neg h61]
        simp only [e] at h1' ⊢
        by_cases hik : i < s.2.length
        · rw [List.getElem_append_left hik]
          exact hi' hik h2
        · have hie : i = k := by simp at h1'; omega
          subst hie
          rw [List.getElem_append_right (by omega)]
          simp only [hs, Nat.sub_self, List.getElem_cons_zero]
          exact ⟨trivial, fun hp => hp⟩
    have e := Qbb f t k (by omega)
    simp only [e] at h1 ⊢
    exact key _ hl ih' h1
theorem Qly {a b : List Nd} (h : a.map Nd.kids = b.map Nd.kids) : ∀ k, Qag a k = Qag b k := by
  intro k
  induction k with
  | zero => rfl
  | succ k ih =>
    simp only [Qag, ih]
    cases Qag b k with
    | none => rfl
    | some p =>
      obtain ⟨S, ys⟩ := p
      have e : (a.map Nd.kids)[k]? = (b.map Nd.kids)[k]? := by rw [h]
      simp only [List.getElem?_map] at e
      cases ha : a[k]? <;> cases hb : b[k]? <;> simp [ha, hb] at e
      · rfl
      · simp only [e]
theorem Qmn (f : Int) (hf : 1 ≤ f) {t : List Nd} (h : typeb t = true) : typeb (nmTo f t t.length).2 = true := by
  have hl := (Qcy f t t.length (Nat.le_refl _)).1
  have hk : (nmTo f t t.length).2.map Nd.kids = t.map Nd.kids := by
    refine List.ext_getElem (by simp [hl]) (fun i h1 h2 => ?_)
    simp only [List.getElem_map]
    exact (Qsa f hf t t.length (Nat.le_refl _) i (by simpa using h1) (by simpa using h2)).1
  simp only [typeb, Bool.and_eq_true, decide_eq_true_eq] at h ⊢
  obtain ⟨⟨h1, h2⟩, h3⟩ := h
  refine ⟨⟨by omega, ?_⟩, ?_⟩
  · have e : deepOf (nmTo f t t.length).2 = deepOf t := by
      unfold deepOf
      rw [hl, Qly hk]
    rw [e]; exact h2
  · rw [List.all_eq_true]
    intro n hn
    obtain ⟨i, hi, rfl⟩ := List.getElem_of_mem hn
    exact (Qsa f hf t t.length (Nat.le_refl _) i hi (by omega)).2 (List.all_eq_true.1 h3 _ (List.getElem_mem _))
theorem Qvt {ρ ρ' : Int → Int} {t : List Nd} (h : ∀ x ∈ metas t, ρ x = ρ' x) : ren ρ t = ren ρ' t := by
  induction t with
  | nil => rfl
  | cons n t ih =>
    have e1 : ∀ ρ, ren ρ (n :: t) = renN ρ n :: ren ρ t := fun _ => rfl
    have e2 : metas (n :: t) = metas [n] ++ metas t := by rw [← Qau]; rfl
    rw [e2] at h
    rw [e1, e1, ih (fun x hx => h x (by simp [hx]))]
    congr 1
    unfold renN
    split
    · next hk =>
      rw [h n.num (by simp [metas, hk])]
    · rfl
theorem Qth {ρ : Int → Int} (hi : ∀ x y, ρ x = ρ y → x = y) (bs : List (Int × List Nd)) (t : List Nd) : Qam (bs.map fun p => (ρ p.1, ren ρ p.2)) (ren ρ t) = ren ρ (Qam bs t) := by
  have hpl : ∀ (met : List Int) (x : Int), placeIn (met.map ρ) (ρ x) = placeIn met x := by
    intro met x
    unfold placeIn
    rw [List.findIdx_map]
    congr 1
    funext y
    simp only [Function.comp]
    by_cases e : y = x
    · subst e; simp
    · have : ρ y ≠ ρ x := fun h => e (hi _ _ h)
      rw [beq_eq_false_iff_ne.2 this, beq_eq_false_iff_ne.2 e]
  have hs : ∀ n, Qbg (bs.map fun p => (ρ p.1, ren ρ p.2)) (renN ρ n) = ren ρ (Qbg bs n) := by
    intro n
    unfold Qbg
    rw [Qfq]
    by_cases hk : n.kind = 61
    · rw [if_pos hk, if_pos hk]
      have hn : (renN ρ n).num = ρ n.num := by simp [renN, hk]
      have e1 : ((bs.map fun p => (ρ p.1, ren ρ p.2)).map Prod.fst) = (bs.map Prod.fst).map ρ := by simp [Function.comp_def]
      rw [hn, e1, hpl, List.getElem?_map]
      cases bs[placeIn (bs.map Prod.fst) n.num]? with
      | none => rfl
      | some p => rfl
    · rw [if_neg hk, if_neg hk]
      rfl
  unfold Qam
  induction t with
  | nil => rfl
  | cons n t ih =>
    have e1 : ren ρ (n :: t) = renN ρ n :: ren ρ t := rfl
    rw [e1, List.flatMap_cons, List.flatMap_cons, hs, ih, Qdj]
theorem Qvw {ρ : Int → Int} (hi : ∀ x y, ρ x = ρ y → x = y) (hρ : ∀ x, 1 ≤ ρ x ↔ 1 ≤ x) (bs : List (Int × List Nd)) (t : List Nd) : Qai (bs.map fun p => (ρ p.1, ren ρ p.2)) (ren ρ t) = ren ρ (Qai bs t) := by
  unfold Qai
  rw [Qth hi, Qfp hρ, Qcl]
  have e : (∀ b ∈ (bs.map fun p => (ρ p.1, ren ρ p.2)), typeb b.2 = true) ↔ ∀ b ∈ bs, typeb b.2 = true := by
    simp only [List.forall_mem_map, Qfp hρ]
  by_cases hc : typeb t = true ∧ (∀ b ∈ bs, typeb b.2 = true) ∧ (Qam bs t).length ≤ 300
  · rw [if_pos hc, if_pos ⟨hc.1, e.2 hc.2.1, hc.2.2⟩]
  · rw [if_neg hc, if_neg (fun h => hc ⟨h.1, e.1 h.2.1, h.2.2⟩)]
    rfl
def Qbq (f : Int) (b : List Nd) : List Nd := (nmTo f b b.length).2
theorem Qbk {a : List Nd} (ha : typeb a = true) : Qab a = (nmTo 1 a a.length).2 := by
  unfold Qab
  rw [if_pos ha, Qja]
theorem Qon {a b : List Nd} (ha : typeb a = true) {f g : Int} (hf : (a.length : Int) < f) (hg : f ≤ g) {ok ok' : Bool} {i i' : Int} {bs bs' : List (Int × List Nd)}
    (h : SolveRes [(Qab a, Qbq f b)] ok i bs) (h' : SolveRes [(Qab a, Qbq g b)] ok' i' bs') : ok = ok' ∧ Qab (Qai bs (Qab a)) = Qab (Qai bs' (Qab a)) := by
  obtain ⟨ρ, hρd⟩ : ∃ ρ : Int → Int, ρ = fun x => if x ≤ (a.length : Int) then x else x + (g - f) := ⟨_, rfl⟩
  have hi : ∀ x y, ρ x = ρ y → x = y := by
    intro x y e
    subst hρd
    simp only at e
    split at e <;> split at e <;> omega
  have hm : ∀ x y, x ≤ y → ρ x ≤ ρ y := by
    intro x y e
    subst hρd
    simp only
    split <;> split <;> omega
  have hρ : ∀ x, 1 ≤ ρ x ↔ 1 ≤ x := by
    intro x
    subst hρd
    simp only
    split <;> omega
  have ex : ren ρ (Qab a) = Qab a := by
    refine Jcx (fun x hx => ?_)
    rw [Qbk ha] at hx
    have := Qgf 1 a a.length (Nat.le_refl _) x hx
    subst hρd
    simp only
    rw [if_pos (by omega)]
  have ey : ren ρ (Qbq f b) = Qbq g b := by
    unfold Qbq
    rw [(Qsb f g b b.length (Nat.le_refl _)).2]
    refine Qvt (fun x hx => ?_)
    have := Qgf f b b.length (Nat.le_refl _) x hx
    subst hρd
    simp only
    rw [if_neg (by omega)]
  have h2 := Qnw hi hm hρ h
  have e : renP ρ [(Qab a, Qbq f b)] = [(Qab a, Qbq g b)] := by simp [renP, ex, ey]
  rw [e] at h2
  obtain ⟨e1, _, e3⟩ := Qks h2 h'
  refine ⟨e1, ?_⟩
  rw [← e3]
  have e4 := Qvw hi hρ bs (Qab a)
  rw [ex] at e4
  rw [e4, Qya hi hρ]
theorem Qpr (bs : List (Int × List Nd)) (x : List Nd) : 0 < (Qab (Qai bs x)).length ↔ 0 < (Qai bs x).length := by
  constructor
  · intro h
    rcases Nat.eq_zero_or_pos (Qai bs x).length with h0 | h0
    · have : Qai bs x = [] := List.length_eq_zero_iff.1 h0
      rw [this] at h
      simp [Qab, typeb, deepOf, Qag] at h
    · exact h0
  · intro h
    obtain ⟨h1, h2, h3, h4⟩ := Qrx (bs := bs) (t := x) (by intro e; rw [e] at h; simp at h)
    have ht := Qqu h2 h1 h3
    rw [h4] at h ⊢
    unfold Qab
    rw [if_pos ht, (Qdw _ _ (Nat.le_refl _)).1]
    exact h
def Qbe (a b out : List Nd) (fl : Bool) : Prop :=
  ((typeb a = false ∨ typeb b = false) ∧ out = [] ∧ fl = false) ∨
    (typeb a = true ∧ typeb b = true ∧ fl = decide (0 < out.length) ∧ ∃ (f : Int) (ok : Bool) (i : Int) (bs : List (Int × List Nd)), (a.length : Int) < f ∧ SolveRes [(Qab a, Qbq f b)] ok i bs ∧ out = if ok = true then Qab (Qai bs (Qab a)) else [])
theorem Qoo {a b out out' : List Nd} {fl fl' : Bool} (h : Qbe a b out fl) (h' : Qbe a b out' fl') : out = out' ∧ fl = fl' := by
  rcases h with ⟨h1, h2, h3⟩ | ⟨h1, h2, h3, f, ok, i, bs, hf, hs, ho⟩
  · rcases h' with ⟨_, h5, h6⟩ | ⟨h4, h5, _⟩
    · exact ⟨by rw [h2, h5], by rw [h3, h6]⟩
    · rcases h1 with h1 | h1
      · rw [h4] at h1; cases h1
      · rw [h5] at h1; cases h1
  · rcases h' with ⟨h4, _, _⟩ | ⟨_, _, h6, g, ok', i', bs', hg, hs', ho'⟩
    · rcases h4 with h4 | h4
      · rw [h1] at h4; cases h4
      · rw [h2] at h4; cases h4
    · have key : ok = ok' ∧ Qab (Qai bs (Qab a)) = Qab (Qai bs' (Qab a)) := by
        rcases Int.le_total f g with hle | hle
        · exact Qon h1 hf hle hs hs'
        · have := Qon h1 hg hle hs' hs
          exact ⟨this.1.symm, this.2.symm⟩
      have e : out = out' := by rw [ho, ho', key.1, key.2]
      exact ⟨e, by rw [h3, h6, e]⟩
theorem canon_empty {a : List Nd} : (Qab a).length = 0 ↔ typeb a = false := by
  unfold Qab
  cases h : typeb a
  · simp
  · simp only [if_true, (Qdw a a.length (Nat.le_refl _)).1]
    have := Qfj h
    constructor
    · intro h9; omega
    · intro h9; cases h9
theorem Qga {a : List Nd} (h : typeb a = true) : (Qab a).length = a.length := by
  unfold Qab
  rw [if_pos h, (Qdw a a.length (Nat.le_refl _)).1]
theorem Qge (f : Int) (t : List Nd) : ∀ k, k ≤ t.length → ∀ n ∈ (nmTo f t k).2, (n ∈ t ∧ n.kind ≠ 61) ∨ (n.kind = 61 ∧ f ≤ n.num ∧ n.num < f + (k : Int)) := by
  intro k
  induction k with
  | zero => intro _ n hn; simp [nmTo] at hn
  | succ k ih =>
    intro hk n hn
    have hl := (Qcy f t k (by omega)).2
    have ih' := ih (by omega)
    rw [Qbb f t k (by omega)] at hn
    have hmem : t[k]'(by omega) ∈ t := List.getElem_mem _
    revert hn ih' hl hmem
    generalize t[k]'(by omega) = x
    generalize nmTo f t k = s
    intro hn hl ih' hmem
    unfold Qbt at hn
    have old : ∀ {n}, n ∈ s.2 → (n ∈ t ∧ n.kind ≠ 61) ∨ (n.kind = 61 ∧ f ≤ n.num ∧ n.num < f + ((k + 1 : Nat) : Int)) := by
      intro n hn
      rcases ih' n hn with h | h
      · exact .inl h
      · exact .inr ⟨h.1, h.2.1, by have := h.2.2; omega⟩
    by_cases h61 : x.kind = 61
    · rw [if_pos h61] at hn
      rcases List.mem_append.1 hn with h | h
      · exact old h
      · simp only [List.mem_singleton] at h
        subst h
        have := Qel s.1 x.num
        exact .inr ⟨h61, by simp only; omega, by simp only; omega⟩
    · rw [if_neg h61] at hn
      rcases List.mem_append.1 hn with h | h
      · exact old h
      · simp only [List.mem_singleton] at h
        subst h
        exact .inl ⟨hmem, h61⟩
theorem Jcy (f : Int) (hf : 1 ≤ f) (hf2 : f ≤ 1000) {t : List Nd} (hl : t.length ≤ 300) (hw : ∀ n ∈ t, (Go.Lit.int .i64 n.num).wf = true) : ∀ n ∈ (nmTo f t t.length).2, (Go.Lit.int .i64 n.num).wf = true := by
  intro n hn
  rcases Qge f t t.length (Nat.le_refl _) n hn with h | h
  · exact hw n h.1
  · exact Go.WalkArith.wf_i64 (by omega)
theorem Qwf {ps : List (List Nd × List Nd)} {σ : Int → List Nd} (hv : Qbf ps) (h : SolveOk ps σ) {x : Int} (hx : Occ ps x) : ∀ y ∈ metas (σ x), Occ ps y := by
  classical
  intro y hy
  by_cases hoy : Occ ps y
  · exact hoy
  · exfalso
    have hx1 := Qhz hv hx
    have hpl := h.plain x hx1
    have h1 : ∀ y ∈ metas (σ x), σ y = [Qav y] := by
      have e : fill σ (σ x) = fill (fun x => [Qav x]) (σ x) := by rw [h.gen σ h.one h.sol x, Qih hpl]
      exact Qda h.one Qbu (Qaq hpl) (h.one x) e
    obtain ⟨θ, hθ⟩ : ∃ θ : Int → List Nd, θ = fun z => if Occ ps z then σ z else [⟨12, 0, ByteArray.empty, 0, 0⟩] := ⟨_, rfl⟩
    have ho : ∀ z, One (θ z) := by
      intro z
      subst hθ
      simp only
      split
      · exact h.one z
      · exact Qmp _ rfl
    have hs : Solves θ ps := by
      intro p hp
      have e1 : fill θ p.1 = fill σ p.1 := Qbi (fun z hz => by subst hθ; simp only; rw [if_pos ⟨p, hp, .inl hz⟩])
      have e2 : fill θ p.2 = fill σ p.2 := Qbi (fun z hz => by subst hθ; simp only; rw [if_pos ⟨p, hp, .inr hz⟩])
      rw [e1, e2, h.sol p hp]
    have g1 := h.gen θ ho hs x
    have g2 : θ x = σ x := by subst hθ; simp only; rw [if_pos hx]
    have e : fill θ (σ x) = fill σ (σ x) := by rw [g1, g2, h.gen σ h.one h.sol x]
    have h2 := Qda ho h.one (Qaq hpl) (h.one x) e y hy
    rw [h1 y hy] at h2
    subst hθ
    simp only [if_neg hoy, Qav, List.cons.injEq, Nd.mk.injEq] at h2
    omega
theorem Qlp {f : Int} (hf : 1 ≤ f) {b : List Nd} (hb : typeb b = true) : typeb (Qbq f b) = true := Qmn f hf hb
theorem Qsc {a b : List Nd} (ha : typeb a = true) (hb : typeb b = true) {f : Int} (hf : 1 ≤ f) (hf2 : f ≤ 301) {x : Int} (h : Occ [(Qab a, Qbq f b)] x) : 1 ≤ x ∧ x ≤ 1000 := by
  obtain ⟨p, hp, h⟩ := h
  simp only [List.mem_singleton] at hp
  subst hp
  have hla := Qao ha
  have hlb := Qao hb
  rcases h with h | h
  · simp only [Qbk ha] at h
    have := Qgf 1 a a.length (Nat.le_refl _) x h
    omega
  · have := Qgf f b b.length (Nat.le_refl _) x h
    omega
theorem Jca {a b : List Nd} (ha : typeb a = true) (hb : typeb b = true) {f : Int} (hf : 1 ≤ f) (hf2 : f ≤ 301) {ok : Bool} {i : Int} {bs : List (Int × List Nd)} (h : SolveRes [(Qab a, Qbq f b)] ok i bs) :
    (∀ b ∈ bs, (Go.Lit.int .i64 b.1).wf = true) ∧ ∀ n ∈ Qai bs (Qab a), n.kind = 61 → (Go.Lit.int .i64 n.num).wf = true := by
  have hb1 : ∀ b ∈ bs, (1 ≤ b.1 ∧ b.1 ≤ 1000) ∧ ∀ y ∈ metas b.2, 1 ≤ y ∧ y ≤ 1000 := by
    cases h using SolveRes.inv with
    | bad _ => intro b hb; simp at hb
    | no _ _ _ _ _ => intro b hb; simp at hb
    | large _ _ _ _ _ _ => intro b hb; simp at hb
    | ok σ _ h1 h2 h3 h4 h5 =>
      intro q hq
      have ho : Occ _ q.1 := (h4 q.1).1 (List.mem_map.2 ⟨q, hq, rfl⟩)
      refine ⟨Qsc ha hb hf hf2 ho, fun y hy => ?_⟩
      rw [(h5 q hq).1] at hy
      exact Qsc ha hb hf hf2 (Qwf h1 h2 ho y hy)
  refine ⟨fun b hb => Go.WalkArith.wf_i64 (by have := (hb1 b hb).1; omega), fun n hn hk => ?_⟩
  have hn2 : n ∈ Qam bs (Qab a) := by
    unfold Qai at hn
    split at hn
    · exact hn
    · simp at hn
  obtain ⟨m, hm, hnm⟩ := List.mem_flatMap.1 hn2
  have hla := Qao ha
  have own : m.kind = 61 → 1 ≤ m.num ∧ m.num ≤ 300 := by
    intro hk'
    rw [Qbk ha] at hm
    rcases Qge 1 a a.length (Nat.le_refl _) m hm with h | h
    · exact absurd hk' h.2
    · omega
  unfold Qbg at hnm
  split at hnm
  · next hk' =>
    cases hq : bs[placeIn (bs.map Prod.fst) m.num]? with
    | none =>
      rw [hq] at hnm
      simp only [Option.map_none, Option.getD_none, List.mem_singleton] at hnm
      subst hnm
      exact Go.WalkArith.wf_i64 (by have := own hk'; omega)
    | some q =>
      rw [hq] at hnm
      simp only [Option.map_some, Option.getD_some] at hnm
      obtain ⟨hl, he⟩ := List.getElem?_eq_some_iff.1 hq
      have hqm : q ∈ bs := by rw [← he]; exact List.getElem_mem hl
      have := (hb1 q hqm).2 n.num (List.mem_map.2 ⟨n, List.mem_filter.2 ⟨hnm, by simpa using hk⟩, rfl⟩)
      exact Go.WalkArith.wf_i64 (by omega)
  · simp only [List.mem_singleton] at hnm
    subst hnm
    exact Go.WalkArith.wf_i64 (by have := own hk; omega)
theorem Qqi {ps : List (List Nd × List Nd)} {σ : Int → List Nd} (hv : Qbf ps) (h : SolveOk ps σ) {x : Int} (hx : Occ ps x) (P : Nd → Prop) (hP : ∀ p ∈ ps, (∀ n ∈ p.1, n.kind ≠ 61 → P n) ∧ ∀ n ∈ p.2, n.kind ≠ 61 → P n) : ∀ n ∈ σ x, n.kind ≠ 61 → P n := by
  classical
  obtain ⟨μ, hμ⟩ : ∃ μ : Nd → Nd, μ = fun n => if n.kind = 61 ∨ P n then n else ⟨n.kind, n.num + 1, n.text, n.kids, n.place⟩ := ⟨_, rfl⟩
  have hk : ∀ n, (μ n).kids = n.kids := by
    intro n
    subst hμ
    simp only
    split <;> rfl
  have hfix : ∀ n, (n.kind = 61 ∨ P n) → μ n = n := by
    intro n hn
    subst hμ
    simp only
    rw [if_pos hn]
  have hback : ∀ n, μ n = n → n.kind ≠ 61 → P n := by
    intro n hn h61
    by_cases hp : P n
    · exact hp
    · exfalso
      subst hμ
      simp only at hn
      rw [if_neg (fun h => h.elim h61 hp)] at hn
      have := congrArg Nd.num hn
      simp only at this
      omega
  have hx1 := Qhz hv hx
  have hpl := h.plain x hx1
  have h1 : ∀ y ∈ metas (σ x), σ y = [Qav y] := by
    have e : fill σ (σ x) = fill (fun x => [Qav x]) (σ x) := by rw [h.gen σ h.one h.sol x, Qih hpl]
    exact Qda h.one Qbu (Qaq hpl) (h.one x) e
  obtain ⟨θ, hθ⟩ : ∃ θ : Int → List Nd, θ = fun z => (σ z).map μ := ⟨_, rfl⟩
  have ho : ∀ z, One (θ z) := by
    intro z
    subst hθ
    obtain ⟨s, ys, e⟩ := h.one z
    refine ⟨s, ys, ?_⟩
    have ek : ((σ z).map μ).map Nd.kids = (σ z).map Nd.kids := by
      rw [List.map_map]
      congr 1
      funext n
      exact hk n
    rw [List.length_map, Qly ek]
    exact e
  have hside : ∀ t : List Nd, (∀ n ∈ t, n.kind ≠ 61 → P n) → fill θ t = (fill σ t).map μ := by
    intro t
    induction t with
    | nil => intro _; rfl
    | cons n t ih =>
      intro ht
      have e2 : ∀ (θ : Int → List Nd) (n : Nd) (t : List Nd), fill θ (n :: t) = Qas θ n ++ fill θ t := fun θ n t => by simp [fill]
      rw [e2, e2, List.map_append, ih (fun m hm => ht m (by simp [hm]))]
      congr 1
      unfold Qas
      by_cases h61 : n.kind = 61
      · rw [if_pos h61, if_pos h61]; subst hθ; rfl
      · rw [if_neg h61, if_neg h61]
        simp only [List.map_cons, List.map_nil]
        rw [hfix n (.inr (ht n (by simp) h61))]
  have hs : Solves θ ps := by
    intro p hp
    rw [hside p.1 (hP p hp).1, hside p.2 (hP p hp).2, h.sol p hp]
  have g1 := h.gen θ ho hs x
  have g2 : fill θ (σ x) = σ x := by
    have e : fill θ (σ x) = fill (fun x => [Qav x]) (σ x) := by
      refine Qbi (fun y hy => ?_)
      subst hθ
      simp only [h1 y hy, List.map_cons, List.map_nil]
      rw [hfix _ (.inl rfl)]
    rw [e, Qih hpl]
  rw [g2] at g1
  have g3 : σ x = (σ x).map μ := by subst hθ; exact g1
  intro n hn h61
  obtain ⟨i, hi, rfl⟩ := List.getElem_of_mem hn
  refine hback _ ?_ h61
  have : (σ x)[i]? = ((σ x).map μ)[i]? := by rw [← g3]
  rw [List.getElem?_map, List.getElem?_eq_getElem hi] at this
  simp only [Option.map_some, Option.some.injEq] at this
  exact this.symm
theorem Qxg {bs : List (Int × List Nd)} {σ : Int → List Nd} (h : ∀ p ∈ bs, p.2 = σ p.1) {x : Int} (hx : x ∈ nums bs) : fsAt bs x = some (σ x) := by
  obtain ⟨p, hp, e⟩ := List.mem_map.1 hx
  have hs := fsAt_some.2 ⟨p, hp, e⟩
  obtain ⟨t, ht⟩ := Option.isSome_iff_exists.1 hs
  obtain ⟨hl, et⟩ := Qxh ht
  have h9 : placeIn (bs.map Prod.fst) x < (bs.map Prod.fst).length := by simpa using hl
  have h8 : ((bs.map Prod.fst)[placeIn (bs.map Prod.fst) x] == x) = true := List.findIdx_getElem (w := h9)
  rw [List.getElem_map] at h8
  have h7 : bs[placeIn (bs.map Prod.fst) x].1 = x := by simpa using h8
  rw [ht, ← et, h _ (List.getElem_mem hl), h7]
end Go.Proofs.YtoiiibplkhedcaaGreatDoor

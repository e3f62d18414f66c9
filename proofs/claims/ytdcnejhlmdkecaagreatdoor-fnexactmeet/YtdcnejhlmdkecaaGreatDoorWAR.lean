import Derived.Test.YtdcnejhlmdkecaaGreatDoorWAA
import Derived.OwnWalkIn
import Derived.Test.YtdcnejhlmdkecaaGreatDoorWAK
import Derived.Test.YtdcnejhlmdkecaaGreatDoorWAQ
import Derived.Test.YtdcnejhlmdkecaaGreatDoorWAN
namespace Go.Proofs.YtdcnejhlmdkecaaGreatDoor

open Go.RowKit

/-- append to a slice of the call's own, nil or not: in its block, or in a new one. -/
theorem run_append3 {P : Program} (w : World) (base : Nat) (t ty e : TypeId) (i : TypeInfo) (z : Value) (size bytes : Nat) (ht : P.underlying t = some (.slice e)) (hi : P.info? e = some i) (hz : i.zero = some z)
    (hsize : i.size = size) (hby : i.bytes = bytes) (hzs : z.cells.size = size) (hsz : 0 < size) (v : Value) (n : Nat) (xs : List Value) (hown : w.ownsRow base e size v n xs)
    (ad : Addr) (m c : Nat) (news : List Value) (hl : news.length = m * size) (hnews : ∀ j u, news[j]? = some u → w.cell? (ad.add j) = some u) (h1 : ∀ u ∈ news, u.oneCell' = true)
    (hm : 0 < m) (h63 : n + m ≤ maxLen) (hbytes : (n + m) * bytes ≤ 140737488355328) (hbase : base ≤ w.heap.size) :
    ∃ g' cap' w', (Builtin.append_ #[t, t] ty #[v, .slice (some ad) m c]).run P w = .ok (.slice (some ⟨g', 0, none⟩) (n + m) cap') w' ∧ w'.ownsRow base e size (.slice (some ⟨g', 0, none⟩) (n + m) cap') (n + m) (xs ++ news) ∧ w.grownBy w' v.ownBlock ∧ (v.ownBlock = some g' ∨ w.heap.size ≤ g') := by
  obtain ⟨v', w', hr, h2, h3, h4⟩ := run_append_own (P := P) w base t ty e i z size bytes ht hi hz hsize hby hzs hsz v n xs hown ad m c news hl hnews h1 h63 hbytes hbase
  rcases hown.2 with ⟨hv, hn⟩ | ⟨g2, cap2, cur, he, _⟩
  · subst hv
    have hown2 : w.ownsRow w.heap.size e size (.slice none 0 0) n xs := ⟨hown.1, Or.inl ⟨rfl, hn⟩⟩
    obtain ⟨v2, w2, hr2, h22, h23, h24⟩ := run_append_own (P := P) w w.heap.size t ty e i z size bytes ht hi hz hsize hby hzs hsz _ n xs hown2 ad m c news hl hnews h1 h63 hbytes (Nat.le_refl _)
    rw [hr] at hr2
    simp only [Result.ok.injEq] at hr2
    obtain ⟨rfl, rfl⟩ := hr2
    rcases h22.2 with ⟨hv2, hn2⟩ | ⟨g3, cap3, cur3, he3, hb3, _⟩
    · omega
    · subst he3
      exact ⟨g3, cap3, _, hr, h2, h3, Or.inr hb3⟩
  · subst he
    subst hsize
    obtain ⟨g', cap', rfl, hw⟩ := append_where w t ty e i z ht hi hz base g2 n cap2 xs hown ad m c news hl hnews h1 h63 (by rw [hby]; exact hbytes) hr
    exact ⟨g', cap', _, hr, h2, h3, hw.elim (fun e => Or.inl (by rw [e]; rfl)) (fun e => Or.inr (by omega))⟩

end Go.Proofs.YtdcnejhlmdkecaaGreatDoor

namespace Go.Proofs.YtdcnejhlmdkecaaGreatDoor

/-- A term with other numbers for its unknowns. -/
def renN (ρ : Int → Int) (n : Nd) : Nd := if n.kind = 61 then ⟨n.kind, ρ n.num, n.text, n.kids, n.place⟩ else n

def ren (ρ : Int → Int) (t : List Nd) : List Nd := t.map (renN ρ)

theorem renN_kind (ρ : Int → Int) (n : Nd) : (renN ρ n).kind = n.kind := by unfold renN; split <;> rfl

theorem renN_kids (ρ : Int → Int) (n : Nd) : (renN ρ n).kids = n.kids := by unfold renN; split <;> rfl

theorem ren_len (ρ : Int → Int) (t : List Nd) : (ren ρ t).length = t.length := by simp [ren]

theorem ren_append (ρ : Int → Int) (a b : List Nd) : ren ρ (a ++ b) = ren ρ a ++ ren ρ b := by simp [ren]

theorem ren_after (ρ : Int → Int) (t : List Nd) : ∀ k, after (ren ρ t) k = after t k := by
  intro k
  induction k with
  | zero => rfl
  | succ k ih =>
    simp only [after, ih]
    cases after t k with
    | none => rfl
    | some p =>
      obtain ⟨S, ys⟩ := p
      simp only [ren, List.getElem?_map]
      cases t[k]? with
      | none => rfl
      | some x => simp only [Option.map_some, renN_kids]

theorem ren_one {ρ : Int → Int} {t : List Nd} (h : One t) : One (ren ρ t) := by
  obtain ⟨s, ys, e⟩ := h
  exact ⟨s, ys, by rw [ren_len, ren_after]; exact e⟩

theorem ren_deep (ρ : Int → Int) (t : List Nd) : deepOf (ren ρ t) = deepOf t := by
  unfold deepOf
  rw [ren_len, ren_after]

theorem renN_plain {ρ : Int → Int} (hρ : ∀ x, 1 ≤ ρ x ↔ 1 ≤ x) (n : Nd) : (renN ρ n).plainb = n.plainb := by
  unfold renN
  split
  · next h =>
    unfold Nd.plainb
    simp only [h]
    have : decide (1 ≤ ρ n.num) = decide (1 ≤ n.num) := by simp only [hρ]
    rw [this]
    rfl
  · rfl

theorem ren_plain {ρ : Int → Int} (hρ : ∀ x, 1 ≤ ρ x ↔ 1 ≤ x) (t : List Nd) : (ren ρ t).all Nd.plainb = t.all Nd.plainb := by
  unfold ren
  rw [List.all_map]
  congr 1
  funext n
  exact renN_plain hρ n

theorem ren_typeb {ρ : Int → Int} (hρ : ∀ x, 1 ≤ ρ x ↔ 1 ≤ x) (t : List Nd) : typeb (ren ρ t) = typeb t := by
  unfold typeb
  rw [ren_len, ren_deep, ren_plain hρ]

theorem fill_ren (θ : Int → List Nd) (ρ : Int → Int) (t : List Nd) : fill θ (ren ρ t) = fill (fun x => θ (ρ x)) t := by
  induction t with
  | nil => rfl
  | cons n t ih =>
    have e1 : ren ρ (n :: t) = renN ρ n :: ren ρ t := rfl
    have e2 : ∀ (θ : Int → List Nd) (n : Nd) (t : List Nd), fill θ (n :: t) = fillN θ n ++ fill θ t := fun θ n t => by simp [fill]
    rw [e1, e2, e2, ih]
    congr 1
    unfold fillN
    rw [renN_kind]
    by_cases h : n.kind = 61
    · rw [if_pos h, if_pos h]; simp only [renN, if_pos h]
    · rw [if_neg h, if_neg h]; simp only [renN, if_neg h]

theorem ren_fill (θ : Int → List Nd) (ρ : Int → Int) (t : List Nd) : ren ρ (fill θ t) = fill (fun x => ren ρ (θ x)) t := by
  induction t with
  | nil => rfl
  | cons n t ih =>
    have e2 : ∀ (θ : Int → List Nd) (n : Nd) (t : List Nd), fill θ (n :: t) = fillN θ n ++ fill θ t := fun θ n t => by simp [fill]
    rw [e2, e2, ren_append, ih]
    congr 1
    unfold fillN
    by_cases h : n.kind = 61
    · rw [if_pos h, if_pos h]
    · rw [if_neg h, if_neg h]; simp only [ren, renN, List.map_cons, List.map_nil, if_neg h]

theorem metas_ren (ρ : Int → Int) (t : List Nd) : metas (ren ρ t) = (metas t).map ρ := by
  induction t with
  | nil => rfl
  | cons n t ih =>
    have e1 : ren ρ (n :: t) = renN ρ n :: ren ρ t := rfl
    have e2 : ∀ (n : Nd) (t : List Nd), metas (n :: t) = metas [n] ++ metas t := fun n t => by rw [← metas_append]; rfl
    rw [e1, e2, e2 n, ih, List.map_append]
    congr 1
    by_cases h : n.kind = 61
    · simp [metas, renN, h]
    · simp [metas, renN, h]

theorem ren_id {ρ : Int → Int} {t : List Nd} (h : ∀ x ∈ metas t, ρ x = x) : ren ρ t = t := by
  induction t with
  | nil => rfl
  | cons n t ih =>
    have e1 : ren ρ (n :: t) = renN ρ n :: ren ρ t := rfl
    have e2 : metas (n :: t) = metas [n] ++ metas t := by rw [← metas_append]; rfl
    rw [e2] at h
    rw [e1, ih (fun x hx => h x (by simp [hx]))]
    congr 1
    unfold renN
    split
    · next hk =>
      have := h n.num (by simp [metas, hk])
      rw [this]
    · rfl

def renP (ρ : Int → Int) (ps : List (List Nd × List Nd)) : List (List Nd × List Nd) := ps.map fun p => (ren ρ p.1, ren ρ p.2)

theorem solves_ren {θ : Int → List Nd} {ρ : Int → Int} {ps : List (List Nd × List Nd)} : Solves θ (renP ρ ps) ↔ Solves (fun x => θ (ρ x)) ps := by
  constructor
  · intro h p hp
    have := h (ren ρ p.1, ren ρ p.2) (List.mem_map.2 ⟨p, hp, rfl⟩)
    simp only [fill_ren] at this
    exact this
  · intro h p hp
    obtain ⟨q, hq, rfl⟩ := List.mem_map.1 hp
    simp only [fill_ren]
    exact h q hq

/-- The number that is renamed to this one. -/
def back (dec : ∀ p : Prop, Decidable p) (ep : (Int → Prop) → Int) (rh : Int → Int) (y : Int) : Option Int := @ite _ (∃ x, rh x = y) (dec _) (some (ep fun x => rh x = y)) none

theorem back_of {ρ : Int → Int} (hi : ∀ x y, ρ x = ρ y → x = y) (x : Int) : back Classical.propDecidable Classical.epsilon ρ (ρ x) = some x := by
  unfold back
  have h : ∃ z, ρ z = ρ x := ⟨x, rfl⟩
  rw [if_pos h]
  rw [hi _ _ (Classical.epsilon_spec h)]

theorem back_some {ρ : Int → Int} {y x : Int} (h : back Classical.propDecidable Classical.epsilon ρ y = some x) : ρ x = y := by
  unfold back at h
  split at h
  · next hh =>
    simp only [Option.some.injEq] at h
    rw [← h]
    exact Classical.epsilon_spec hh
  · cases h

/-- What is put for the renamed unknowns. -/
def renS (dec : ∀ p : Prop, Decidable p) (ep : (Int → Prop) → Int) (rh : Int → Int) (σ : Int → List Nd) (y : Int) : List Nd := match back dec ep rh y with
  | some x => ren rh (σ x)
  | none => [metaN y]

theorem renS_at {ρ : Int → Int} (hi : ∀ x y, ρ x = ρ y → x = y) (σ : Int → List Nd) (x : Int) : renS Classical.propDecidable Classical.epsilon ρ σ (ρ x) = ren ρ (σ x) := by
  unfold renS
  rw [back_of hi]

theorem solveOk_ren {ρ : Int → Int} (hi : ∀ x y, ρ x = ρ y → x = y) (hm : ∀ x y, x ≤ y → ρ x ≤ ρ y) (hρ : ∀ x, 1 ≤ ρ x ↔ 1 ≤ x) {ps : List (List Nd × List Nd)} {σ : Int → List Nd} (h : SolveOk ps σ) : SolveOk (renP ρ ps) (renS Classical.propDecidable Classical.epsilon ρ σ) := by
  refine ⟨fun y => ?_, fun y hy => ?_, ?_, fun θ hθ hs y => ?_, fun y z e => ?_⟩
  · unfold renS
    split
    · exact ren_one (h.one _)
    · exact metaN_one _
  · unfold renS
    split
    · next x hx =>
      rw [ren_plain hρ]
      refine h.plain x ((hρ x).1 ?_)
      rw [back_some hx]; exact hy
    · simp only [List.all_cons, List.all_nil, Bool.and_true, metaN, Nd.plainb]
      simp [hy]
  · rw [solves_ren]
    intro p hp
    have e : (fun x => renS Classical.propDecidable Classical.epsilon ρ σ (ρ x)) = fun x => ren ρ (σ x) := by funext x; exact renS_at hi σ x
    rw [e, ← ren_fill, ← ren_fill, h.sol p hp]
  · rw [solves_ren] at hs
    have hg := h.gen _ (fun x => hθ (ρ x)) hs
    unfold renS
    split
    · next x hx =>
      rw [fill_ren, hg x, back_some hx]
    · simp [fill, fillN, metaN]
  · unfold renS at e
    split at e
    · next x hx =>
      obtain ⟨n, hn⟩ : ∃ n, σ x = [n] := List.length_eq_one_iff.1 (by rw [← ren_len ρ, e]; rfl)
      rw [hn] at e
      simp only [ren, List.map_cons, List.map_nil, List.cons.injEq, and_true] at e
      have hk : n.kind = 61 := by rw [← renN_kind ρ, e]; rfl
      have hn2 : n = metaN n.num ∧ z = ρ n.num := by
        obtain ⟨a, b, c, d, f⟩ := n
        simp only at hk
        subst hk
        simp only [renN, metaN, if_true, Nd.mk.injEq, true_and] at e
        obtain ⟨e1, e2, e3, e4⟩ := e
        subst e2; subst e3; subst e4
        exact ⟨rfl, e1.symm⟩
      have hl := h.low x n.num (by rw [hn, ← hn2.1])
      rw [hn2.2, ← back_some hx]
      exact hm _ _ hl
    · have := metaN_inj e
      omega

theorem occ_ren {ρ : Int → Int} {ps : List (List Nd × List Nd)} {x : Int} : Occ (renP ρ ps) x ↔ ∃ y, Occ ps y ∧ ρ y = x := by
  constructor
  · rintro ⟨p, hp, h⟩
    obtain ⟨q, hq, rfl⟩ := List.mem_map.1 hp
    simp only [metas_ren, List.mem_map] at h
    rcases h with ⟨y, h1, h2⟩ | ⟨y, h1, h2⟩
    · exact ⟨y, ⟨q, hq, .inl h1⟩, h2⟩
    · exact ⟨y, ⟨q, hq, .inr h1⟩, h2⟩
  · rintro ⟨y, ⟨q, hq, h⟩, rfl⟩
    refine ⟨(ren ρ q.1, ren ρ q.2), List.mem_map.2 ⟨q, hq, rfl⟩, ?_⟩
    simp only [metas_ren, List.mem_map]
    rcases h with h | h
    · exact .inl ⟨y, h, rfl⟩
    · exact .inr ⟨y, h, rfl⟩

theorem valid_ren {ρ : Int → Int} (hρ : ∀ x, 1 ≤ ρ x ↔ 1 ≤ x) {ps : List (List Nd × List Nd)} : Valid (renP ρ ps) ↔ Valid ps := by
  unfold Valid
  have e1 : ((renP ρ ps).map fun p => p.1.length + p.2.length) = ps.map fun p => p.1.length + p.2.length := by
    simp [renP, ren_len, Function.comp_def]
  rw [e1]
  refine and_congr Iff.rfl ⟨fun h p hp => ?_, fun h p hp => ?_⟩
  · have := h (ren ρ p.1, ren ρ p.2) (List.mem_map.2 ⟨p, hp, rfl⟩)
    simp only [ren_typeb hρ] at this
    exact this
  · obtain ⟨q, hq, rfl⟩ := List.mem_map.1 hp
    simp only [ren_typeb hρ]
    exact h q hq

theorem take_renP (ρ : Int → Int) (ps : List (List Nd × List Nd)) (i : Nat) : (renP ρ ps).take i = renP ρ (ps.take i) := by
  simp [renP, List.map_take]

theorem solveRes_ren {ρ : Int → Int} (hi : ∀ x y, ρ x = ρ y → x = y) (hm : ∀ x y, x ≤ y → ρ x ≤ ρ y) (hρ : ∀ x, 1 ≤ ρ x ↔ 1 ≤ x) {ps : List (List Nd × List Nd)} {ok : Bool} {at' : Int} {bs : List (Int × List Nd)} (h : SolveRes ps ok at' bs) :
    SolveRes (renP ρ ps) ok at' (bs.map fun p => (ρ p.1, ren ρ p.2)) := by
  cases h using SolveRes.inv with
  | bad h => exact .bad (fun h' => h ((valid_ren hρ).1 h'))
  | no i h1 h2 h3 h4 =>
    refine .no i ((valid_ren hρ).2 h1) (by simpa [renP] using h2) ?_ ?_
    · obtain ⟨θ, hθ, hs⟩ := h3
      refine ⟨fun y => match back Classical.propDecidable Classical.epsilon ρ y with | some x => θ x | none => [metaN y], fun y => ?_, ?_⟩
      · simp only
        split
        · exact hθ _
        · exact metaN_one _
      · rw [take_renP, solves_ren]
        simp only [back_of hi]
        exact hs
    · intro θ hθ hs
      rw [take_renP, solves_ren] at hs
      exact h4 _ (fun x => hθ (ρ x)) hs
  | large σ x h1 h2 h3 h4 =>
    refine .large (renS Classical.propDecidable Classical.epsilon ρ σ) (ρ x) ((valid_ren hρ).2 h1) (solveOk_ren hi hm hρ h2) (occ_ren.2 ⟨x, h3, rfl⟩) ?_
    rw [renS_at hi, ren_len]
    exact h4
  | ok σ _ h1 h2 h3 h4 h5 =>
    refine .ok (renS Classical.propDecidable Classical.epsilon ρ σ) _ ((valid_ren hρ).2 h1) (solveOk_ren hi hm hρ h2) ?_ ?_ ?_
    · have e : nums (bs.map fun p => (ρ p.1, ren ρ p.2)) = (nums bs).map ρ := by simp [nums, Function.comp_def]
      rw [e]
      unfold Up at h3 ⊢
      rw [List.pairwise_map]
      refine h3.imp (fun {x y} hxy => ?_)
      have h9 := hm x y (by omega)
      rcases Int.lt_or_eq_of_le h9 with h8 | h8
      · exact h8
      · have := hi _ _ h8; omega
    · intro x
      have e : nums (bs.map fun p => (ρ p.1, ren ρ p.2)) = (nums bs).map ρ := by simp [nums, Function.comp_def]
      rw [e, List.mem_map, occ_ren]
      constructor
      · rintro ⟨y, hy, rfl⟩; exact ⟨y, (h4 y).1 hy, rfl⟩
      · rintro ⟨y, hy, rfl⟩; exact ⟨y, (h4 y).2 hy, rfl⟩
    · intro p hp
      obtain ⟨q, hq, rfl⟩ := List.mem_map.1 hp
      simp only [renS_at hi, ren_len]
      exact ⟨by rw [(h5 q hq).1], (h5 q hq).2⟩

/-- Canon does not see which numbers the unknowns have. -/
theorem nm_ren {ρ : Int → Int} (hi : ∀ x y, ρ x = ρ y → x = y) (f : Int) (t : List Nd) : ∀ k, k ≤ t.length → nmTo f (ren ρ t) k = ((nmTo f t k).1.map ρ, (nmTo f t k).2) := by
  have hpl : ∀ (met : List Int) (x : Int), placeIn (met.map ρ) (ρ x) = placeIn met x := by
    intro met x
    unfold placeIn
    rw [List.findIdx_map]
    congr 1
    funext y
    simp only [Function.comp]
    by_cases e : y = x
    · subst e; simp
    · have : ρ y ≠ ρ x := fun h => e (hi _ _ h)
      rw [beq_eq_false_iff_ne.2 this, beq_eq_false_iff_ne.2 e]
  intro k
  induction k with
  | zero => intro _; rfl
  | succ k ih =>
    intro hk
    have hk' : k < (ren ρ t).length := by rw [ren_len]; omega
    rw [nmTo_succ f _ k hk', nmTo_succ f t k (by omega), ih (by omega)]
    have e : (ren ρ t)[k] = renN ρ (t[k]'(by omega)) := by simp [ren]
    rw [e]
    generalize t[k]'(by omega) = n
    generalize nmTo f t k = s
    unfold nmStep
    rw [renN_kind]
    by_cases h61 : n.kind = 61
    · rw [if_pos h61, if_pos h61]
      have hn : (renN ρ n).num = ρ n.num := by simp [renN, h61]
      have e3 : (renN ρ n).text = n.text ∧ (renN ρ n).kids = n.kids ∧ (renN ρ n).place = n.place := by simp [renN, h61]
      simp only [hn, hpl, List.length_map, e3.1, e3.2.1, e3.2.2]
      split
      · simp
      · rfl
    · rw [if_neg h61, if_neg h61]
      have e2 : renN ρ n = n := by simp [renN, h61]
      rw [e2]

theorem canon_ren {ρ : Int → Int} (hi : ∀ x y, ρ x = ρ y → x = y) (hρ : ∀ x, 1 ≤ ρ x ↔ 1 ≤ x) (t : List Nd) : canonOf (ren ρ t) = canonOf t := by
  unfold canonOf
  rw [ren_typeb hρ, ren_len, ← nmTo_one, nm_ren hi 1 t t.length (Nat.le_refl _), ← nmTo_one]

/-- Numbered from another number on. -/
theorem nm_shift (f g : Int) (t : List Nd) : ∀ k, k ≤ t.length → (nmTo g t k).1 = (nmTo f t k).1 ∧ (nmTo g t k).2 = ren (fun x => x + (g - f)) (nmTo f t k).2 := by
  intro k
  induction k with
  | zero => intro _; exact ⟨rfl, rfl⟩
  | succ k ih =>
    intro hk
    obtain ⟨h1, h2⟩ := ih (by omega)
    rw [nmTo_succ f t k (by omega), nmTo_succ g t k (by omega)]
    generalize t[k]'(by omega) = n
    revert h1 h2
    generalize nmTo f t k = s
    generalize nmTo g t k = u
    intro h1 h2
    unfold nmStep
    by_cases h61 : n.kind = 61
    · rw [if_pos h61, if_pos h61, h1, h2]
      refine ⟨rfl, ?_⟩
      simp only [ren_append]
      congr 1
      simp only [ren, renN, List.map_cons, List.map_nil, if_pos h61]
      congr 2
      omega
    · rw [if_neg h61, if_neg h61, h1, h2]
      refine ⟨rfl, ?_⟩
      simp only [ren_append]
      congr 1
      simp only [ren, renN, List.map_cons, List.map_nil, if_neg h61]

theorem nm_bound (f : Int) (t : List Nd) : ∀ k, k ≤ t.length → ∀ x ∈ metas (nmTo f t k).2, f ≤ x ∧ x < f + (k : Int) := by
  intro k
  induction k with
  | zero => intro _ x hx; simp [nmTo, metas] at hx
  | succ k ih =>
    intro hk x hx
    have hl := (nmTo_len f t k (by omega)).2
    rw [nmTo_succ f t k (by omega)] at hx
    have ih' := ih (by omega)
    revert hl ih' hx
    generalize t[k]'(by omega) = n
    generalize nmTo f t k = s
    intro hx hl ih'
    unfold nmStep at hx
    by_cases h61 : n.kind = 61
    · rw [if_pos h61] at hx
      simp only [metas_append, List.mem_append] at hx
      rcases hx with hx | hx
      · have := ih' x hx; omega
      · simp only [metas, List.filter_cons, h61, beq_self_eq_true, if_true, List.filter_nil, List.map_cons, List.map_nil, List.mem_singleton] at hx
        have := placeIn_le s.1 n.num
        omega
    · rw [if_neg h61] at hx
      simp only [metas_append, List.mem_append] at hx
      rcases hx with hx | hx
      · have := ih' x hx; omega
      · simp [metas, h61] at hx

theorem ren_congr {ρ ρ' : Int → Int} {t : List Nd} (h : ∀ x ∈ metas t, ρ x = ρ' x) : ren ρ t = ren ρ' t := by
  induction t with
  | nil => rfl
  | cons n t ih =>
    have e1 : ∀ ρ, ren ρ (n :: t) = renN ρ n :: ren ρ t := fun _ => rfl
    have e2 : metas (n :: t) = metas [n] ++ metas t := by rw [← metas_append]; rfl
    rw [e2] at h
    rw [e1, e1, ih (fun x hx => h x (by simp [hx]))]
    congr 1
    unfold renN
    split
    · next hk =>
      rw [h n.num (by simp [metas, hk])]
    · rfl

theorem putAll_ren {ρ : Int → Int} (hi : ∀ x y, ρ x = ρ y → x = y) (bs : List (Int × List Nd)) (t : List Nd) : putAll (bs.map fun p => (ρ p.1, ren ρ p.2)) (ren ρ t) = ren ρ (putAll bs t) := by
  have hpl : ∀ (met : List Int) (x : Int), placeIn (met.map ρ) (ρ x) = placeIn met x := by
    intro met x
    unfold placeIn
    rw [List.findIdx_map]
    congr 1
    funext y
    simp only [Function.comp]
    by_cases e : y = x
    · subst e; simp
    · have : ρ y ≠ ρ x := fun h => e (hi _ _ h)
      rw [beq_eq_false_iff_ne.2 this, beq_eq_false_iff_ne.2 e]
  have hs : ∀ n, putSub (bs.map fun p => (ρ p.1, ren ρ p.2)) (renN ρ n) = ren ρ (putSub bs n) := by
    intro n
    unfold putSub
    rw [renN_kind]
    by_cases hk : n.kind = 61
    · rw [if_pos hk, if_pos hk]
      have hn : (renN ρ n).num = ρ n.num := by simp [renN, hk]
      have e1 : ((bs.map fun p => (ρ p.1, ren ρ p.2)).map Prod.fst) = (bs.map Prod.fst).map ρ := by simp [Function.comp_def]
      rw [hn, e1, hpl, List.getElem?_map]
      cases bs[placeIn (bs.map Prod.fst) n.num]? with
      | none => rfl
      | some p => rfl
    · rw [if_neg hk, if_neg hk]
      rfl
  unfold putAll
  induction t with
  | nil => rfl
  | cons n t ih =>
    have e1 : ren ρ (n :: t) = renN ρ n :: ren ρ t := rfl
    rw [e1, List.flatMap_cons, List.flatMap_cons, hs, ih, ren_append]

theorem putOf_ren {ρ : Int → Int} (hi : ∀ x y, ρ x = ρ y → x = y) (hρ : ∀ x, 1 ≤ ρ x ↔ 1 ≤ x) (bs : List (Int × List Nd)) (t : List Nd) : putOf (bs.map fun p => (ρ p.1, ren ρ p.2)) (ren ρ t) = ren ρ (putOf bs t) := by
  unfold putOf
  rw [putAll_ren hi, ren_typeb hρ, ren_len]
  have e : (∀ b ∈ (bs.map fun p => (ρ p.1, ren ρ p.2)), typeb b.2 = true) ↔ ∀ b ∈ bs, typeb b.2 = true := by
    simp only [List.forall_mem_map, ren_typeb hρ]
  by_cases hc : typeb t = true ∧ (∀ b ∈ bs, typeb b.2 = true) ∧ (putAll bs t).length ≤ 300
  · rw [if_pos hc, if_pos ⟨hc.1, e.2 hc.2.1, hc.2.2⟩]
  · rw [if_neg hc, if_neg (fun h => hc ⟨h.1, e.1 h.2.1, h.2.2⟩)]
    rfl

/-- The second of the two types of Meet, numbered behind the first. -/
def meetY (f : Int) (b : List Nd) : List Nd := (nmTo f b b.length).2

theorem meetX_eq {a : List Nd} (ha : typeb a = true) : canonOf a = (nmTo 1 a a.length).2 := by
  unfold canonOf
  rw [if_pos ha, nmTo_one]

theorem meet_same {a b : List Nd} (ha : typeb a = true) {f g : Int} (hf : (a.length : Int) < f) (hg : f ≤ g) {ok ok' : Bool} {i i' : Int} {bs bs' : List (Int × List Nd)}
    (h : SolveRes [(canonOf a, meetY f b)] ok i bs) (h' : SolveRes [(canonOf a, meetY g b)] ok' i' bs') : ok = ok' ∧ canonOf (putOf bs (canonOf a)) = canonOf (putOf bs' (canonOf a)) := by
  obtain ⟨ρ, hρd⟩ : ∃ ρ : Int → Int, ρ = fun x => if x ≤ (a.length : Int) then x else x + (g - f) := ⟨_, rfl⟩
  have hi : ∀ x y, ρ x = ρ y → x = y := by
    intro x y e
    subst hρd
    simp only at e
    split at e <;> split at e <;> omega
  have hm : ∀ x y, x ≤ y → ρ x ≤ ρ y := by
    intro x y e
    subst hρd
    simp only
    split <;> split <;> omega
  have hρ : ∀ x, 1 ≤ ρ x ↔ 1 ≤ x := by
    intro x
    subst hρd
    simp only
    split <;> omega
  have ex : ren ρ (canonOf a) = canonOf a := by
    refine ren_id (fun x hx => ?_)
    rw [meetX_eq ha] at hx
    have := nm_bound 1 a a.length (Nat.le_refl _) x hx
    subst hρd
    simp only
    rw [if_pos (by omega)]
  have ey : ren ρ (meetY f b) = meetY g b := by
    unfold meetY
    rw [(nm_shift f g b b.length (Nat.le_refl _)).2]
    refine ren_congr (fun x hx => ?_)
    have := nm_bound f b b.length (Nat.le_refl _) x hx
    subst hρd
    simp only
    rw [if_neg (by omega)]
  have h2 := solveRes_ren hi hm hρ h
  have e : renP ρ [(canonOf a, meetY f b)] = [(canonOf a, meetY g b)] := by simp [renP, ex, ey]
  rw [e] at h2
  obtain ⟨e1, _, e3⟩ := solve_res_same h2 h'
  refine ⟨e1, ?_⟩
  rw [← e3]
  have e4 := putOf_ren hi hρ bs (canonOf a)
  rw [ex] at e4
  rw [e4, canon_ren hi hρ]

theorem canon_pos (bs : List (Int × List Nd)) (x : List Nd) : 0 < (canonOf (putOf bs x)).length ↔ 0 < (putOf bs x).length := by
  constructor
  · intro h
    rcases Nat.eq_zero_or_pos (putOf bs x).length with h0 | h0
    · have : putOf bs x = [] := List.length_eq_zero_iff.1 h0
      rw [this] at h
      simp [canonOf, typeb, deepOf, after] at h
    · exact h0
  · intro h
    obtain ⟨h1, h2, h3, h4⟩ := putOf_ne (bs := bs) (t := x) (by intro e; rw [e] at h; simp at h)
    have ht := putAll_type h2 h1 h3
    rw [h4] at h ⊢
    unfold canonOf
    rw [if_pos ht, (canonTo_len _ _ (Nat.le_refl _)).1]
    exact h

/-- What Meet answers. -/
def MeetRes (a b out : List Nd) (fl : Bool) : Prop :=
  ((typeb a = false ∨ typeb b = false) ∧ out = [] ∧ fl = false) ∨
    (typeb a = true ∧ typeb b = true ∧ fl = decide (0 < out.length) ∧ ∃ (f : Int) (ok : Bool) (i : Int) (bs : List (Int × List Nd)), (a.length : Int) < f ∧ SolveRes [(canonOf a, meetY f b)] ok i bs ∧ out = if ok = true then canonOf (putOf bs (canonOf a)) else [])

theorem meetRes_same {a b out out' : List Nd} {fl fl' : Bool} (h : MeetRes a b out fl) (h' : MeetRes a b out' fl') : out = out' ∧ fl = fl' := by
  rcases h with ⟨h1, h2, h3⟩ | ⟨h1, h2, h3, f, ok, i, bs, hf, hs, ho⟩
  · rcases h' with ⟨_, h5, h6⟩ | ⟨h4, h5, _⟩
    · exact ⟨by rw [h2, h5], by rw [h3, h6]⟩
    · rcases h1 with h1 | h1
      · rw [h4] at h1; cases h1
      · rw [h5] at h1; cases h1
  · rcases h' with ⟨h4, _, _⟩ | ⟨_, _, h6, g, ok', i', bs', hg, hs', ho'⟩
    · rcases h4 with h4 | h4
      · rw [h1] at h4; cases h4
      · rw [h2] at h4; cases h4
    · have key : ok = ok' ∧ canonOf (putOf bs (canonOf a)) = canonOf (putOf bs' (canonOf a)) := by
        rcases Int.le_total f g with hle | hle
        · exact meet_same h1 hf hle hs hs'
        · have := meet_same h1 hg hle hs' hs
          exact ⟨this.1.symm, this.2.symm⟩
      have e : out = out' := by rw [ho, ho', key.1, key.2]
      exact ⟨e, by rw [h3, h6, e]⟩

theorem canon_empty {a : List Nd} : (canonOf a).length = 0 ↔ typeb a = false := by
  unfold canonOf
  cases h : typeb a
  · simp
  · simp only [if_true, (canonTo_len a a.length (Nat.le_refl _)).1]
    have := typeb_pos h
    constructor
    · intro h9; omega
    · intro h9; cases h9

theorem canon_len {a : List Nd} (h : typeb a = true) : (canonOf a).length = a.length := by
  unfold canonOf
  rw [if_pos h, (canonTo_len a a.length (Nat.le_refl _)).1]

/-- The nodes of a type that is numbered are the type's, or unknowns with the new numbers. -/
theorem nm_nodes (f : Int) (t : List Nd) : ∀ k, k ≤ t.length → ∀ n ∈ (nmTo f t k).2, (n ∈ t ∧ n.kind ≠ 61) ∨ (n.kind = 61 ∧ f ≤ n.num ∧ n.num < f + (k : Int)) := by
  intro k
  induction k with
  | zero => intro _ n hn; simp [nmTo] at hn
  | succ k ih =>
    intro hk n hn
    have hl := (nmTo_len f t k (by omega)).2
    have ih' := ih (by omega)
    rw [nmTo_succ f t k (by omega)] at hn
    have hmem : t[k]'(by omega) ∈ t := List.getElem_mem _
    revert hn ih' hl hmem
    generalize t[k]'(by omega) = x
    generalize nmTo f t k = s
    intro hn hl ih' hmem
    unfold nmStep at hn
    have old : ∀ {n}, n ∈ s.2 → (n ∈ t ∧ n.kind ≠ 61) ∨ (n.kind = 61 ∧ f ≤ n.num ∧ n.num < f + ((k + 1 : Nat) : Int)) := by
      intro n hn
      rcases ih' n hn with h | h
      · exact .inl h
      · exact .inr ⟨h.1, h.2.1, by have := h.2.2; omega⟩
    by_cases h61 : x.kind = 61
    · rw [if_pos h61] at hn
      rcases List.mem_append.1 hn with h | h
      · exact old h
      · simp only [List.mem_singleton] at h
        subst h
        have := placeIn_le s.1 x.num
        exact .inr ⟨h61, by simp only; omega, by simp only; omega⟩
    · rw [if_neg h61] at hn
      rcases List.mem_append.1 hn with h | h
      · exact old h
      · simp only [List.mem_singleton] at h
        subst h
        exact .inl ⟨hmem, h61⟩

theorem nm_wf (f : Int) (hf : 1 ≤ f) (hf2 : f ≤ 1000) {t : List Nd} (hl : t.length ≤ 300) (hw : ∀ n ∈ t, (Go.Lit.int .i64 n.num).wf = true) : ∀ n ∈ (nmTo f t t.length).2, (Go.Lit.int .i64 n.num).wf = true := by
  intro n hn
  rcases nm_nodes f t t.length (Nat.le_refl _) n hn with h | h
  · exact hw n h.1
  · exact Go.WalkArith.wf_i64 (by omega)

/-- What a solution puts for the unknowns of the pairs has no others in it. -/
theorem occ_metas {ps : List (List Nd × List Nd)} {σ : Int → List Nd} (hv : Valid ps) (h : SolveOk ps σ) {x : Int} (hx : Occ ps x) : ∀ y ∈ metas (σ x), Occ ps y := by
  classical
  intro y hy
  by_cases hoy : Occ ps y
  · exact hoy
  · exfalso
    have hx1 := occ_num hv hx
    have hpl := h.plain x hx1
    have h1 : ∀ y ∈ metas (σ x), σ y = [metaN y] := by
      have e : fill σ (σ x) = fill (fun x => [metaN x]) (σ x) := by rw [h.gen σ h.one h.sol x, fill_id hpl]
      exact fill_inj_one h.one metaN_one (plain_leafy hpl) (h.one x) e
    obtain ⟨θ, hθ⟩ : ∃ θ : Int → List Nd, θ = fun z => if Occ ps z then σ z else [⟨12, 0, ByteArray.empty, 0, 0⟩] := ⟨_, rfl⟩
    have ho : ∀ z, One (θ z) := by
      intro z
      subst hθ
      simp only
      split
      · exact h.one z
      · exact leaf_one _ rfl
    have hs : Solves θ ps := by
      intro p hp
      have e1 : fill θ p.1 = fill σ p.1 := fill_congr (fun z hz => by subst hθ; simp only; rw [if_pos ⟨p, hp, .inl hz⟩])
      have e2 : fill θ p.2 = fill σ p.2 := fill_congr (fun z hz => by subst hθ; simp only; rw [if_pos ⟨p, hp, .inr hz⟩])
      rw [e1, e2, h.sol p hp]
    have g1 := h.gen θ ho hs x
    have g2 : θ x = σ x := by subst hθ; simp only; rw [if_pos hx]
    have e : fill θ (σ x) = fill σ (σ x) := by rw [g1, g2, h.gen σ h.one h.sol x]
    have h2 := fill_inj_one ho h.one (plain_leafy hpl) (h.one x) e y hy
    rw [h1 y hy] at h2
    subst hθ
    simp only [if_neg hoy, metaN, List.cons.injEq, Nd.mk.injEq] at h2
    omega

theorem meet_occ {a b : List Nd} (ha : typeb a = true) (hb : typeb b = true) {f : Int} (hf : 1 ≤ f) (hf2 : f ≤ 301) {x : Int} (h : Occ [(canonOf a, meetY f b)] x) : 1 ≤ x ∧ x ≤ 1000 := by
  obtain ⟨p, hp, h⟩ := h
  simp only [List.mem_singleton] at hp
  subst hp
  have hla := typeb_len ha
  have hlb := typeb_len hb
  rcases h with h | h
  · simp only [meetX_eq ha] at h
    have := nm_bound 1 a a.length (Nat.le_refl _) x h
    omega
  · have := nm_bound f b b.length (Nat.le_refl _) x h
    omega

theorem meet_wf {a b : List Nd} (ha : typeb a = true) (hb : typeb b = true) {f : Int} (hf : 1 ≤ f) (hf2 : f ≤ 301) {ok : Bool} {i : Int} {bs : List (Int × List Nd)} (h : SolveRes [(canonOf a, meetY f b)] ok i bs) :
    (∀ b ∈ bs, (Go.Lit.int .i64 b.1).wf = true) ∧ ∀ n ∈ putOf bs (canonOf a), n.kind = 61 → (Go.Lit.int .i64 n.num).wf = true := by
  have hb1 : ∀ b ∈ bs, (1 ≤ b.1 ∧ b.1 ≤ 1000) ∧ ∀ y ∈ metas b.2, 1 ≤ y ∧ y ≤ 1000 := by
    cases h using SolveRes.inv with
    | bad _ => intro b hb; simp at hb
    | no _ _ _ _ _ => intro b hb; simp at hb
    | large _ _ _ _ _ _ => intro b hb; simp at hb
    | ok σ _ h1 h2 h3 h4 h5 =>
      intro q hq
      have ho : Occ _ q.1 := (h4 q.1).1 (List.mem_map.2 ⟨q, hq, rfl⟩)
      refine ⟨meet_occ ha hb hf hf2 ho, fun y hy => ?_⟩
      rw [(h5 q hq).1] at hy
      exact meet_occ ha hb hf hf2 (occ_metas h1 h2 ho y hy)
  refine ⟨fun b hb => Go.WalkArith.wf_i64 (by have := (hb1 b hb).1; omega), fun n hn hk => ?_⟩
  have hn2 : n ∈ putAll bs (canonOf a) := by
    unfold putOf at hn
    split at hn
    · exact hn
    · simp at hn
  obtain ⟨m, hm, hnm⟩ := List.mem_flatMap.1 hn2
  have hla := typeb_len ha
  have own : m.kind = 61 → 1 ≤ m.num ∧ m.num ≤ 300 := by
    intro hk'
    rw [meetX_eq ha] at hm
    rcases nm_nodes 1 a a.length (Nat.le_refl _) m hm with h | h
    · exact absurd hk' h.2
    · omega
  unfold putSub at hnm
  split at hnm
  · next hk' =>
    cases hq : bs[placeIn (bs.map Prod.fst) m.num]? with
    | none =>
      rw [hq] at hnm
      simp only [Option.map_none, Option.getD_none, List.mem_singleton] at hnm
      subst hnm
      exact Go.WalkArith.wf_i64 (by have := own hk'; omega)
    | some q =>
      rw [hq] at hnm
      simp only [Option.map_some, Option.getD_some] at hnm
      obtain ⟨hl, he⟩ := List.getElem?_eq_some_iff.1 hq
      have hqm : q ∈ bs := by rw [← he]; exact List.getElem_mem hl
      have := (hb1 q hqm).2 n.num (List.mem_map.2 ⟨n, List.mem_filter.2 ⟨hnm, by simpa using hk⟩, rfl⟩)
      exact Go.WalkArith.wf_i64 (by omega)
  · simp only [List.mem_singleton] at hnm
    subst hnm
    exact Go.WalkArith.wf_i64 (by have := own hk; omega)

end Go.Proofs.YtdcnejhlmdkecaaGreatDoor

import Derived.Test.YtahdmflbdmlfhaaGreatDoorWAA
import Derived.Test.YtahdmflbdmlfhaaGreatDoorUMath2
import Derived.Test.YtahdmflbdmlfhaaGreatDoorWAK
namespace Go.Proofs.YtahdmflbdmlfhaaGreatDoor

/-- An unknown as a type. -/
def metaN (x : Int) : Nd := ⟨61, x, ByteArray.empty, 0, 0⟩

theorem fill_inj_one {θ θ' : Int → List Nd} (hθ : ∀ x, One (θ x)) (hθ' : ∀ x, One (θ' x)) {t : List Nd} (hl : Leafy t) (h : One t) (e : fill θ t = fill θ' t) : ∀ x ∈ metas t, θ x = θ' x := by
  have hne := List.length_pos_iff.2 h.ne
  obtain ⟨s, ys, hA⟩ := h
  have hf := after_fine hA
  have hc := hf.chain.2.2.1 (by simp)
  simp only [List.getElem_cons_zero, List.length_cons, List.length_nil, Nat.zero_add, Nat.sub_self] at hc
  have hm := hf.mem 0 (by simp)
  simp only [List.getElem_cons_zero] at hm
  have hrt : s.rt = t.length - 1 := by omega
  rw [hrt] at hm
  have hsp : span t s.fr (t.length - 1) = t := by
    unfold span
    rw [hc.1, List.drop_zero, List.take_of_length_le (by omega)]
  have h9 := fill_inj hθ hθ' hl hA (t.length - 1) (by omega) s hm (by rw [hsp]; exact e)
  rw [hsp] at h9
  exact h9

theorem plain_meta {n : Nd} (h : n.plainb = true) (hk : n.kind = 61) : n = metaN n.num := by
  obtain ⟨a, b, c, d, e⟩ := n
  simp only at hk
  subst hk
  unfold Nd.plainb at h
  simp at h
  obtain ⟨h1, h2⟩ := h
  obtain ⟨⟨h3, _⟩, h4⟩ := h2
  simp only [metaN]
  subst h4
  subst h1
  subst h3
  rfl

theorem fill_id {t : List Nd} (h : t.all Nd.plainb = true) : fill (fun x => [metaN x]) t = t := by
  induction t with
  | nil => rfl
  | cons n t ih =>
    simp only [List.all_cons, Bool.and_eq_true] at h
    have e : fill (fun x => [metaN x]) (n :: t) = fillN (fun x => [metaN x]) n ++ fill (fun x => [metaN x]) t := by simp [fill]
    rw [e, ih h.2]
    unfold fillN
    by_cases hk : n.kind = 61
    · rw [if_pos hk]
      show [metaN n.num] ++ t = n :: t
      rw [← plain_meta h.1 hk]; rfl
    · rw [if_neg hk]; rfl

theorem fill_len {θ : Int → List Nd} (hθ : ∀ x, One (θ x)) (t : List Nd) : t.length ≤ (fill θ t).length := by
  induction t with
  | nil => simp
  | cons n t ih =>
    have e : fill θ (n :: t) = fillN θ n ++ fill θ t := by simp [fill]
    rw [e, List.length_append, List.length_cons]
    have : 0 < (fillN θ n).length := by
      unfold fillN
      split
      · exact List.length_pos_iff.2 (hθ _).ne
      · simp
    omega

def Solves (θ : Int → List Nd) (ps : List (List Nd × List Nd)) : Prop := ∀ p ∈ ps, fill θ p.1 = fill θ p.2

/-- The solution that is as general as can be; of unknowns that are the same the lowest stands for all. -/
structure SolveOk (ps : List (List Nd × List Nd)) (σ : Int → List Nd) : Prop where
  one : ∀ x, One (σ x)
  plain : ∀ x, 1 ≤ x → (σ x).all Nd.plainb = true
  sol : Solves σ ps
  gen : ∀ θ, (∀ x, One (θ x)) → Solves θ ps → ∀ x, fill θ (σ x) = θ x
  low : ∀ x y, σ x = [metaN y] → y ≤ x

theorem metaN_one (x : Int) : One [metaN x] := leaf_one _ rfl

theorem metaN_inj {x y : Int} (h : [metaN x] = [metaN y]) : x = y := by
  simp only [List.cons.injEq, and_true, metaN, Nd.mk.injEq, true_and] at h
  exact h

theorem plain_num {n : Nd} (h : n.plainb = true) (hk : n.kind = 61) : 1 ≤ n.num := by
  unfold Nd.plainb at h
  simp only [Bool.and_eq_true, Bool.or_eq_true, beq_iff_eq, decide_eq_true_eq] at h
  obtain ⟨_, h2⟩ := h
  rcases h2 with (h2 | h2) | h2
  · exact h2.1.2
  · omega
  · omega

theorem metas_num {t : List Nd} (h : t.all Nd.plainb = true) {x : Int} (hx : x ∈ metas t) : 1 ≤ x := by
  obtain ⟨n, hn, rfl⟩ := List.mem_map.1 hx
  obtain ⟨h1, h2⟩ := List.mem_filter.1 hn
  exact plain_num (List.all_eq_true.1 h n h1) (by simpa using h2)

theorem solve_same {ps : List (List Nd × List Nd)} {σ σ' : Int → List Nd} (h : SolveOk ps σ) (h' : SolveOk ps σ') : ∀ x, 1 ≤ x → σ x = σ' x := by
  intro x hx1
  have h1 : ∀ y ∈ metas (σ x), σ y = [metaN y] := by
    have e : fill σ (σ x) = fill (fun x => [metaN x]) (σ x) := by rw [h.gen σ h.one h.sol x, fill_id (h.plain x hx1)]
    exact fill_inj_one h.one metaN_one (plain_leafy (h.plain x hx1)) (h.one x) e
  have h2 : ∀ y ∈ metas (σ x), σ' y = [metaN y] := by
    intro y hy
    have e : fill σ (σ' y) = [metaN y] := by rw [h'.gen σ h.one h.sol y, h1 y hy]
    have hl := fill_len h.one (σ' y)
    rw [e] at hl
    have hp := List.length_pos_iff.2 (h'.one y).ne
    simp only [List.length_cons, List.length_nil] at hl
    obtain ⟨n, hn⟩ : ∃ n, σ' y = [n] := List.length_eq_one_iff.1 (by omega)
    have hpl := h'.plain y (metas_num (h.plain x hx1) hy)
    rw [hn] at e hpl
    simp only [List.all_cons, List.all_nil, Bool.and_true] at hpl
    by_cases hk : n.kind = 61
    · have hm := plain_meta hpl hk
      obtain ⟨z, hz⟩ : ∃ z, n.num = z := ⟨_, rfl⟩
      rw [hz] at hm
      have ef : fill σ [n] = σ z := by rw [hm]; simp [fill, fillN, metaN]
      rw [ef] at e
      have l1 := h.low z y e
      have l2 := h'.low y z (by rw [hn, hm])
      have e3 : z = y := by omega
      rw [hn, hm, e3]
    · exfalso
      have ef : fill σ [n] = [n] := by simp [fill, fillN, hk]
      rw [ef] at e
      simp only [List.cons.injEq, and_true] at e
      rw [e] at hk
      exact hk rfl
  rw [← h.gen σ' h'.one h'.sol x, fill_congr h2, fill_id (h.plain x hx1)]

def Occ (ps : List (List Nd × List Nd)) (x : Int) : Prop := ∃ p ∈ ps, x ∈ metas p.1 ∨ x ∈ metas p.2

/-- Pairs that Solve looks at. -/
def Valid (ps : List (List Nd × List Nd)) : Prop := (ps.map fun p => p.1.length + p.2.length).sum ≤ 20000 ∧ ∀ p ∈ ps, typeb p.1 = true ∧ typeb p.2 = true

/-- What Solve answers. -/
def SolveResF (ps : List (List Nd × List Nd)) (_R : Bool × Int × List (Int × List Nd) → Prop) (x : Bool × Int × List (Int × List Nd)) : Prop :=
  (x = (false, (-1), []) ∧ (¬ Valid ps)) ∨
  (∃ (i : Nat), x = (false, (i : Int), []) ∧ (Valid ps) ∧ (i < ps.length) ∧ (∃ θ, (∀ x, One (θ x)) ∧ Solves θ (ps.take i)) ∧ (∀ θ, (∀ x, One (θ x)) → ¬ Solves θ (ps.take (i + 1)))) ∨
  (∃ (σ : Int → List Nd) (x0 : Int), x = (false, (-1), []) ∧ (Valid ps) ∧ (SolveOk ps σ) ∧ (Occ ps x0) ∧ (300 < (σ x0).length)) ∨
  (∃ (σ : Int → List Nd) (bs : List (Int × List Nd)), x = (true, 0, bs) ∧ (Valid ps) ∧ (SolveOk ps σ) ∧ (Up (nums bs)) ∧ (∀ x, x ∈ nums bs ↔ Occ ps x) ∧ (∀ p ∈ bs, p.2 = σ p.1 ∧ p.2.length ≤ 300))

structure SolveRes (ps : List (List Nd × List Nd)) (ok0 : Bool) (at0 : Int) (bs0 : List (Int × List Nd)) : Prop where
  of ::
  lfp : Lfp (SolveResF ps) (ok0, at0, bs0)

theorem SolveRes.grows (ps : List (List Nd × List Nd)) : Grows (SolveResF ps) := by
  rintro R R' x h0 (⟨e0, h⟩ | ⟨i, e0, h1, h2, h3, h4⟩ | ⟨σ, x0, e0, h1, h2, h3, h4⟩ | ⟨σ, bs, e0, h1, h2, h3, h4, h5⟩)
  · exact .inl ⟨e0, h⟩
  · exact .inr (.inl ⟨i, e0, h1, h2, h3, h4⟩)
  · exact .inr (.inr (.inl ⟨σ, x0, e0, h1, h2, h3, h4⟩))
  · exact .inr (.inr (.inr (⟨σ, bs, e0, h1, h2, h3, h4, h5⟩)))

theorem SolveRes.bad {ps : List (List Nd × List Nd)} (h : ¬ Valid ps) : SolveRes ps false ((-1)) ([]) :=
  ⟨Lfp.fold (SolveRes.grows ps) (.inl ⟨rfl, h⟩)⟩

theorem SolveRes.no {ps : List (List Nd × List Nd)} (i : Nat) (h1 : Valid ps) (h2 : i < ps.length) (h3 : ∃ θ, (∀ x, One (θ x)) ∧ Solves θ (ps.take i)) (h4 : ∀ θ, (∀ x, One (θ x)) → ¬ Solves θ (ps.take (i + 1))) : SolveRes ps false ((i : Int)) ([]) :=
  ⟨Lfp.fold (SolveRes.grows ps) (.inr (.inl ⟨i, rfl, h1, h2, h3, h4⟩))⟩

theorem SolveRes.large {ps : List (List Nd × List Nd)} (σ : Int → List Nd) (x0 : Int) (h1 : Valid ps) (h2 : SolveOk ps σ) (h3 : Occ ps x0) (h4 : 300 < (σ x0).length) : SolveRes ps false ((-1)) ([]) :=
  ⟨Lfp.fold (SolveRes.grows ps) (.inr (.inr (.inl ⟨σ, x0, rfl, h1, h2, h3, h4⟩)))⟩

theorem SolveRes.ok {ps : List (List Nd × List Nd)} (σ : Int → List Nd) (bs : List (Int × List Nd)) (h1 : Valid ps) (h2 : SolveOk ps σ) (h3 : Up (nums bs)) (h4 : ∀ x, x ∈ nums bs ↔ Occ ps x) (h5 : ∀ p ∈ bs, p.2 = σ p.1 ∧ p.2.length ≤ 300) : SolveRes ps true 0 bs :=
  ⟨Lfp.fold (SolveRes.grows ps) (.inr (.inr (.inr (⟨σ, bs, rfl, h1, h2, h3, h4, h5⟩))))⟩

theorem SolveRes.elim {ps : List (List Nd × List Nd)} {motive : ∀ ok0 at0 bs0, SolveRes ps ok0 at0 bs0 → Prop}
    (bad : ∀ (h : ¬ Valid ps), motive false ((-1)) ([]) (SolveRes.bad h))
    (no : ∀ (i : Nat) (h1 : Valid ps) (h2 : i < ps.length) (h3 : ∃ θ, (∀ x, One (θ x)) ∧ Solves θ (ps.take i)) (h4 : ∀ θ, (∀ x, One (θ x)) → ¬ Solves θ (ps.take (i + 1))), motive false ((i : Int)) ([]) (SolveRes.no i h1 h2 h3 h4))
    (large : ∀ (σ : Int → List Nd) (x0 : Int) (h1 : Valid ps) (h2 : SolveOk ps σ) (h3 : Occ ps x0) (h4 : 300 < (σ x0).length), motive false ((-1)) ([]) (SolveRes.large σ x0 h1 h2 h3 h4))
    (ok : ∀ (σ : Int → List Nd) (bs : List (Int × List Nd)) (h1 : Valid ps) (h2 : SolveOk ps σ) (h3 : Up (nums bs)) (h4 : ∀ x, x ∈ nums bs ↔ Occ ps x) (h5 : ∀ p ∈ bs, p.2 = σ p.1 ∧ p.2.length ≤ 300), motive true 0 bs (SolveRes.ok σ bs h1 h2 h3 h4 h5))
    {ok0 : Bool} {at0 : Int} {bs0 : List (Int × List Nd)} (h : SolveRes ps ok0 at0 bs0) : motive ok0 at0 bs0 h := by
  have key : ∀ h, motive (ok0, at0, bs0).1 (ok0, at0, bs0).2.1 (ok0, at0, bs0).2.2 h := Lfp.ind (SolveRes.grows ps) (p := fun x => ∀ h, motive x.1 x.2.1 x.2.2 h) (by
    rintro x (⟨e0, h⟩ | ⟨i, e0, h1, h2, h3, h4⟩ | ⟨σ, x0, e0, h1, h2, h3, h4⟩ | ⟨σ, bs, e0, h1, h2, h3, h4, h5⟩) h9
    · subst e0; exact bad h
    · subst e0; exact no i h1 h2 h3 h4
    · subst e0; exact large σ x0 h1 h2 h3 h4
    · subst e0; exact ok σ bs h1 h2 h3 h4 h5) h.lfp
  exact key h

theorem SolveRes.inv {ps : List (List Nd × List Nd)} {motive : ∀ ok0 at0 bs0, SolveRes ps ok0 at0 bs0 → Prop}
    (bad : ∀ (h : ¬ Valid ps), motive false ((-1)) ([]) (SolveRes.bad h))
    (no : ∀ (i : Nat) (h1 : Valid ps) (h2 : i < ps.length) (h3 : ∃ θ, (∀ x, One (θ x)) ∧ Solves θ (ps.take i)) (h4 : ∀ θ, (∀ x, One (θ x)) → ¬ Solves θ (ps.take (i + 1))), motive false ((i : Int)) ([]) (SolveRes.no i h1 h2 h3 h4))
    (large : ∀ (σ : Int → List Nd) (x0 : Int) (h1 : Valid ps) (h2 : SolveOk ps σ) (h3 : Occ ps x0) (h4 : 300 < (σ x0).length), motive false ((-1)) ([]) (SolveRes.large σ x0 h1 h2 h3 h4))
    (ok : ∀ (σ : Int → List Nd) (bs : List (Int × List Nd)) (h1 : Valid ps) (h2 : SolveOk ps σ) (h3 : Up (nums bs)) (h4 : ∀ x, x ∈ nums bs ↔ Occ ps x) (h5 : ∀ p ∈ bs, p.2 = σ p.1 ∧ p.2.length ≤ 300), motive true 0 bs (SolveRes.ok σ bs h1 h2 h3 h4 h5))
    {ok0 : Bool} {at0 : Int} {bs0 : List (Int × List Nd)} (h : SolveRes ps ok0 at0 bs0) : motive ok0 at0 bs0 h := by
  induction h using SolveRes.elim with
  | bad h => exact bad h
  | no i h1 h2 h3 h4 => exact no i h1 h2 h3 h4
  | large σ x0 h1 h2 h3 h4 => exact large σ x0 h1 h2 h3 h4
  | ok σ bs h1 h2 h3 h4 h5 => exact ok σ bs h1 h2 h3 h4 h5

theorem typeb_plain {t : List Nd} (h : typeb t = true) : t.all Nd.plainb = true := by
  simp only [typeb, Bool.and_eq_true, decide_eq_true_eq] at h
  exact h.2

theorem occ_num {ps : List (List Nd × List Nd)} (hv : Valid ps) {x : Int} (h : Occ ps x) : 1 ≤ x := by
  obtain ⟨p, hp, h⟩ := h
  obtain ⟨h1, h2⟩ := hv.2 p hp
  rcases h with h | h
  · exact metas_num (typeb_plain h1) h
  · exact metas_num (typeb_plain h2) h

theorem Solves.take {θ : Int → List Nd} {ps : List (List Nd × List Nd)} (h : Solves θ ps) (i : Nat) : Solves θ (ps.take i) := fun p hp => h p (List.mem_of_mem_take hp)

theorem Solves.le {θ : Int → List Nd} {ps : List (List Nd × List Nd)} {i j : Nat} (h : Solves θ (ps.take j)) (hij : i ≤ j) : Solves θ (ps.take i) := by
  have := h.take i
  rw [List.take_take, Nat.min_eq_left hij] at this
  exact this

theorem bs_eq {bs bs' : List (Int × List Nd)} {σ : Int → List Nd} (hn : nums bs = nums bs') (h : ∀ p ∈ bs, p.2 = σ p.1) (h' : ∀ p ∈ bs', p.2 = σ p.1) : bs = bs' := by
  have key : ∀ (cs : List (Int × List Nd)), (∀ p ∈ cs, p.2 = σ p.1) → cs = (nums cs).map (fun x => (x, σ x)) := by
    intro cs
    induction cs with
    | nil => intro _; rfl
    | cons c cs ih =>
      intro hc
      simp only [nums, List.map_cons]
      rw [← hc c (by simp), ← nums, ← ih (fun p hp => hc p (by simp [hp]))]
  rw [key bs h, key bs' h', hn]

theorem solve_res_same {ps : List (List Nd × List Nd)} {a a' : Bool} {i i' : Int} {bs bs' : List (Int × List Nd)} (h : SolveRes ps a i bs) (h' : SolveRes ps a' i' bs') : a = a' ∧ i = i' ∧ bs = bs' := by
  have noNo : ∀ {i j : Nat}, (∃ θ, (∀ x, One (θ x)) ∧ Solves θ (ps.take j)) → (∀ θ, (∀ x, One (θ x)) → ¬ Solves θ (ps.take (i + 1))) → j ≤ i := by
    intro i j ⟨θ, h1, h2⟩ h3
    rcases Nat.lt_or_ge i j with h4 | h4
    · exact absurd (h2.le h4) (h3 θ h1)
    · exact h4
  have noOk : ∀ {i : Nat} {σ : Int → List Nd}, SolveOk ps σ → (∀ θ, (∀ x, One (θ x)) → ¬ Solves θ (ps.take (i + 1))) → False := fun h1 h2 => h2 _ h1.one (h1.sol.take _)
  cases h using SolveRes.inv with
  | bad h1 =>
    cases h' using SolveRes.inv with
    | bad _ => exact ⟨rfl, rfl, rfl⟩
    | no _ h2 => exact absurd h2 h1
    | large _ _ h2 => exact absurd h2 h1
    | ok _ _ h2 => exact absurd h2 h1
  | no i h1 h2 h3 h4 =>
    cases h' using SolveRes.inv with
    | bad h5 => exact absurd h1 h5
    | no j _ _ h6 h7 =>
      have e1 := noNo h3 h7
      have e2 := noNo h6 h4
      exact ⟨rfl, by rw [show i = j by omega], rfl⟩
    | large _ _ _ h6 => exact (noOk h6 h4).elim
    | ok _ _ _ h6 => exact (noOk h6 h4).elim
  | large σ x h1 h2 h3 h4 =>
    cases h' using SolveRes.inv with
    | bad h5 => exact absurd h1 h5
    | no _ _ _ _ h7 => exact (noOk h2 h7).elim
    | large _ _ _ _ => exact ⟨rfl, rfl, rfl⟩
    | ok σ' _ _ h6 _ h8 h9 =>
      exfalso
      obtain ⟨p, hp, e⟩ := List.mem_map.1 ((h8 x).2 h3)
      have := h9 p hp
      rw [this.1, e, ← solve_same h2 h6 x (occ_num h1 h3)] at this
      omega
  | ok σ _ h1 h2 h3 h4 h5 =>
    cases h' using SolveRes.inv with
    | bad h6 => exact absurd h1 h6
    | no _ _ _ _ h7 => exact (noOk h2 h7).elim
    | large σ' x _ h6 h7 h8 =>
      exfalso
      obtain ⟨p, hp, e⟩ := List.mem_map.1 ((h4 x).2 h7)
      have := h5 p hp
      rw [this.1, e, solve_same h2 h6 x (occ_num h1 h7)] at this
      omega
    | ok σ' _ _ h6 h7 h8 h9 =>
      refine ⟨rfl, rfl, ?_⟩
      refine bs_eq (σ := σ) (up_same h3 h7 (fun x => (h4 x).trans (h8 x).symm)) (fun p hp => (h5 p hp).1) ?_
      intro p hp
      rw [(h9 p hp).1, solve_same h2 h6 p.1 (occ_num h1 ((h8 p.1).1 (List.mem_map.2 ⟨p, hp, rfl⟩)))]

end Go.Proofs.YtahdmflbdmlfhaaGreatDoor

namespace Go.Proofs.YtahdmflbdmlfhaaGreatDoor

open Go.RowKit

/-- append to a slice of the call's own, nil or not, in a row of operations. -/
theorem wpList_append3 {P : Program} {w : World} {ops : Array Oper} {rest : List Oper} {o : Oper} {a : Act} {Q : Exit → Act → World → Prop} (hgd : o.guard = none) (s x : Operand) (t : TypeId)
    (ho : o.op = .call { callee := .builtin .append, args := #[s, x], argTypes := #[t, t] })
    (base : Nat) (e : TypeId) (i : TypeInfo) (z : Value) (size bytes : Nat) (ht : P.underlying t = some (.slice e)) (hi : P.info? e = some i) (hz : i.zero = some z)
    (hsize : i.size = size) (hby : i.bytes = bytes) (hzs : z.cells.size = size) (hsz : 0 < size) (v : Value) (n : Nat) (xs : List Value) (hs : a.eval s = v) (hown : w.ownsRow base e size v n xs)
    (ad : Addr) (m c : Nat) (news : List Value) (hx : a.eval x = .slice (some ad) m c) (hl : news.length = m * size) (hnews : ∀ j u, news[j]? = some u → w.cell? (ad.add j) = some u) (h1 : ∀ u ∈ news, u.oneCell' = true)
    (hm : 0 < m) (h63 : n + m ≤ maxLen) (hbytes : (n + m) * bytes ≤ 140737488355328) (hbase : base ≤ w.heap.size)
    (h : ∀ g' cap' w', w'.ownsRow base e size (.slice (some ⟨g', 0, none⟩) (n + m) cap') (n + m) (xs ++ news) → w.grownBy w' v.ownBlock → (v.ownBlock = some g' ∨ w.heap.size ≤ g') → wpList P ops Q rest (a.put o.dst (.slice (some ⟨g', 0, none⟩) (n + m) cap')) w') : wpList P ops Q (o :: rest) a w := by
  refine wpList_plain hgd fun K hK => ?_
  obtain ⟨g', cap', w', hrun, r1, r2, r3⟩ := run_append3 (P := P) w base t o.type e i z size bytes ht hi hz hsize hby hzs hsz v n xs hown ad m c news hl hnews h1 hm h63 hbytes hbase
  unfold Oper.wp execOp
  simp only [ho, resolve, invoke, builtin, Sem.run_bind, Sem.run_pure, Result.andThen_ok, List.map_toArray, List.map_cons, List.map_nil, hs, hx, hrun]
  exact hK _ _ (h g' cap' w' r1 r2 r3)

/-- A list made of rows of six. -/
theorem six_length (f : Nat → List Value) (h6 : ∀ i, (f i).length = 6) (n : Nat) : ((List.range n).flatMap f).length = n * 6 := by
  induction n with
  | zero => rfl
  | succ n ih => rw [List.range_succ, List.flatMap_append, List.length_append, ih]; simp [h6]; omega

theorem six_get (f : Nat → List Value) (h6 : ∀ i, (f i).length = 6) (n i t : Nat) (hi : i < n) (ht : t < 6) : ((List.range n).flatMap f)[i * 6 + t]? = (f i)[t]? := by
  induction n with
  | zero => omega
  | succ n ih =>
    rw [List.range_succ, List.flatMap_append]
    by_cases e : i < n
    · rw [List.getElem?_append_left (by rw [six_length f h6]; omega)]
      exact ih e
    · have e2 : i = n := by omega
      subst e2
      rw [List.getElem?_append_right (by rw [six_length f h6]; omega), six_length f h6]
      have e3 : i * 6 + t - i * 6 = t := by omega
      rw [e3]
      simp

theorem six_set (f g : Nat → List Value) (h6 : ∀ i, (f i).length = 6) (g6 : ∀ i, (g i).length = 6) (n i t : Nat) (v : Value) (hi : i < n) (ht : t < 6) (hg : g i = (f i).set t v) (ho : ∀ j, j ≠ i → g j = f j) : ((List.range n).flatMap f).set (i * 6 + t) v = (List.range n).flatMap g := by
  apply List.ext_getElem?
  intro j
  by_cases hj : j < n * 6
  · have e : j = (j / 6) * 6 + j % 6 := by omega
    have hq : j / 6 < n := by omega
    have hr : j % 6 < 6 := by omega
    generalize j / 6 = q at *
    generalize j % 6 = r at *
    subst e
    rw [six_get g g6 n q r hq hr, List.getElem?_set, six_length f h6]
    by_cases hqi : q = i
    · subst hqi
      rw [hg, List.getElem?_set]
      by_cases hrt : t = r
      · subst hrt
        rw [if_pos rfl, if_pos (by omega), if_pos rfl, if_pos (by rw [h6]; exact hr)]
      · rw [if_neg (by omega), if_neg hrt]
        exact six_get f h6 n q r hq hr
    · rw [if_neg (by omega), ho q hqi]
      exact six_get f h6 n q r hq hr
  · rw [List.getElem?_eq_none (by rw [List.length_set, six_length f h6]; omega), List.getElem?_eq_none (by rw [six_length g g6]; omega)]

/-- A link as a number. -/
def lkv (l : Option Nat) : Int := match l with
  | some j => (j : Int)
  | none => -1

/-- The six cells of a node of a store. -/
def snode (x : SK) (k : Option Addr × Nat) (l : Option Nat) (m : Int) : List Value := [.int .i64 x.kind, .int .i64 x.num, .string x.text, .slice k.1 x.kids.length k.2, .int .i64 (lkv l), .int .i64 m]

def scells (st : List SK) (ka : Nat → Option Addr × Nat) (lk : Nat → Option Nat) (mk : Nat → Int) : List Value := (List.range st.length).flatMap fun i => snode (sk st i) (ka i) (lk i) (mk i)

theorem scells_get (st : List SK) (ka : Nat → Option Addr × Nat) (lk : Nat → Option Nat) (mk : Nat → Int) (i t : Nat) (hi : i < st.length) (ht : t < 6) : (scells st ka lk mk)[i * 6 + t]? = (snode (sk st i) (ka i) (lk i) (mk i))[t]? := six_get _ (fun _ => rfl) _ i t hi ht

theorem scells_link (st : List SK) (ka : Nat → Option Addr × Nat) (lk : Nat → Option Nat) (mk : Nat → Int) (a b : Nat) (ha : a < st.length) : (scells st ka lk mk).set (a * 6 + 4) (.int .i64 (b : Int)) = scells st ka (upd lk a b) mk := by
  refine six_set _ _ (fun _ => rfl) (fun _ => rfl) _ a 4 _ ha (by omega) ?_ ?_
  · simp [snode, upd_same, lkv]
  · intro j hj
    rw [upd_other hj]

def updM (mk : Nat → Int) (a : Nat) (m : Int) : Nat → Int := fun i => if i = a then m else mk i

theorem scells_mark (st : List SK) (ka : Nat → Option Addr × Nat) (lk : Nat → Option Nat) (mk : Nat → Int) (a : Nat) (m : Int) (ha : a < st.length) : (scells st ka lk mk).set (a * 6 + 5) (.int .i64 m) = scells st ka lk (updM mk a m) := by
  refine six_set _ _ (fun _ => rfl) (fun _ => rfl) _ a 5 _ ha (by omega) ?_ ?_
  · simp [snode, updM]
  · intro j hj
    simp [updM, hj]

/-- A store in memory: its nodes in block g, their kids in other blocks. -/
structure Sto (w : World) (B g c : Nat) (st : List SK) (ka : Nat → Option Addr × Nat) (lk : Nat → Option Nat) (mk : Nat → Int) : Prop where
  own : w.ownsRow B 83 6 (.slice (some ⟨g, 0, none⟩) st.length c) st.length (scells st ka lk mk)
  kids : ∀ i, ∀ k (h : k < (sk st i).kids.length), ∃ b o, (ka i).1 = some ⟨b, o, none⟩ ∧ b ≠ g ∧ w.cell? ⟨b, o + k, none⟩ = some (.int .i64 ((sk st i).kids[k] : Int))

theorem Sto.block {w : World} {B g c : Nat} {st : List SK} {ka : Nat → Option Addr × Nat} {lk : Nat → Option Nat} {mk : Nat → Int} (h : Sto w B g c st ka lk mk) : B ≤ g ∧ g < w.heap.size := owns_block h.own

theorem Sto.but {S : Nat → Prop} {w w' : World} {B g c : Nat} {st : List SK} {ka : Nat → Option Addr × Nat} {lk : Nat → Option Nat} {mk : Nat → Int} (h : Sto w B g c st ka lk mk) (hb : But S w w') (hg : ¬ S g) (hk : ∀ q, S q → q = g) : Sto w' B g c st ka lk mk := by
  refine ⟨owns_but h.own hb hg, ?_⟩
  intro i k hk1
  obtain ⟨b, o, e1, e2, e3⟩ := h.kids i k hk1
  refine ⟨b, o, e1, e2, ?_⟩
  have hlt : b < w.heap.size := lt_of_cell e3
  have h9 := hb.block b hlt (fun hs => e2 (hk b hs))
  unfold World.cell? at e3 ⊢
  rw [h9]
  exact e3

theorem Sto.below {w w' : World} {B g c : Nat} {st : List SK} {ka : Nat → Option Addr × Nat} {lk : Nat → Option Nat} {mk : Nat → Int} (h : Sto w B g c st ka lk mk) (hb : Below w.heap.size w w') : Sto w' B g c st ka lk mk :=
  h.but (S := fun _ => False) (But.ofBelow hb) (fun h => h) (fun _ h => h.elim)

theorem Sto.cell {w : World} {B g c : Nat} {st : List SK} {ka : Nat → Option Addr × Nat} {lk : Nat → Option Nat} {mk : Nat → Int} (h : Sto w B g c st ka lk mk) (i t : Nat) (hi : i < st.length) (ht : t < 6) : w.cell? ⟨g, i * 6 + t, none⟩ = (snode (sk st i) (ka i) (lk i) (mk i))[t]? := by
  rw [owns_at h.own _ (by omega), scells_get st ka lk mk i t hi ht]

theorem Sto.frozen {w : World} {B g c : Nat} {st : List SK} {ka : Nat → Option Addr × Nat} {lk : Nat → Option Nat} {mk : Nat → Int} (h : Sto w B g c st ka lk mk) (j : Nat) : w.frozen? ⟨g, j, none⟩ = false := h.own.frozenAt j

theorem Sto.setLink {w : World} {B g c : Nat} {st : List SK} {ka : Nat → Option Addr × Nat} {lk : Nat → Option Nat} {mk : Nat → Int} (h : Sto w B g c st ka lk mk) (a b : Nat) (ha : a < st.length) : Sto (w.setCell ⟨g, a * 6 + 4, none⟩ (.int .i64 (b : Int))) B g c st ka (upd lk a b) mk := by
  refine ⟨?_, ?_⟩
  · have h9 := owns_setOne (v := .int .i64 (b : Int)) h.own (i := a * 6 + 4)
    rw [scells_link st ka lk mk a b ha] at h9
    exact h9
  · intro i k hk
    obtain ⟨b2, o, e1, e2, e3⟩ := h.kids i k hk
    have hb : But (· = g) w (w.setCell ⟨g, a * 6 + 4, none⟩ (.int .i64 (b : Int))) := (But.refl (· = g) w).setCell (p := ⟨g, a * 6 + 4, none⟩) rfl _
    have hlt : b2 < w.heap.size := lt_of_cell e3
    have h9 := hb.block b2 hlt e2
    refine ⟨b2, o, e1, e2, ?_⟩
    unfold World.cell? at e3 ⊢
    rw [h9]
    exact e3

theorem Sto.setMark {w : World} {B g c : Nat} {st : List SK} {ka : Nat → Option Addr × Nat} {lk : Nat → Option Nat} {mk : Nat → Int} (h : Sto w B g c st ka lk mk) (a : Nat) (m : Int) (ha : a < st.length) : Sto (w.setCell ⟨g, a * 6 + 5, none⟩ (.int .i64 m)) B g c st ka lk (updM mk a m) := by
  refine ⟨?_, ?_⟩
  · have h9 := owns_setOne (v := .int .i64 m) h.own (i := a * 6 + 5)
    rw [scells_mark st ka lk mk a m ha] at h9
    exact h9
  · intro i k hk
    obtain ⟨b2, o, e1, e2, e3⟩ := h.kids i k hk
    have hb : But (· = g) w (w.setCell ⟨g, a * 6 + 5, none⟩ (.int .i64 m)) := (But.refl (· = g) w).setCell (p := ⟨g, a * 6 + 5, none⟩) rfl _
    have hlt : b2 < w.heap.size := lt_of_cell e3
    have h9 := hb.block b2 hlt e2
    refine ⟨b2, o, e1, e2, ?_⟩
    unfold World.cell? at e3 ⊢
    rw [h9]
    exact e3

end Go.Proofs.YtahdmflbdmlfhaaGreatDoor

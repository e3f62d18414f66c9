import Derived.Test.YthioecjcnajmgaaGreatDoorWAG
namespace Go.Proofs.YthioecjcnajmgaaGreatDoor

/-- A term's place, moved by a. -/
def sh (a : Nat) (s : Sp) : Sp := ⟨s.fr + a, s.rt + a, s.dp⟩

theorem dpOf_sh (a : Nat) (K : List Sp) : dpOf (K.map (sh a)) = dpOf K := by
  unfold dpOf
  rw [List.foldl_map]
  rfl

theorem over_sh (a i : Nat) (K : List Sp) : over (K.map (sh a)) (i + a) = sh a (over K i) := by
  unfold over
  rw [dpOf_sh]
  cases K <;> simp [sh, frOf]

/-- A step on a greater stack. -/
theorem step_front {S S' A : List Sp} {s : Sp} {i a : Nat} {n : Int} (h : step S i n = some (S', s)) : step (A ++ S.map (sh a)) (i + a) n = some (A ++ S'.map (sh a), sh a s) := by
  obtain ⟨h0, h1, h2, h3⟩ := step_some h
  rw [step_of h0 (by simp; omega)]
  have e1 : (A ++ S.map (sh a)).length - n.toNat = A.length + (S.length - n.toNat) := by simp; omega
  rw [e1]
  have e2 : (A ++ S.map (sh a)).take (A.length + (S.length - n.toNat)) = A ++ (S.take (S.length - n.toNat)).map (sh a) := by
    rw [List.take_append, List.take_of_length_le (by omega), List.map_take]
    congr 2
    omega
  have e3 : (A ++ S.map (sh a)).drop (A.length + (S.length - n.toNat)) = (S.drop (S.length - n.toNat)).map (sh a) := by
    rw [List.drop_append, List.drop_of_length_le (by omega), List.map_drop, List.nil_append]
    congr 1
    omega
  rw [e2, e3, over_sh, ← h3, h2]
  simp

/-- The run over a part at the front is the whole's. -/
theorem after_front {a b : List Nd} : ∀ {k : Nat}, k ≤ a.length → after (a ++ b) k = after a k := by
  intro k
  induction k with
  | zero => intro _; rfl
  | succ k ih =>
    intro hk
    simp only [after, ih (by omega)]
    rw [List.getElem?_append_left (by omega)]

/-- Two runs one behind the other. -/
theorem after_append {a b : List Nd} {A ya : List Sp} (ha : after a a.length = some (A, ya)) :
    ∀ {k : Nat} {S ys : List Sp}, after b k = some (S, ys) → after (a ++ b) (a.length + k) = some (A ++ S.map (sh a.length), ya ++ ys.map (sh a.length)) := by
  intro k
  induction k with
  | zero =>
    intro S ys h
    simp only [after, Option.some.injEq, Prod.mk.injEq] at h
    obtain ⟨rfl, rfl⟩ := h
    rw [Nat.add_zero, after_front (Nat.le_refl _), ha]
    simp
  | succ k ih =>
    intro S' ys' h
    obtain ⟨S, ys, s, hk, hb, hs, rfl⟩ := after_inv h
    have h1 := ih hb
    have h2 := step_front (A := A) (a := a.length) hs
    have hlt : a.length + k < (a ++ b).length := by simp; omega
    have hg : (a ++ b)[a.length + k] = b[k] := by rw [List.getElem_append_right (by omega)]; simp
    rw [← Nat.add_assoc, after_succ h1 hlt (S' := A ++ S'.map (sh a.length)) (s := sh a.length s) (by rw [hg, Nat.add_comm]; exact h2)]
    simp

/-- Terms that stand one behind the other, from f up to e. -/
def Con : Nat → Nat → List Sp → Prop
  | f, e, [] => f = e
  | f, e, d :: D => d.fr = f ∧ d.fr ≤ d.rt ∧ Con (d.rt + 1) e D

theorem Con.le : ∀ {D : List Sp} {f e : Nat}, Con f e D → f ≤ e := by
  intro D
  induction D with
  | nil => intro f e h; exact Nat.le_of_eq h
  | cons d D ih =>
    intro f e h
    obtain ⟨h1, h2, h3⟩ := h
    have := ih h3
    omega

theorem Con.ge : ∀ {D : List Sp} {f e : Nat}, Con f e D → ∀ x ∈ D, f ≤ x.fr ∧ x.fr ≤ x.rt ∧ x.rt < e := by
  intro D
  induction D with
  | nil => intro f e h x hx; simp at hx
  | cons d D ih =>
    intro f e h x hx
    obtain ⟨h1, h2, h3⟩ := h
    rcases List.mem_cons.1 hx with rfl | hx
    · have := h3.le; omega
    · have := ih h3 x hx; omega

/-- The kids of a node stand one behind the other. -/
theorem kids_con {t : List Nd} {ys K : List Sp} {i : Nat} (h : KidsAt t ys i K) : Con (frOf K i) i K := by
  have key : ∀ n r, r + n = K.length → Con (if h : r < K.length then K[r].fr else i) i (K.drop r) := by
    intro n
    induction n with
    | zero =>
      intro r hr
      rw [dif_neg (by omega), List.drop_of_length_le (by omega)]
      rfl
    | succ n ih =>
      intro r hr
      have hlt : r < K.length := by omega
      rw [dif_pos hlt, List.drop_eq_getElem_cons hlt]
      refine ⟨rfl, (h.mem r hlt).2.1, ?_⟩
      have h2 := ih (r + 1) (by omega)
      by_cases hl : r + 1 < K.length
      · rw [dif_pos hl] at h2
        have h3 := h.next (r + 1) (by omega) hl
        simp only [Nat.add_sub_cancel] at h3
        rw [h3]
        exact h2
      · rw [dif_neg hl] at h2
        have h3 := h.last (by omega)
        have e : K.length - 1 = r := by omega
        simp only [e] at h3
        rw [h3]
        exact h2
  have h1 := key K.length 0 (by omega)
  rw [List.drop_zero] at h1
  cases K with
  | nil => exact h1
  | cons d D => exact h1

/-- What stands from f up to e. -/
theorem con_flat {t : List Nd} : ∀ {D : List Sp} {f e : Nat}, Con f e D → e ≤ t.length → (kidsIn t D).flatten = (t.take e).drop f := by
  intro D
  induction D with
  | nil => intro f e h he; cases h; simp [kidsIn]
  | cons d D ih =>
    intro f e h he
    obtain ⟨h1, h2, h3⟩ := h
    have h4 := ih h3 he
    have h5 := h3.le
    have e1 : kidsIn t (d :: D) = span t d.fr d.rt :: kidsIn t D := rfl
    rw [e1, List.flatten_cons, h4]
    unfold span
    subst h1
    have e2 : (t.take e).drop d.fr = (((t.take e).take (d.rt + 1)).drop d.fr) ++ (t.take e).drop (d.rt + 1) := by
      conv => lhs; rw [← List.take_append_drop (d.rt + 1) (t.take e)]
      rw [List.drop_append_of_le_length (by simp; omega)]
    rw [e2, List.take_take, Nat.min_eq_left h5]

/-- The run over kids that each are whole. -/
theorem con_run {t : List Nd} : ∀ {D : List Sp} {f e : Nat}, Con f e D → e ≤ t.length → (∀ x ∈ D, ∃ ys', after (span t x.fr x.rt) (x.rt + 1 - x.fr) = some ([⟨0, x.rt - x.fr, x.dp⟩], ys')) →
    ∃ ys', after (kidsIn t D).flatten (e - f) = some (D.map (fun x => ⟨x.fr - f, x.rt - f, x.dp⟩), ys') := by
  intro D
  induction D with
  | nil => intro f e h he _; cases h; exact ⟨[], by simp [kidsIn, after]⟩
  | cons d D ih =>
    intro f e h he hx
    obtain ⟨h1, h2, h3⟩ := h
    obtain ⟨y1, r1⟩ := hx d (by simp)
    obtain ⟨y2, r2⟩ := ih h3 he (fun x hxx => hx x (List.mem_cons_of_mem _ hxx))
    have h5 := h3.le
    have hl : (span t d.fr d.rt).length = d.rt + 1 - d.fr := span_length t d.fr d.rt (by omega)
    have e1 : kidsIn t (d :: D) = span t d.fr d.rt :: kidsIn t D := rfl
    rw [← hl] at r1
    have r3 := after_append r1 r2
    rw [e1, List.flatten_cons]
    have e2 : (span t d.fr d.rt).length + (e - (d.rt + 1)) = e - f := by omega
    rw [e2] at r3
    refine ⟨y1 ++ y2.map (sh (span t d.fr d.rt).length), r3.trans ?_⟩
    congr 2
    simp only [List.map_cons, List.map_map, List.singleton_append, List.cons.injEq, Sp.mk.injEq, and_true]
    refine ⟨⟨by omega, by omega⟩, ?_⟩
    apply List.map_congr_left
    intro x hxx
    have := h3.ge x hxx
    simp only [Function.comp, sh, Sp.mk.injEq, and_true]
    omega

/-- The kids of a node, and what its term is over them. -/
theorem kids_at2 {t : List Nd} {S ys : List Sp} {n : Nat} (h : after t n = some (S, ys)) (i : Nat) (hi : i < n) : ∃ K, KidsAt t ys i K ∧ ys[i]? = some (over K i) := by
  obtain ⟨Si, hSi⟩ := after_part h i (by omega)
  obtain ⟨Sj, hSj⟩ := after_part h (i + 1) (by omega)
  obtain ⟨S0, ys0, s, hk, ha, hs, he⟩ := after_inv hSj
  rw [hSi] at ha
  simp only [Option.some.injEq, Prod.mk.injEq] at ha
  obtain ⟨rfl, rfl⟩ := ha
  have hf := after_fine hSi
  have hfn := (after_fine h).len
  obtain ⟨h0, h1, _, hov⟩ := step_some hs
  obtain ⟨f, hf'⟩ : ∃ f, f = Si.length - t[i].kids.toNat := ⟨_, rfl⟩
  rw [← hf'] at hov
  have hlen : (Si.drop f).length = t[i].kids.toNat := by simp; omega
  have hget : ∀ r (h : r < (Si.drop f).length), (Si.drop f)[r] = Si[f + r]'(by simp at h; omega) := fun r h => List.getElem_drop
  have hyi : ys[i]? = some s := by
    have h5 : (ys.take (i + 1))[i]? = some s := by
      rw [he, List.getElem?_append_right (by simp; omega)]
      have h9 : i - (ys.take i).length = 0 := by simp; omega
      rw [h9]
      rfl
    rw [List.getElem?_take, if_pos (by omega)] at h5
    exact h5
  refine ⟨Si.drop f, ⟨⟨hk, by rw [hlen]; omega⟩, ?_, ?_, ?_, ?_, by have := chain_len hf.chain; simp; omega⟩, by rw [hyi, hov]⟩
  · intro hp
    have h2 := (hf.chain.2.2.1 (by simp at hp; omega)).2
    rw [hget]
    have e : f + ((Si.drop f).length - 1) = Si.length - 1 := by simp at hp ⊢; omega
    simp only [e]
    exact h2
  · intro r hr hr'
    rw [hget, hget]
    have h2 := hf.chain.2.1 (f + (r - 1)) (by simp at hr'; omega)
    have e : f + (r - 1) + 1 = f + r := by omega
    simp only [e] at h2
    exact h2
  · intro r hr
    rw [hget]
    have hlt : f + r < Si.length := by simp at hr; omega
    have h2 := hf.mem (f + r) hlt
    have h3 := hf.chain.1 (f + r) hlt
    have h4 := (List.getElem?_eq_some_iff.1 h2).1
    refine ⟨?_, h3.1, h3.2⟩
    rw [List.getElem?_take] at h2
    rw [if_pos (by simp at h4; omega)] at h2
    exact h2
  · refine ⟨by omega, ?_⟩
    obtain ⟨_, h6⟩ := List.getElem?_eq_some_iff.1 hyi
    rw [h6, hov]
    rfl

theorem span_snoc (t : List Nd) (f i : Nat) (hi : i < t.length) (hf : f ≤ i) : span t f i = (t.take i).drop f ++ [t[i]] := by
  unfold span
  rw [List.take_succ_eq_append_getElem hi, List.drop_append_of_le_length (by simp; omega)]

/-- The run over a term's own nodes. -/
theorem sub_run {t : List Nd} {S ys : List Sp} {n : Nat} (h : after t n = some (S, ys)) :
    ∀ i, i < n → ∀ s, ys[i]? = some s → ∃ ys', after (span t s.fr i) (i + 1 - s.fr) = some ([⟨0, i - s.fr, s.dp⟩], ys') := by
  intro i
  induction i using Nat.strongRecOn with
  | ind i ih =>
    intro hi s hs
    obtain ⟨K, hK, ho⟩ := kids_at2 h i hi
    rw [ho] at hs
    simp only [Option.some.injEq] at hs
    subst hs
    have hle := after_le h
    have hc := kids_con hK
    have hfi : frOf K i ≤ i := hc.le
    obtain ⟨y1, r1⟩ := con_run (t := t) hc (by omega) (fun x hx => by
      obtain ⟨r, hr, rfl⟩ := List.getElem_of_mem hx
      have hm := hK.mem r hr
      exact ih K[r].rt hm.2.2 (by omega) K[r] hm.1)
    have hfl := con_flat (t := t) hc (by omega)
    show ∃ ys', after (span t (frOf K i) i) (i + 1 - frOf K i) = some ([⟨0, i - frOf K i, dpOf K⟩], ys')
    rw [span_snoc t (frOf K i) i (by omega) hfi, ← hfl]
    obtain ⟨L, hL⟩ : ∃ L, (kidsIn t K).flatten = L := ⟨_, rfl⟩
    have hLl : L.length = i - frOf K i := by rw [← hL, hfl]; simp; omega
    rw [hL] at r1 ⊢
    have e1 : i + 1 - frOf K i = (i - frOf K i) + 1 := by omega
    have r2 : after (L ++ [t[i]'(by omega)]) (i - frOf K i) = some (K.map (fun x => ⟨x.fr - frOf K i, x.rt - frOf K i, x.dp⟩), y1) := by rw [after_front (a := L) (by omega)]; exact r1
    have hst : step (K.map (fun x => (⟨x.fr - frOf K i, x.rt - frOf K i, x.dp⟩ : Sp))) (i - frOf K i) (t[i]'(by omega)).kids = some ([⟨0, i - frOf K i, dpOf K⟩], ⟨0, i - frOf K i, dpOf K⟩) := by
      obtain ⟨_, hn⟩ := hK.num
      rw [hn, step_of (by omega) (by simp)]
      have hov : over (K.map (fun x => (⟨x.fr - frOf K i, x.rt - frOf K i, x.dp⟩ : Sp))) (i - frOf K i) = ⟨0, i - frOf K i, dpOf K⟩ := by
        unfold over
        have hd : dpOf (K.map (fun x => (⟨x.fr - frOf K i, x.rt - frOf K i, x.dp⟩ : Sp))) = dpOf K := by
          unfold dpOf
          rw [List.foldl_map]
        rw [hd]
        cases K with
        | nil => simp [frOf]
        | cons d D => simp [frOf]
      simp [hov]
    rw [e1]
    refine ⟨_, after_succ r2 (by simp; omega) (S' := [⟨0, i - frOf K i, dpOf K⟩]) (s := ⟨0, i - frOf K i, dpOf K⟩) ?_⟩
    rw [← hst]
    congr 1
    rw [List.getElem_append_right (by omega)]
    simp

/-- One term, and nothing beside it. -/
def One (a : List Nd) : Prop := ∃ s ys, after a a.length = some ([s], ys)

/-- How many terms more stand behind a list than ahead of it. -/
def wt (a : List Nd) : Int := (a.map fun n => 1 - n.kids).sum

theorem wt_append (a b : List Nd) : wt (a ++ b) = wt a + wt b := by simp [wt]

theorem after_wt {a : List Nd} : ∀ {k : Nat} {S ys : List Sp}, after a k = some (S, ys) → (S.length : Int) = wt (a.take k) := by
  intro k
  induction k with
  | zero => intro S ys h; simp only [after, Option.some.injEq, Prod.mk.injEq] at h; obtain ⟨rfl, rfl⟩ := h; rfl
  | succ k ih =>
    intro S' ys' h
    obtain ⟨S, ys, s, hk, ha, hs, rfl⟩ := after_inv h
    obtain ⟨h0, h1, rfl, _⟩ := step_some hs
    have h2 := ih ha
    rw [List.take_succ_eq_append_getElem hk, wt_append, ← h2]
    simp [wt]
    omega

theorem One.ne {a : List Nd} (h : One a) : a ≠ [] := by
  obtain ⟨s, ys, h⟩ := h
  intro e
  subst e
  simp [after] at h

theorem One.wt {a : List Nd} (h : One a) : wt a = 1 := by
  obtain ⟨s, ys, h⟩ := h
  have h1 := after_wt h
  rw [List.take_of_length_le (Nat.le_refl _)] at h1
  rw [← h1]; rfl

theorem One.tail {a : List Nd} (h : One a) (k : Nat) (h0 : 0 < k) (hk : k ≤ a.length) : YthioecjcnajmgaaGreatDoor.wt (a.drop k) ≤ 0 := by
  have hw := h.wt
  obtain ⟨s, ys, h⟩ := h
  obtain ⟨S, hS⟩ := after_part h k hk
  have h1 := after_wt hS
  have h2 := (after_fine hS).chain.2.2.2
  have h3 : YthioecjcnajmgaaGreatDoor.wt a = YthioecjcnajmgaaGreatDoor.wt (a.take k) + YthioecjcnajmgaaGreatDoor.wt (a.drop k) := by rw [← wt_append, List.take_append_drop]
  have h4 : S.length ≠ 0 := fun e => by have := h2 e; omega
  omega

/-- A term at the end of a list is told by the list. -/
theorem One.suffix {a b X Y : List Nd} (ha : One a) (hb : One b) (h : X ++ a = Y ++ b) : X = Y ∧ a = b := by
  have key : ∀ {a b X Y : List Nd}, One a → One b → X ++ a = Y ++ b → a.length ≤ b.length → a.length = b.length := by
    intro a b X Y ha hb h hl
    rcases Nat.lt_or_ge a.length b.length with hlt | hge
    · exfalso
      have hla : 0 < a.length := List.length_pos_iff.2 ha.ne
      have e : a = b.drop (b.length - a.length) := by
        have h1 : (X ++ a).drop X.length = (Y ++ b).drop X.length := by rw [h]
        have h2 := congrArg List.length h
        simp only [List.length_append] at h2
        rw [List.drop_left, List.drop_append, List.drop_of_length_le (by omega), List.nil_append] at h1
        have e3 : X.length - Y.length = b.length - a.length := by omega
        rw [e3] at h1
        exact h1
      have h3 := hb.tail (b.length - a.length) (by omega) (by omega)
      rw [← e, ha.wt] at h3
      omega
    · omega
  have hl : a.length = b.length := by
    rcases Nat.le_total a.length b.length with h1 | h1
    · exact key ha hb h h1
    · exact (key hb ha h.symm h1).symm
  exact List.append_inj' h hl

theorem flatten_snoc (A : List (List Nd)) (a : List Nd) : (A ++ [a]).flatten = A.flatten ++ a := by simp

/-- Terms one behind the other are told by what they make together. -/
theorem ones_same : ∀ {A B : List (List Nd)}, (∀ x ∈ A, One x) → (∀ x ∈ B, One x) → A.flatten = B.flatten → A = B := by
  intro A
  induction hn : A.length generalizing A with
  | zero =>
    intro B hA hB h
    have : A = [] := List.eq_nil_of_length_eq_zero hn
    subst this
    cases B with
    | nil => rfl
    | cons b B =>
      exfalso
      have h1 := (hB b (by simp)).ne
      simp only [List.flatten_nil, List.flatten_cons] at h
      have := congrArg List.length h
      simp only [List.length_nil, List.length_append] at this
      exact h1 (List.eq_nil_of_length_eq_zero (by omega))
  | succ n ih =>
    intro B hA hB h
    have hne : A ≠ [] := fun e => by simp [e] at hn
    obtain ⟨A', a, rfl⟩ : ∃ A' a, A = A' ++ [a] := ⟨_, _, (List.dropLast_concat_getLast hne).symm⟩
    have hb : B ≠ [] := by
      intro e
      subst e
      have h1 := (hA a (by simp)).ne
      simp only [flatten_snoc, List.flatten_nil, List.append_eq_nil_iff] at h
      exact h1 h.2
    obtain ⟨B', b, rfl⟩ : ∃ B' b, B = B' ++ [b] := ⟨_, _, (List.dropLast_concat_getLast hb).symm⟩
    rw [flatten_snoc, flatten_snoc] at h
    obtain ⟨h1, h2⟩ := (hA a (by simp)).suffix (hB b (by simp)) h
    have h3 := ih (A := A') (by simpa using hn) (fun x hx => hA x (by simp [hx])) (fun x hx => hB x (by simp [hx])) h1
    rw [h3, h2]

/-- The run over terms one behind the other. -/
theorem ones_run : ∀ {A : List (List Nd)}, (∀ x ∈ A, One x) → ∃ S ys, after A.flatten A.flatten.length = some (S, ys) ∧ S.length = A.length := by
  intro A
  induction hn : A.length generalizing A with
  | zero =>
    intro _
    have : A = [] := List.eq_nil_of_length_eq_zero hn
    subst this
    exact ⟨[], [], rfl, rfl⟩
  | succ n ih =>
    intro hA
    have hne : A ≠ [] := fun e => by simp [e] at hn
    obtain ⟨A', a, rfl⟩ : ∃ A' a, A = A' ++ [a] := ⟨_, _, (List.dropLast_concat_getLast hne).symm⟩
    obtain ⟨S, ys, h1, h2⟩ := ih (A := A') (by simpa using hn) (fun x hx => hA x (by simp [hx]))
    obtain ⟨s, y, h3⟩ := hA a (by simp)
    have h4 := after_append h1 h3
    rw [flatten_snoc, List.length_append, h4]
    exact ⟨_, _, rfl, by simp; simp at h2 hn; omega⟩

/-- Terms, and a node over them. -/
theorem One.join {A : List (List Nd)} {n : Nd} (hA : ∀ x ∈ A, One x) (hn : n.kids = (A.length : Int)) : One (A.flatten ++ [n]) := by
  obtain ⟨S, ys, h1, h2⟩ := ones_run hA
  have hst : step S A.flatten.length n.kids = some ([over S A.flatten.length], over S A.flatten.length) := by
    rw [hn, step_of (by omega) (by omega)]
    have e : S.length - (A.length : Int).toNat = 0 := by omega
    rw [e]
    simp
  have h3 : after (A.flatten ++ [n]) A.flatten.length = some (S, ys) := by rw [after_front (Nat.le_refl _)]; exact h1
  refine ⟨over S A.flatten.length, ys ++ [over S A.flatten.length], ?_⟩
  have h4 := after_succ h3 (by simp) (S' := [over S A.flatten.length]) (s := over S A.flatten.length) (by
    rw [List.getElem_append_right (Nat.le_refl _)]
    simp only [Nat.sub_self, List.getElem_singleton]
    exact hst)
  rw [List.length_append]
  exact h4

/-- A term inside a list is one. -/
theorem sub_one {t : List Nd} {S ys : List Sp} {n i : Nat} {s : Sp} (h : after t n = some (S, ys)) (hi : i < n) (hs : ys[i]? = some s) : One (span t s.fr i) := by
  obtain ⟨ys', h1⟩ := sub_run h i hi s hs
  have hle := after_le h
  refine ⟨⟨0, i - s.fr, s.dp⟩, ys', ?_⟩
  rw [span_length t s.fr i (by omega)]
  exact h1

/-- A type with its unknowns filled. -/
def fillN (θ : Int → List Nd) (n : Nd) : List Nd := if n.kind = 61 then θ n.num else [n]

def fill (θ : Int → List Nd) (a : List Nd) : List Nd := a.flatMap (fillN θ)

theorem fill_append (θ : Int → List Nd) (a b : List Nd) : fill θ (a ++ b) = fill θ a ++ fill θ b := by simp [fill]

theorem fill_flatten (θ : Int → List Nd) (A : List (List Nd)) : fill θ A.flatten = (A.map (fill θ)).flatten := by
  induction A with
  | nil => rfl
  | cons a A ih => rw [List.flatten_cons, fill_append, ih]; rfl

/-- The unknowns of a list. -/
def metas (a : List Nd) : List Int := (a.filter (fun n => n.kind == 61)).map (fun n => n.num)

theorem metas_append (a b : List Nd) : metas (a ++ b) = metas a ++ metas b := by simp [metas]

theorem metas_flatten_mem {A : List (List Nd)} {x : Int} : x ∈ metas A.flatten ↔ ∃ a ∈ A, x ∈ metas a := by
  induction A with
  | nil => simp [metas]
  | cons a A ih => rw [List.flatten_cons, metas_append, List.mem_append, ih]; simp

theorem fill_congr {θ θ' : Int → List Nd} {a : List Nd} (h : ∀ x ∈ metas a, θ x = θ' x) : fill θ a = fill θ' a := by
  induction a with
  | nil => rfl
  | cons n a ih =>
    have e : ∀ θ, fill θ (n :: a) = fillN θ n ++ fill θ a := fun θ => by simp [fill]
    rw [e, e]
    have h1 : fill θ a = fill θ' a := ih (fun x hx => h x (by
      have : metas (n :: a) = metas [n] ++ metas a := metas_append [n] a
      rw [this]; exact List.mem_append_right _ hx))
    rw [h1]
    congr 1
    unfold fillN
    by_cases hk : n.kind = 61
    · rw [if_pos hk, if_pos hk]
      exact h n.num (by simp [metas, hk])
    · rw [if_neg hk, if_neg hk]

/-- Unknowns are leaves. -/
def Leafy (a : List Nd) : Prop := ∀ n ∈ a, n.kind = 61 → n.kids = 0

theorem Leafy.sub {a : List Nd} (h : Leafy a) (f i : Nat) : Leafy (span a f i) := by
  intro n hn
  exact h n (List.mem_of_mem_take (List.mem_of_mem_drop hn))

theorem fill_run {θ : Int → List Nd} (hθ : ∀ x, One (θ x)) {a : List Nd} (hl : Leafy a) :
    ∀ {k : Nat} {S ys : List Sp}, after a k = some (S, ys) → ∃ S' ys', after (fill θ (a.take k)) (fill θ (a.take k)).length = some (S', ys') ∧ S'.length = S.length := by
  intro k
  induction k with
  | zero => intro S ys h; simp only [after, Option.some.injEq, Prod.mk.injEq] at h; obtain ⟨rfl, rfl⟩ := h; exact ⟨[], [], rfl, rfl⟩
  | succ k ih =>
    intro S' ys' h
    obtain ⟨S, ys, s, hk, ha, hs, rfl⟩ := after_inv h
    obtain ⟨h0, h1, rfl, _⟩ := step_some hs
    obtain ⟨S1, y1, r1, l1⟩ := ih ha
    rw [List.take_succ_eq_append_getElem hk, fill_append]
    have e : fill θ [a[k]] = fillN θ a[k] := by simp [fill]
    rw [e]
    by_cases h61 : a[k].kind = 61
    · have hz := hl a[k] (List.getElem_mem hk) h61
      obtain ⟨s2, y2, r2⟩ := hθ a[k].num
      have e2 : fillN θ a[k] = θ a[k].num := by rw [fillN, if_pos h61]
      rw [e2, List.length_append, after_append r1 r2]
      refine ⟨_, _, rfl, ?_⟩
      simp [hz]
      omega
    · have e2 : fillN θ a[k] = [a[k]] := by rw [fillN, if_neg h61]
      rw [e2]
      have r3 : after (fill θ (a.take k) ++ [a[k]]) (fill θ (a.take k)).length = some (S1, y1) := by rw [after_front (Nat.le_refl _)]; exact r1
      have hst := step_of (S := S1) (i := (fill θ (a.take k)).length) (n := a[k].kids) h0 (by omega)
      have r4 := after_succ r3 (by simp) (by
        rw [List.getElem_append_right (Nat.le_refl _)]
        simp only [Nat.sub_self, List.getElem_singleton]
        exact hst)
      rw [List.length_append]
      refine ⟨_, _, r4, ?_⟩
      simp
      omega

theorem fill_one {θ : Int → List Nd} (hθ : ∀ x, One (θ x)) {a : List Nd} (hl : Leafy a) (ha : One a) : One (fill θ a) := by
  obtain ⟨s, ys, h⟩ := ha
  obtain ⟨S', ys', h1, h2⟩ := fill_run hθ hl h
  rw [List.take_of_length_le (Nat.le_refl _)] at h1
  match S', h2 with
  | [s'], _ => exact ⟨s', ys', h1⟩

def nums (bs : List (Int × List Nd)) : List Int := bs.map Prod.fst

/-- A filling that gives what the binds say. -/
def Ext (θ : Int → List Nd) (bs : List (Int × List Nd)) : Prop := ∀ p ∈ bs, θ p.1 = p.2

/-- From binds bs on, G matches T by the binds bs'. -/
structure MatchOk (bs : List (Int × List Nd)) (G T : List Nd) (bs' : List (Int × List Nd)) : Prop where
  pre : ∀ p ∈ bs, p ∈ bs'
  nodup : (nums bs').Nodup
  one : ∀ p ∈ bs', One p.2
  mem : ∀ x, x ∈ nums bs' ↔ x ∈ nums bs ∨ x ∈ metas G
  fills : ∀ θ, Ext θ bs' → fill θ G = T
  force : ∀ θ, (∀ x, One (θ x)) → Ext θ bs → fill θ G = T → Ext θ bs'

def MatchNo (bs : List (Int × List Nd)) (G T : List Nd) : Prop := ∀ θ, (∀ x, One (θ x)) → Ext θ bs → fill θ G ≠ T

theorem MatchOk.step {bs bs1 bs2 : List (Int × List Nd)} {G T A B : List Nd} (h1 : MatchOk bs G T bs1) (h2 : MatchOk bs1 A B bs2) (hA : One A) (hl : Leafy A) (hB : One B) : MatchOk bs (G ++ A) (T ++ B) bs2 := by
  refine ⟨fun p hp => h2.pre p (h1.pre p hp), h2.nodup, h2.one, ?_, ?_, ?_⟩
  · intro x
    rw [h2.mem, h1.mem, metas_append, List.mem_append, or_assoc]
  · intro θ h
    rw [fill_append, h2.fills θ h, h1.fills θ (fun p hp => h (p) (h2.pre p hp))]
  · intro θ hθ h e
    rw [fill_append] at e
    obtain ⟨e1, e2⟩ := (fill_one hθ hl hA).suffix hB e
    exact h2.force θ hθ (h1.force θ hθ h e1) e2

theorem MatchOk.over {bs bs' : List (Int × List Nd)} {G T : List Nd} {n : Nd} (h : MatchOk bs G T bs') (hk : n.kind ≠ 61) : MatchOk bs (G ++ [n]) (T ++ [n]) bs' := by
  have hf : ∀ θ, fill θ [n] = [n] := fun θ => by simp [fill, fillN, hk]
  refine ⟨h.pre, h.nodup, h.one, ?_, ?_, ?_⟩
  · intro x
    have hm : metas [n] = [] := by simp [metas, hk]
    rw [h.mem, metas_append, hm, List.append_nil]
  · intro θ hE
    rw [fill_append, hf, h.fills θ hE]
  · intro θ hθ hE e
    rw [fill_append, hf] at e
    exact h.force θ hθ hE (List.append_inj' e rfl).1

/-- A kid that can't be matched: the whole can't. -/
theorem MatchNo.kid {bs bs1 : List (Int × List Nd)} {A B : List (List Nd)} {n : Nd} {k : Nat} (hk : n.kind ≠ 61) (hA : ∀ a ∈ A, One a) (hl : ∀ a ∈ A, Leafy a) (hB : ∀ b ∈ B, One b) (hka : k < A.length) (hkb : k < B.length)
    (h1 : MatchOk bs (A.take k).flatten (B.take k).flatten bs1) (h2 : MatchNo bs1 A[k] B[k]) : MatchNo bs (A.flatten ++ [n]) (B.flatten ++ [n]) := by
  intro θ hθ hE e
  have hf : fill θ [n] = [n] := by simp [fill, fillN, hk]
  rw [fill_append, hf, fill_flatten] at e
  have e1 := (List.append_inj' e rfl).1
  have e2 : A.map (fill θ) = B := ones_same (by
    intro x hx
    obtain ⟨a, ha, rfl⟩ := List.mem_map.1 hx
    exact fill_one hθ (hl a ha) (hA a ha)) hB e1
  have e3 : fill θ A[k] = B[k] := by
    have : (A.map (fill θ))[k]'(by simpa using hka) = B[k] := by simp only [e2]
    rw [← this]
    simp
  refine h2 θ hθ (h1.force θ hθ hE ?_) e3
  rw [fill_flatten, List.map_take, e2]

/-- A term's nodes: its kids', and its root. -/
theorem span_kids {t : List Nd} {S ys : List Sp} {n i : Nat} {s : Sp} (h : after t n = some (S, ys)) (hi : i < n) (hs : ys[i]? = some s) (ht : i < t.length) :
    ∃ K, KidsAt t ys i K ∧ span t s.fr i = (kidsIn t K).flatten ++ [t[i]] ∧ (∀ a ∈ kidsIn t K, One a) := by
  obtain ⟨K, hK, ho⟩ := kids_at2 h i hi
  rw [ho] at hs
  simp only [Option.some.injEq] at hs
  subst hs
  have hle := after_le h
  have hc := kids_con hK
  have hfi : frOf K i ≤ i := hc.le
  refine ⟨K, hK, ?_, ?_⟩
  · show span t (frOf K i) i = _
    rw [span_snoc t (frOf K i) i ht hfi, con_flat hc (by omega)]
  · intro a ha
    obtain ⟨x, hx, rfl⟩ := List.mem_map.1 ha
    obtain ⟨r, hr, rfl⟩ := List.getElem_of_mem hx
    have hm := hK.mem r hr
    exact sub_one h (by omega) hm.1

/-- Two fillings of one term that are the same agree at its unknowns. -/
theorem fill_inj {θ θ' : Int → List Nd} (hθ : ∀ x, One (θ x)) (hθ' : ∀ x, One (θ' x)) {t : List Nd} (hl : Leafy t) {S ys : List Sp} {n : Nat} (h : after t n = some (S, ys)) :
    ∀ i, i < n → ∀ s, ys[i]? = some s → fill θ (span t s.fr i) = fill θ' (span t s.fr i) → ∀ x ∈ metas (span t s.fr i), θ x = θ' x := by
  intro i
  induction i using Nat.strongRecOn with
  | ind i ih =>
    intro hi s hs e x hx
    have hle := after_le h
    have hit : i < t.length := by omega
    obtain ⟨K, hK, hsp, hO⟩ := span_kids h hi hs hit
    rw [hsp] at e hx
    by_cases h61 : t[i].kind = 61
    · have hz := hl t[i] (List.getElem_mem hit) h61
      obtain ⟨_, hn⟩ := hK.num
      have hK0 : K = [] := List.eq_nil_of_length_eq_zero (by omega)
      subst hK0
      have hf : ∀ θ, fill θ [t[i]] = θ t[i].num := fun θ => by simp [fill, fillN, h61]
      simp only [kidsIn, List.map_nil, List.flatten_nil, List.nil_append] at e hx
      rw [hf, hf] at e
      simp [metas, h61] at hx
      subst hx
      exact e
    · have hf : ∀ θ, fill θ [t[i]] = [t[i]] := fun θ => by simp [fill, fillN, h61]
      rw [fill_append, fill_append, hf, hf, fill_flatten, fill_flatten] at e
      have e1 := (List.append_inj' e rfl).1
      have hL : ∀ a ∈ kidsIn t K, Leafy a := by
        intro a ha
        obtain ⟨y, hy, rfl⟩ := List.mem_map.1 ha
        exact hl.sub _ _
      have e2 : (kidsIn t K).map (fill θ) = (kidsIn t K).map (fill θ') := ones_same (by
        intro y hy
        obtain ⟨a, ha, rfl⟩ := List.mem_map.1 hy
        exact fill_one hθ (hL a ha) (hO a ha)) (by
        intro y hy
        obtain ⟨a, ha, rfl⟩ := List.mem_map.1 hy
        exact fill_one hθ' (hL a ha) (hO a ha)) e1
      have hm : metas [t[i]] = [] := by simp [metas, h61]
      rw [metas_append, hm, List.append_nil, metas_flatten_mem] at hx
      obtain ⟨a, ha, hxa⟩ := hx
      have e3 : fill θ a = fill θ' a := List.map_inj_left.1 e2 a ha
      obtain ⟨y, hy, rfl⟩ := List.mem_map.1 ha
      obtain ⟨r, hr, rfl⟩ := List.getElem_of_mem hy
      have hmr := hK.mem r hr
      exact ih K[r].rt hmr.2.2 (by omega) K[r] hmr.1 e3 x hxa

/-- Rising, each once. -/
def Up (xs : List Int) : Prop := xs.Pairwise (· < ·)

/-- What Instance's binds are. -/
structure InstOk (g t : List Nd) (bs : List (Int × List Nd)) : Prop where
  up : Up (nums bs)
  mem : ∀ x, x ∈ nums bs ↔ x ∈ metas g
  one : ∀ p ∈ bs, One p.2
  fills : ∀ θ, Ext θ bs → fill θ g = t

def InstNo (g t : List Nd) : Prop := ∀ θ, (∀ x, One (θ x)) → fill θ g ≠ t

/-- The filling that binds say; a leaf beyond them. -/
def pick (bs : List (Int × List Nd)) (x : Int) : List Nd := match bs.find? (fun p => p.1 == x) with
  | some p => p.2
  | none => [Nd.zero]

theorem pick_one {bs : List (Int × List Nd)} (h : ∀ p ∈ bs, One p.2) (x : Int) : One (pick bs x) := by
  unfold pick
  cases hf : bs.find? (fun p => p.1 == x) with
  | some p => exact h p (List.mem_of_find?_eq_some hf)
  | none => exact ⟨_, _, rfl⟩

theorem pick_ext {bs : List (Int × List Nd)} (h : (nums bs).Nodup) : Ext (pick bs) bs := by
  intro p hp
  unfold pick
  induction bs with
  | nil => simp at hp
  | cons b bs ih =>
    simp only [nums, List.map_cons, List.nodup_cons] at h
    rcases List.mem_cons.1 hp with rfl | hp
    · simp
    · have hne : b.1 ≠ p.1 := fun e => h.1 (by rw [e]; exact List.mem_map.2 ⟨p, hp, rfl⟩)
      have hb : (b.1 == p.1) = false := by simpa using hne
      rw [List.find?_cons, hb]
      exact ih h.2 hp

theorem up_nodup {xs : List Int} (h : Up xs) : xs.Nodup := List.Pairwise.imp (fun h => by omega) h

end Go.Proofs.YthioecjcnajmgaaGreatDoor

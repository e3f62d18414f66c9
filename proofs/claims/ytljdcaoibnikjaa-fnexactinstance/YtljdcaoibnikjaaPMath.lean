import Derived.Test.YtljdcaoibnikjaaWAJ
namespace Go.Proofs.Ytljdcaoibnikjaa

/-- A term's place, moved by a. -/
def sh (a : Nat) (s : Sp) : Sp := ⟨s.fr + a, s.rt + a, s.dp⟩

theorem dpOf_sh (a : Nat) (K : List Sp) : dpOf (K.map (sh a)) = dpOf K := by
  unfold dpOf
  rw [List.foldl_map]
  rfl

theorem over_sh (a i : Nat) (K : List Sp) : over (K.map (sh a)) (i + a) = sh a (over K i) := by
  unfold over
  rw [dpOf_sh]
  cases K <;> simp [sh, frOf]

/-- A step on a greater stack. -/
theorem step_front {S S' A : List Sp} {s : Sp} {i a : Nat} {n : Int} (h : step S i n = some (S', s)) : step (A ++ S.map (sh a)) (i + a) n = some (A ++ S'.map (sh a), sh a s) := by
  obtain ⟨h0, h1, h2, h3⟩ := step_some h
  rw [step_of h0 (by simp; omega)]
  have e1 : (A ++ S.map (sh a)).length - n.toNat = A.length + (S.length - n.toNat) := by simp; omega
  rw [e1]
  have e2 : (A ++ S.map (sh a)).take (A.length + (S.length - n.toNat)) = A ++ (S.take (S.length - n.toNat)).map (sh a) := by
    rw [List.take_append, List.take_of_length_le (by omega), List.map_take]
    congr 2
    omega
  have e3 : (A ++ S.map (sh a)).drop (A.length + (S.length - n.toNat)) = (S.drop (S.length - n.toNat)).map (sh a) := by
    rw [List.drop_append, List.drop_of_length_le (by omega), List.map_drop, List.nil_append]
    congr 1
    omega
  rw [e2, e3, over_sh, ← h3, h2]
  simp

/-- The run over a part at the front is the whole's. -/
theorem after_front {a b : List Nd} : ∀ {k : Nat}, k ≤ a.length → after (a ++ b) k = after a k := by
  intro k
  induction k with
  | zero => intro _; rfl
  | succ k ih =>
    intro hk
    simp only [after, ih (by omega)]
    rw [List.getElem?_append_left (by omega)]

/-- Two runs one behind the other. -/
theorem after_append {a b : List Nd} {A ya : List Sp} (ha : after a a.length = some (A, ya)) :
    ∀ {k : Nat} {S ys : List Sp}, after b k = some (S, ys) → after (a ++ b) (a.length + k) = some (A ++ S.map (sh a.length), ya ++ ys.map (sh a.length)) := by
  intro k
  induction k with
  | zero =>
    intro S ys h
    simp only [after, Option.some.injEq, Prod.mk.injEq] at h
    obtain ⟨rfl, rfl⟩ := h
    rw [Nat.add_zero, after_front (Nat.le_refl _), ha]
    simp
  | succ k ih =>
    intro S' ys' h
    obtain ⟨S, ys, s, hk, hb, hs, rfl⟩ := after_inv h
    have h1 := ih hb
    have h2 := step_front (A := A) (a := a.length) hs
    have hlt : a.length + k < (a ++ b).length := by simp; omega
    have hg : (a ++ b)[a.length + k] = b[k] := by rw [List.getElem_append_right (by omega)]; simp
    rw [← Nat.add_assoc, after_succ h1 hlt (S' := A ++ S'.map (sh a.length)) (s := sh a.length s) (by rw [hg, Nat.add_comm]; exact h2)]
    simp

/-- Terms that stand one behind the other, from f up to e. -/
def Con : Nat → Nat → List Sp → Prop
  | f, e, [] => f = e
  | f, e, d :: D => d.fr = f ∧ d.fr ≤ d.rt ∧ Con (d.rt + 1) e D

theorem Con.le : ∀ {D : List Sp} {f e : Nat}, Con f e D → f ≤ e := by
  intro D
  induction D with
  | nil => intro f e h; exact Nat.le_of_eq h
  | cons d D ih =>
    intro f e h
    obtain ⟨h1, h2, h3⟩ := h
    have := ih h3
    omega

theorem Con.ge : ∀ {D : List Sp} {f e : Nat}, Con f e D → ∀ x ∈ D, f ≤ x.fr ∧ x.fr ≤ x.rt ∧ x.rt < e := by
  intro D
  induction D with
  | nil => intro f e h x hx; simp at hx
  | cons d D ih =>
    intro f e h x hx
    obtain ⟨h1, h2, h3⟩ := h
    rcases List.mem_cons.1 hx with rfl | hx
    · have := h3.le; omega
    · have := ih h3 x hx; omega

/-- The kids of a node stand one behind the other. -/
theorem kids_con {t : List Nd} {ys K : List Sp} {i : Nat} (h : KidsAt t ys i K) : Con (frOf K i) i K := by
  have key : ∀ n r, r + n = K.length → Con (if h : r < K.length then K[r].fr else i) i (K.drop r) := by
    intro n
    induction n with
    | zero =>
      intro r hr
      rw [dif_neg (by omega), List.drop_of_length_le (by omega)]
      rfl
    | succ n ih =>
      intro r hr
      have hlt : r < K.length := by omega
      rw [dif_pos hlt, List.drop_eq_getElem_cons hlt]
      refine ⟨rfl, (h.mem r hlt).2.1, ?_⟩
      have h2 := ih (r + 1) (by omega)
      by_cases hl : r + 1 < K.length
      · rw [dif_pos hl] at h2
        have h3 := h.next (r + 1) (by omega) hl
        simp only [Nat.add_sub_cancel] at h3
        rw [h3]
        exact h2
      · rw [dif_neg hl] at h2
        have h3 := h.last (by omega)
        have e : K.length - 1 = r := by omega
        simp only [e] at h3
        rw [h3]
        exact h2
  have h1 := key K.length 0 (by omega)
  rw [List.drop_zero] at h1
  cases K with
  | nil => exact h1
  | cons d D => exact h1

/-- What stands from f up to e. -/
theorem con_flat {t : List Nd} : ∀ {D : List Sp} {f e : Nat}, Con f e D → e ≤ t.length → (kidsIn t D).flatten = (t.take e).drop f := by
  intro D
  induction D with
  | nil => intro f e h he; cases h; simp [kidsIn]
  | cons d D ih =>
    intro f e h he
    obtain ⟨h1, h2, h3⟩ := h
    have h4 := ih h3 he
    have h5 := h3.le
    have e1 : kidsIn t (d :: D) = span t d.fr d.rt :: kidsIn t D := rfl
    rw [e1, List.flatten_cons, h4]
    unfold span
    subst h1
    have e2 : (t.take e).drop d.fr = (((t.take e).take (d.rt + 1)).drop d.fr) ++ (t.take e).drop (d.rt + 1) := by
      conv => lhs; rw [← List.take_append_drop (d.rt + 1) (t.take e)]
      rw [List.drop_append_of_le_length (by simp; omega)]
    rw [e2, List.take_take, Nat.min_eq_left h5]

/-- The run over kids that each are whole. -/
theorem con_run {t : List Nd} : ∀ {D : List Sp} {f e : Nat}, Con f e D → e ≤ t.length → (∀ x ∈ D, ∃ ys', after (span t x.fr x.rt) (x.rt + 1 - x.fr) = some ([⟨0, x.rt - x.fr, x.dp⟩], ys')) →
    ∃ ys', after (kidsIn t D).flatten (e - f) = some (D.map (fun x => ⟨x.fr - f, x.rt - f, x.dp⟩), ys') := by
  intro D
  induction D with
  | nil => intro f e h he _; cases h; exact ⟨[], by simp [kidsIn, after]⟩
  | cons d D ih =>
    intro f e h he hx
    obtain ⟨h1, h2, h3⟩ := h
    obtain ⟨y1, r1⟩ := hx d (by simp)
    obtain ⟨y2, r2⟩ := ih h3 he (fun x hxx => hx x (List.mem_cons_of_mem _ hxx))
    have h5 := h3.le
    have hl : (span t d.fr d.rt).length = d.rt + 1 - d.fr := span_length t d.fr d.rt (by omega)
    have e1 : kidsIn t (d :: D) = span t d.fr d.rt :: kidsIn t D := rfl
    rw [← hl] at r1
    have r3 := after_append r1 r2
    rw [e1, List.flatten_cons]
    have e2 : (span t d.fr d.rt).length + (e - (d.rt + 1)) = e - f := by omega
    rw [e2] at r3
    refine ⟨y1 ++ y2.map (sh (span t d.fr d.rt).length), r3.trans ?_⟩
    congr 2
    simp only [List.map_cons, List.map_map, List.singleton_append, List.cons.injEq, Sp.mk.injEq, and_true]
    refine ⟨⟨by omega, by omega⟩, ?_⟩
    apply List.map_congr_left
    intro x hxx
    have := h3.ge x hxx
    simp only [Function.comp, sh, Sp.mk.injEq, and_true]
    omega

/-- The kids of a node, and what its term is over them. -/
theorem kids_at2 {t : List Nd} {S ys : List Sp} {n : Nat} (h : after t n = some (S, ys)) (i : Nat) (hi : i < n) : ∃ K, KidsAt t ys i K ∧ ys[i]? = some (over K i) := by
  obtain ⟨Si, hSi⟩ := after_part h i (by omega)
  obtain ⟨Sj, hSj⟩ := after_part h (i + 1) (by omega)
  obtain ⟨S0, ys0, s, hk, ha, hs, he⟩ := after_inv hSj
  rw [hSi] at ha
  simp only [Option.some.injEq, Prod.mk.injEq] at ha
  obtain ⟨rfl, rfl⟩ := ha
  have hf := after_fine hSi
  have hfn := (after_fine h).len
  obtain ⟨h0, h1, _, hov⟩ := step_some hs
  obtain ⟨f, hf'⟩ : ∃ f, f = Si.length - t[i].kids.toNat := ⟨_, rfl⟩
  rw [← hf'] at hov
  have hlen : (Si.drop f).length = t[i].kids.toNat := by simp; omega
  have hget : ∀ r (h : r < (Si.drop f).length), (Si.drop f)[r] = Si[f + r]'(by simp at h; omega) := fun r h => List.getElem_drop
  have hyi : ys[i]? = some s := by
    have h5 : (ys.take (i + 1))[i]? = some s := by
      rw [he, List.getElem?_append_right (by simp; omega)]
      have h9 : i - (ys.take i).length = 0 := by simp; omega
      rw [h9]
      rfl
    rw [List.getElem?_take, if_pos (by omega)] at h5
    exact h5
  refine ⟨Si.drop f, ⟨⟨hk, by rw [hlen]; omega⟩, ?_, ?_, ?_, ?_, by have := chain_len hf.chain; simp; omega⟩, by rw [hyi, hov]⟩
  · intro hp
    have h2 := (hf.chain.2.2.1 (by simp at hp; omega)).2
    rw [hget]
    have e : f + ((Si.drop f).length - 1) = Si.length - 1 := by simp at hp ⊢; omega
    simp only [e]
    exact h2
  · intro r hr hr'
    rw [hget, hget]
    have h2 := hf.chain.2.1 (f + (r - 1)) (by simp at hr'; omega)
    have e : f + (r - 1) + 1 = f + r := by omega
    simp only [e] at h2
    exact h2
  · intro r hr
    rw [hget]
    have hlt : f + r < Si.length := by simp at hr; omega
    have h2 := hf.mem (f + r) hlt
    have h3 := hf.chain.1 (f + r) hlt
    have h4 := (List.getElem?_eq_some_iff.1 h2).1
    refine ⟨?_, h3.1, h3.2⟩
    rw [List.getElem?_take] at h2
    rw [if_pos (by simp at h4; omega)] at h2
    exact h2
  · refine ⟨by omega, ?_⟩
    obtain ⟨_, h6⟩ := List.getElem?_eq_some_iff.1 hyi
    rw [h6, hov]
    rfl

theorem span_snoc (t : List Nd) (f i : Nat) (hi : i < t.length) (hf : f ≤ i) : span t f i = (t.take i).drop f ++ [t[i]] := by
  unfold span
  rw [List.take_succ_eq_append_getElem hi, List.drop_append_of_le_length (by simp; omega)]

/-- The run over a term's own nodes. -/
theorem sub_run {t : List Nd} {S ys : List Sp} {n : Nat} (h : after t n = some (S, ys)) :
    ∀ i, i < n → ∀ s, ys[i]? = some s → ∃ ys', after (span t s.fr i) (i + 1 - s.fr) = some ([⟨0, i - s.fr, s.dp⟩], ys') := by
  intro i
  induction i using Nat.strongRecOn with
  | ind i ih =>
    intro hi s hs
    obtain ⟨K, hK, ho⟩ := kids_at2 h i hi
    rw [ho] at hs
    simp only [Option.some.injEq] at hs
    subst hs
    have hle := after_le h
    have hc := kids_con hK
    have hfi : frOf K i ≤ i := hc.le
    obtain ⟨y1, r1⟩ := con_run (t := t) hc (by omega) (fun x hx => by
      obtain ⟨r, hr, rfl⟩ := List.getElem_of_mem hx
      have hm := hK.mem r hr
      exact ih K[r].rt hm.2.2 (by omega) K[r] hm.1)
    have hfl := con_flat (t := t) hc (by omega)
    show ∃ ys', after (span t (frOf K i) i) (i + 1 - frOf K i) = some ([⟨0, i - frOf K i, dpOf K⟩], ys')
    rw [span_snoc t (frOf K i) i (by omega) hfi, ← hfl]
    obtain ⟨L, hL⟩ : ∃ L, (kidsIn t K).flatten = L := ⟨_, rfl⟩
    have hLl : L.length = i - frOf K i := by rw [← hL, hfl]; simp; omega
    rw [hL] at r1 ⊢
    have e1 : i + 1 - frOf K i = (i - frOf K i) + 1 := by omega
    have r2 : after (L ++ [t[i]'(by omega)]) (i - frOf K i) = some (K.map (fun x => ⟨x.fr - frOf K i, x.rt - frOf K i, x.dp⟩), y1) := by rw [after_front (a := L) (by omega)]; exact r1
    have hst : step (K.map (fun x => (⟨x.fr - frOf K i, x.rt - frOf K i, x.dp⟩ : Sp))) (i - frOf K i) (t[i]'(by omega)).kids = some ([⟨0, i - frOf K i, dpOf K⟩], ⟨0, i - frOf K i, dpOf K⟩) := by
      obtain ⟨_, hn⟩ := hK.num
      rw [hn, step_of (by omega) (by simp)]
      have hov : over (K.map (fun x => (⟨x.fr - frOf K i, x.rt - frOf K i, x.dp⟩ : Sp))) (i - frOf K i) = ⟨0, i - frOf K i, dpOf K⟩ := by
        unfold over
        have hd : dpOf (K.map (fun x => (⟨x.fr - frOf K i, x.rt - frOf K i, x.dp⟩ : Sp))) = dpOf K := by
          unfold dpOf
          rw [List.foldl_map]
        rw [hd]
        cases K with
        | nil => simp [frOf]
        | cons d D => simp [frOf]
      simp [hov]
    rw [e1]
    refine ⟨_, after_succ r2 (by simp; omega) (S' := [⟨0, i - frOf K i, dpOf K⟩]) (s := ⟨0, i - frOf K i, dpOf K⟩) ?_⟩
    rw [← hst]
    congr 1
    rw [List.getElem_append_right (by omega)]
    simp

end Go.Proofs.Ytljdcaoibnikjaa

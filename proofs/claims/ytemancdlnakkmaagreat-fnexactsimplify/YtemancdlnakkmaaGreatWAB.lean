import Derived.Test.YtemancdlnakkmaaGreatWAA
namespace Go.Proofs.YtemancdlnakkmaaGreat
structure Sp where
  fr : Nat
  rt : Nat
  dp : Nat
def dpOf (kids : List Sp) : Nat := kids.foldl (fun d k => max d (k.dp + 1)) 1
def frOf (kids : List Sp) (i : Nat) : Nat := match kids with
  | [] => i
  | k :: _ => k.fr
def over (kids : List Sp) (i : Nat) : Sp := ⟨frOf kids i, i, dpOf kids⟩
def step (S : List Sp) (i : Nat) (n : Int) : Option (List Sp × Sp) :=
  if n < 0 ∨ (S.length : Int) < n then none
  else some (S.take (S.length - n.toNat) ++ [over (S.drop (S.length - n.toNat)) i], over (S.drop (S.length - n.toNat)) i)
def after (t : List Nd) : Nat → Option (List Sp × List Sp)
  | 0 => some ([], [])
  | k + 1 => match after t k with
    | none => none
    | some (S, ys) => match t[k]? with
      | none => none
      | some x => match step S k x.kids with
        | none => none
        | some (S', s) => some (S', ys ++ [s])
theorem after_succ {t : List Nd} {k : Nat} {S ys S' : List Sp} {s : Sp} (h : after t k = some (S, ys)) (hk : k < t.length) (hs : step S k t[k].kids = some (S', s)) : after t (k + 1) = some (S', ys ++ [s]) := by
  simp only [after, h, List.getElem?_eq_getElem hk, hs]
theorem after_fail {t : List Nd} {k : Nat} {S ys : List Sp} (h : after t k = some (S, ys)) (hk : k < t.length) (hs : step S k t[k].kids = none) : after t (k + 1) = none := by
  simp only [after, h, List.getElem?_eq_getElem hk, hs]
theorem after_none {t : List Nd} {k : Nat} (h : after t k = none) : ∀ m, k ≤ m → after t m = none := by
  intro m hm
  induction m with
  | zero => have : k = 0 := by omega
            subst this; exact h
  | succ m ih =>
    by_cases e : k = m + 1
    · subst e; exact h
    · simp only [after, ih (by omega)]
theorem after_inv {t : List Nd} {k : Nat} {S' ys' : List Sp} (h : after t (k + 1) = some (S', ys')) : ∃ S ys s, ∃ hk : k < t.length, after t k = some (S, ys) ∧ step S k t[k].kids = some (S', s) ∧ ys' = ys ++ [s] := by
  simp only [after] at h
  cases ha : after t k with
  | none => simp [ha] at h
  | some p =>
    obtain ⟨S, ys⟩ := p
    simp only [ha] at h
    by_cases hk : k < t.length
    · rw [List.getElem?_eq_getElem hk] at h
      simp only at h
      cases hs : step S k t[k].kids with
      | none => simp [hs] at h
      | some q =>
        obtain ⟨S2, s⟩ := q
        simp only [hs, Option.some.injEq, Prod.mk.injEq] at h
        obtain ⟨rfl, rfl⟩ := h
        exact ⟨S, ys, s, hk, rfl, hs, rfl⟩
    · rw [List.getElem?_eq_none (by omega)] at h
      simp at h
theorem step_some {S : List Sp} {i : Nat} {n : Int} {S' : List Sp} {s : Sp} (h : step S i n = some (S', s)) :
    0 ≤ n ∧ n ≤ S.length ∧ S' = S.take (S.length - n.toNat) ++ [s] ∧ s = over (S.drop (S.length - n.toNat)) i := by
  unfold step at h
  split at h
  · simp at h
  · simp only [Option.some.injEq, Prod.mk.injEq] at h
    obtain ⟨h1, h2⟩ := h
    subst h2
    exact ⟨by omega, by omega, h1.symm, rfl⟩
theorem step_of {S : List Sp} {i : Nat} {n : Int} (h0 : 0 ≤ n) (h1 : n ≤ S.length) : step S i n = some (S.take (S.length - n.toNat) ++ [over (S.drop (S.length - n.toNat)) i], over (S.drop (S.length - n.toNat)) i) := by
  unfold step
  rw [if_neg (by omega)]
theorem step_none {S : List Sp} {i : Nat} {n : Int} (h : n < 0 ∨ (S.length : Int) < n) : step S i n = none := by
  unfold step
  rw [if_pos h]
def Chain (S : List Sp) (k : Nat) : Prop :=
  (∀ j (h : j < S.length), S[j].fr ≤ S[j].rt ∧ S[j].rt < k) ∧ (∀ j (h : j + 1 < S.length), S[j].rt + 1 = S[j + 1].fr) ∧ (∀ h : 0 < S.length, S[0].fr = 0 ∧ (S[S.length - 1]'(by omega)).rt + 1 = k) ∧ (S.length = 0 → k = 0)
structure Fine (k : Nat) (S ys : List Sp) : Prop where
  len : ys.length = k
  root : ∀ i (h : i < ys.length), ys[i].rt = i ∧ ys[i].fr ≤ i ∧ 1 ≤ ys[i].dp ∧ ys[i].dp ≤ i + 1
  chain : Chain S k
  mem : ∀ j (h : j < S.length), ys[S[j].rt]? = some S[j]
theorem dpOf_le (kids : List Sp) (b : Nat) (h : ∀ x ∈ kids, x.dp ≤ b) : 1 ≤ dpOf kids ∧ dpOf kids ≤ b + 1 := by
  unfold dpOf
  have key : ∀ (l : List Sp) (d : Nat), (∀ x ∈ l, x.dp ≤ b) → 1 ≤ d → d ≤ b + 1 → 1 ≤ l.foldl (fun d k => max d (k.dp + 1)) d ∧ l.foldl (fun d k => max d (k.dp + 1)) d ≤ b + 1 := by
    intro l
    induction l with
    | nil => intro d _ h1 h2; exact ⟨h1, h2⟩
    | cons x l ih =>
      intro d hl h1 h2
      have hx := hl x (by simp)
      exact ih (max d (x.dp + 1)) (fun y hy => hl y (by simp [hy])) (by omega) (by omega)
  exact key kids 1 h (by omega) (by omega)
theorem Fine.snoc {k : Nat} {S ys : List Sp} {n : Int} {S' : List Sp} {s : Sp} (hf : Fine k S ys) (hstep : step S k n = some (S', s)) : Fine (k + 1) S' (ys ++ [s]) := by
  obtain ⟨h0, h1, rfl, hs⟩ := step_some hstep
  clear hstep
  obtain ⟨m, hm⟩ : ∃ m, m = S.length - n.toNat := ⟨_, rfl⟩
  rw [← hm] at hs ⊢
  have hmS : m ≤ S.length := by omega
  have hrt : s.rt = k := by rw [hs]; rfl
  have hlt : (S.take m).length = m := by simp; omega
  have hfr : s.fr = if h : m < S.length then S[m].fr else k := by
    rw [hs]
    show frOf (S.drop m) k = _
    split
    · rename_i h
      rw [List.drop_eq_getElem_cons h]
      rfl
    · rename_i h
      rw [List.drop_eq_nil_of_le (by omega)]
      rfl
  have hfk : s.fr ≤ k := by
    rw [hfr]
    split
    · rename_i h
      have := hf.chain.1 m h
      omega
    · omega
  have hdp : 1 ≤ s.dp ∧ s.dp ≤ k + 1 := by
    rw [hs]
    refine dpOf_le (S.drop m) k ?_
    intro x hx
    obtain ⟨j, hj, rfl⟩ := List.getElem_of_mem hx
    rw [List.getElem_drop]
    have hjS : m + j < S.length := by simp at hj; omega
    have h2 := hf.mem (m + j) hjS
    obtain ⟨hlt2, he⟩ := List.getElem?_eq_some_iff.1 h2
    have h3 := hf.root _ hlt2
    rw [he] at h3
    have := hf.len
    omega
  refine ⟨by simp [hf.len], ?_, ⟨?_, ?_, ?_, ?_⟩, ?_⟩
  · intro i hi
    by_cases hik : i < ys.length
    · rw [List.getElem_append_left hik]; exact hf.root i hik
    · have hl := hf.len
      have e : i = k := by simp at hi; omega
      subst e
      rw [List.getElem_append_right (by omega)]
      simp only [List.getElem_singleton]
      exact ⟨hrt, hfk, hdp⟩
  · intro j hj
    by_cases hjm : j < m
    · rw [List.getElem_append_left (by omega), List.getElem_take]
      have := hf.chain.1 j (by omega)
      omega
    · rw [List.getElem_append_right (by omega)]
      simp only [List.getElem_singleton]
      omega
  · intro j hj
    simp only [List.length_append, hlt, List.length_cons, List.length_nil] at hj
    rw [List.getElem_append_left (by omega), List.getElem_take]
    by_cases hjm : j + 1 < m
    · rw [List.getElem_append_left (by omega), List.getElem_take]
      exact hf.chain.2.1 j (by omega)
    · rw [List.getElem_append_right (by omega)]
      simp only [List.getElem_singleton]
      rw [hfr]
      have e : m = j + 1 := by omega
      subst e
      split
      · rename_i h; exact hf.chain.2.1 j h
      · rename_i h
        have h2 := hf.chain.2.2.1 (by omega)
        have e2 : S.length - 1 = j := by omega
        have h3 := h2.2
        simp only [e2] at h3
        exact h3
  · intro h
    constructor
    · by_cases hm0 : 0 < m
      · rw [List.getElem_append_left (by omega), List.getElem_take]
        exact (hf.chain.2.2.1 (by omega)).1
      · rw [List.getElem_append_right (by omega)]
        simp only [List.getElem_singleton]
        rw [hfr]
        have e : m = 0 := by omega
        subst e
        split
        · rename_i h2; exact (hf.chain.2.2.1 h2).1
        · rename_i h2; have := hf.chain.2.2.2 (by omega); omega
    · rw [List.getElem_append_right (by simp)]
      simp only [List.getElem_singleton]
      omega
  · intro h
    simp at h
  · intro j hj
    simp only [List.length_append, hlt, List.length_cons, List.length_nil] at hj
    by_cases hjm : j < m
    · rw [List.getElem_append_left (by omega), List.getElem_take]
      have h1 := hf.mem j (by omega)
      have h2 := (List.getElem?_eq_some_iff.1 h1).1
      rw [List.getElem?_append_left h2]
      exact h1
    · rw [List.getElem_append_right (by omega)]
      simp only [List.getElem_singleton, hrt]
      rw [List.getElem?_append_right (by have := hf.len; omega)]
      have : k - ys.length = 0 := by have := hf.len; omega
      rw [this]
      rfl
theorem after_fine {t : List Nd} : ∀ {k : Nat} {S ys : List Sp}, after t k = some (S, ys) → Fine k S ys := by
  intro k
  induction k with
  | zero =>
    intro S ys h
    simp only [after, Option.some.injEq, Prod.mk.injEq] at h
    obtain ⟨rfl, rfl⟩ := h
    exact ⟨rfl, fun i h => by simp at h, ⟨fun j h => by simp at h, fun j h => by simp at h, fun h => by simp at h, fun _ => rfl⟩, fun j h => by simp at h⟩
  | succ k ih =>
    intro S' ys' h
    obtain ⟨S, ys, s, hk, ha, hs, rfl⟩ := after_inv h
    exact (ih ha).snoc hs
theorem after_le {t : List Nd} {k : Nat} {S ys : List Sp} (h : after t k = some (S, ys)) : k ≤ t.length := by
  cases k with
  | zero => omega
  | succ k => obtain ⟨_, _, _, hk, _⟩ := after_inv h; omega
theorem after_part {t : List Nd} {k : Nat} {S ys : List Sp} (h : after t k = some (S, ys)) : ∀ m, m ≤ k → ∃ S', after t m = some (S', ys.take m) := by
  intro m hm
  induction k generalizing S ys with
  | zero =>
    have : m = 0 := by omega
    subst this
    exact ⟨S, by simp only [after, Option.some.injEq, Prod.mk.injEq] at h ⊢; obtain ⟨rfl, rfl⟩ := h; simp⟩
  | succ k ih =>
    have hfl := (after_fine h).len
    by_cases e : m = k + 1
    · subst e
      exact ⟨S, by rw [List.take_of_length_le (by omega)]; exact h⟩
    · obtain ⟨S0, ys0, s, hk, ha, hs, rfl⟩ := after_inv h
      obtain ⟨S', h'⟩ := ih ha (by omega)
      have hl := (after_fine ha).len
      exact ⟨S', by rw [List.take_append_of_le_length (by omega)]; exact h'⟩
theorem chain_len {S : List Sp} {k : Nat} (h : Chain S k) : S.length ≤ k := by
  have key : ∀ j (hj : j < S.length), j ≤ S[j].rt := by
    intro j
    induction j with
    | zero => intro _; omega
    | succ j ih =>
      intro hj
      have h1 := ih (by omega)
      have h2 := h.2.1 j hj
      have h3 := (h.1 (j + 1) hj).1
      omega
  by_cases h0 : S.length = 0
  · omega
  · have h1 := key (S.length - 1) (by omega)
    have h2 := (h.1 (S.length - 1) (by omega)).2
    omega
end Go.Proofs.YtemancdlnakkmaaGreat
namespace Go.Proofs.YtemancdlnakkmaaGreat
open Go.RowKit
def mk (j : Nat) : Nd := ⟨(j : Int), (j : Int) + 1, mtext (j + 2), (j : Int) + 1 + 1 + 1, (j : Int) + 1 + 1 + 1 + 1⟩
def marks (k n : Nat) : List Nd := (List.range n).map fun i => mk (k + 5 * i)
theorem marks_length (k n : Nat) : (marks k n).length = n := by simp [marks]
theorem marks_get (k n i : Nat) (h : i < (marks k n).length) : (marks k n)[i] = mk (k + 5 * i) := by simp [marks]
theorem mark_step (k : Nat) (ys : List Nd) (j : Nat) (h : j < ys.length) : (marks k j ++ ys.drop j).set j (mk (k + 5 * j)) = marks k (j + 1) ++ ys.drop (j + 1) := by
  rw [List.set_append_right _ _ (by rw [marks_length]; omega)]
  have e : j - (marks k j).length = 0 := by rw [marks_length]; omega
  rw [e, List.drop_eq_getElem_cons h, List.set_cons_zero]
  have e2 : marks k (j + 1) = marks k j ++ [mk (k + 5 * j)] := by simp [marks, List.range_succ]
  rw [e2, List.append_assoc]
  rfl
theorem markText_int (z : Int) (k : Nat) (hz : z = (k : Int)) (hk : k ≤ 1000000000) (h0 : 0 < k) (w : World) :
    Calls Tryz.prog 22 #[.int .i64 z] w fun e w' => e = .returned (.string (mtext k)) ∧ Below w.heap.size w w' := by
  subst hz
  exact markText_any k hk h0 w
set_option maxHeartbeats 1000000 in
theorem markNodeS_any (ys : List Nd) (n g cap k : Nat) (w : World) (HN : Hid (ys.length = n)) (hr : Row w g ys) (hn : n ≤ 1048577) (hk : k ≤ 100000000) (hk0 : 0 < k) :
    Calls Tryz.prog 9 #[.slice (some ⟨g, 0, none⟩) n cap, .int .i64 k] w fun e w' =>
      e = .returned (.int .i64 (k + 5 * n : Nat)) ∧ Row w' g (marks k n) ∧ But (· = g) w w' := by
  go_enter Tryz.func9, Tryz.ntmps9
  go_wp2
  go_loopw [1, 5] (fun a i wr => ∃ (j : Nat), j ≤ n ∧ i = .int .i64 j ∧ a = .int .i64 (k + 5 * j : Nat) ∧ Row wr g (marks k j ++ ys.drop j) ∧ But (· = g) w wr) (fun _ i _ => n - (intOf i).toNat)
  case atStart => exact ⟨0, Nat.zero_le _, rfl, rfl, hr, But.refl _ _⟩
  case round =>
    obtain ⟨j, hj, rfl, rfl, hrow, hb⟩ := hrel
    clear hr
    by_cases hlt : j < n
    · have hl : (marks k j ++ ys.drop j).length = n := by have := HN.out; simp [marks_length]; omega
      have hl5 : (flat (marks k j ++ ys.drop j)).length = n * 5 := by rw [flat_length, hl]
      have HL : Hid (j < ys.length) := by have := HN.out; show j < ys.length; omega
      obtain ⟨v0, c0⟩ := Own.has hrow (j * 5) (by rw [hl5]; omega)
      obtain ⟨v1, c1⟩ := Own.has hrow (j * 5 + 1) (by rw [hl5]; omega)
      have f0 := Own.frozen hrow (j * 5)
      have f1 := Own.frozen hrow (j * 5 + 1)
      obtain ⟨q, hq⟩ : ∃ q : Nat, k + 5 * j = q := ⟨_, rfl⟩
      have HQ : Hid (k + 5 * j = q) := hq
      have hq1 : q ≤ 200000000 := by omega
      rw [hq]
      clear hl hq
      have O2 := (Own.set hrow (j * 5) (.int .i64 (q : Int)) (by rw [hl5]; omega)).set (j * 5 + 1) (.int .i64 ((q : Int) + 1)) (by simp only [List.length_set]; rw [hl5]; omega)
      have B2 := (hb.setCell (p := ⟨g, j * 5, none⟩) rfl (.int .i64 (q : Int))).setCell (p := ⟨g, j * 5 + 1, none⟩) rfl (.int .i64 ((q : Int) + 1))
      have HF : Hid (flat ((marks k j ++ ys.drop j).set j (mk q)) = flat (marks k (j + 1) ++ ys.drop (j + 1))) := by
        have := mark_step k ys j HL.out
        rw [HQ.out] at this
        exact congrArg flat this
      have HLL : Hid ((marks k j ++ ys.drop j).length = n) := by have := HN.out; show (marks k j ++ ys.drop j).length = n; simp [marks_length]; omega
      clear hb hrow hl5
      go_wp2_with fail
      refine (markText_int ((q : Int) + 1 + 1) (q + 2) (by omega) (by omega) (by omega) _).mono ?_
      rintro e w1 ⟨rfl, hb1⟩
      have O3 := O2.below hb1
      have B3 := B2.trans (But.ofBelow hb1)
      have hl5 : (flat (marks k j ++ ys.drop j)).length = n * 5 := by rw [flat_length, HLL.out]
      obtain ⟨v2, c2⟩ := O3.has (j * 5 + 2) (by simp only [List.length_set]; rw [hl5]; omega)
      obtain ⟨v3, c3⟩ := O3.has (j * 5 + 3) (by simp only [List.length_set]; rw [hl5]; omega)
      obtain ⟨v4, c4⟩ := O3.has (j * 5 + 4) (by simp only [List.length_set]; rw [hl5]; omega)
      have f2 := O3.frozen (j * 5 + 2)
      have f3 := O3.frozen (j * 5 + 3)
      have f4 := O3.frozen (j * 5 + 4)
      have O4 := ((O3.set (j * 5 + 2) (.string (mtext (q + 2))) (by simp only [List.length_set]; rw [hl5]; omega)).set (j * 5 + 3) (.int .i64 ((q : Int) + 1 + 1 + 1)) (by simp only [List.length_set]; rw [hl5]; omega)).set (j * 5 + 4) (.int .i64 ((q : Int) + 1 + 1 + 1 + 1)) (by simp only [List.length_set]; rw [hl5]; omega)
      have HS := flat_set (marks k j ++ ys.drop j) j (by rw [HLL.out]; exact hlt) (mk q)
      have R5 := O4.row (HS.trans HF.out)
      have B4 := ((B3.setCell (p := ⟨g, j * 5 + 2, none⟩) rfl (.string (mtext (q + 2)))).setCell (p := ⟨g, j * 5 + 3, none⟩) rfl (.int .i64 ((q : Int) + 1 + 1 + 1))).setCell (p := ⟨g, j * 5 + 4, none⟩) rfl (.int .i64 ((q : Int) + 1 + 1 + 1 + 1))
      clear O2 B2 O3 B3 O4 HS c0 c1 f0 f1 hb1 hl5
      go_wp2
      go_roundw
      case rel => exact ⟨j + 1, by omega, by go_num, by have := HQ.out; congr 1; omega, R5, B4⟩
      case measure => simp [intOf]; omega
    · have hje : j = n := by omega
      subst hje
      have R5 : Row wr g (marks k j) := by
        have e : ys.drop j = [] := List.drop_eq_nil_of_le (by have := HN.out; omega)
        rw [e, List.append_nil] at hrow
        exact hrow
      clear hrow
      go_wp2
      go_ret
      exact ⟨rfl, R5, hb⟩
set_option maxHeartbeats 1000000 in
theorem heldNodeS_any (n g cap k : Nat) (w : World) (hr : Row w g (marks k n)) (hn : n ≤ 1048577) (hk : k ≤ 100000000) (hk0 : 0 < k) :
    Calls Tryz.prog 10 #[.slice (some ⟨g, 0, none⟩) n cap, .int .i64 k] w fun e w' =>
      e = .returned (.int .i64 (k + 5 * n : Nat)) ∧ Below w.heap.size w w' := by
  go_enter Tryz.func10, Tryz.ntmps10
  go_wp2
  go_loopw [1, 5] (fun a i wr => ∃ (j : Nat), j ≤ n ∧ i = .int .i64 j ∧ a = .int .i64 (k + 5 * j : Nat) ∧ Below w.heap.size w wr) (fun _ i _ => n - (intOf i).toNat)
  case atStart => exact ⟨0, Nat.zero_le _, rfl, rfl, Below.refl _ _⟩
  case round =>
    obtain ⟨j, hj, rfl, rfl, hb⟩ := hrel
    by_cases hlt : j < n
    · have hrow := hr.below hb
      have hl : j < (marks k n).length := by rw [marks_length]; exact hlt
      obtain ⟨q, hq⟩ : ∃ q : Nat, k + 5 * j = q := ⟨_, rfl⟩
      have HQ : Hid (k + 5 * j = q) := hq
      have hq1 : q ≤ 200000000 := by omega
      obtain ⟨c0, c1, c2, c3, c4⟩ := hrow.node j hl
      rw [marks_get, hq] at c0 c1 c2 c3 c4
      simp only [mk] at c0 c1 c2 c3 c4
      have hlb : g < wr.heap.size := hrow.lt
      rw [hq]
      clear hl hq hr hrow
      go_wp2_with fail
      go_region_with (go_at_call 22; refine (markText_int ((q : Int) + 1 + 1) (q + 2) (by omega) (by omega) (by omega) _).mono ?_; rintro e w1 ⟨rfl, hb1⟩; have hc1 := bcell_drew hb1)
      all_goals
        have hbb := Below.step hb (undrew hb1)
        clear hb hb1
        go_wp2
        go_roundw
        case rel => exact ⟨j + 1, by omega, by go_num, by have := HQ.out; congr 1; omega, hbb⟩
        case measure => simp [intOf]; omega
    · have hje : j = n := by omega
      subst hje
      clear hr
      go_wp2
      go_ret
      exact ⟨rfl, hb⟩
def Ans (w : World) (B : Nat) (ao : Option Addr) (zs : List Nd) : Prop := zs = [] ∨ ∃ g, ao = some ⟨g, 0, none⟩ ∧ B ≤ g ∧ Row w g zs
theorem Ans.nodes {w : World} {B : Nat} {ao : Option Addr} {zs : List Nd} (h : Ans w B ao zs) : Nodes w ao zs := by
  rcases h with rfl | ⟨g, rfl, _, hr⟩
  · exact fun i hi => by simp at hi
  · exact hr.nodes
theorem Ans.below {w w' : World} {B : Nat} {ao : Option Addr} {zs : List Nd} (h : Ans w B ao zs) (hb : Below w.heap.size w w') : Ans w' B ao zs := by
  rcases h with rfl | ⟨g, rfl, hB, hr⟩
  · exact Or.inl rfl
  · exact Or.inr ⟨g, rfl, hB, hr.below hb⟩
theorem Ans.but {S : Nat → Prop} {w w' : World} {B : Nat} {ao : Option Addr} {zs : List Nd} (h : Ans w B ao zs) (hb : But S w w') (hS : ∀ g, ao = some ⟨g, 0, none⟩ → B ≤ g → Row w g zs → ¬ S g) : Ans w' B ao zs := by
  rcases h with rfl | ⟨g, rfl, hB, hr⟩
  · exact Or.inl rfl
  · exact Or.inr ⟨g, rfl, hB, hb.row hr (hS g rfl hB hr)⟩
theorem Row.ans {w : World} {B g : Nat} {zs : List Nd} (h : Row w g zs) (hB : B ≤ g) : Ans w B (some ⟨g, 0, none⟩) zs := Or.inr ⟨g, rfl, hB, h⟩
set_option maxHeartbeats 1000000 in
theorem markNodeS_none (ao : Option Addr) (cap k : Nat) (w : World) :
    Calls Tryz.prog 9 #[.slice ao 0 cap, .int .i64 k] w fun e w' => e = .returned (.int .i64 (k : Nat)) ∧ w' = w := by
  go_enter Tryz.func9, Tryz.ntmps9
  go_wp2
  go_loopw [1, 5] (fun a i wr => a = .int .i64 k ∧ i = .int .i64 0 ∧ wr = w) (fun _ _ _ => 0)
  case atStart => exact ⟨rfl, rfl, rfl⟩
  case round =>
    obtain ⟨rfl, rfl, rfl⟩ := hrel
    go_wp2
    go_ret
    exact ⟨rfl, rfl⟩
set_option maxHeartbeats 1000000 in
theorem heldNodeS_none (ao : Option Addr) (cap k : Nat) (w : World) :
    Calls Tryz.prog 10 #[.slice ao 0 cap, .int .i64 k] w fun e w' => e = .returned (.int .i64 (k : Nat)) ∧ w' = w := by
  go_enter Tryz.func10, Tryz.ntmps10
  go_wp2
  go_loopw [1, 5] (fun a i wr => a = .int .i64 k ∧ i = .int .i64 0 ∧ wr = w) (fun _ _ _ => 0)
  case atStart => exact ⟨rfl, rfl, rfl⟩
  case round =>
    obtain ⟨rfl, rfl, rfl⟩ := hrel
    go_wp2
    go_ret
    exact ⟨rfl, rfl⟩
theorem markNodeS_ans (zs : List Nd) (n B : Nat) (ao : Option Addr) (cap k : Nat) (w : World) (HN : Hid (zs.length = n)) (ha : Ans w B ao zs) (hn : n ≤ 1048577) (hk : k ≤ 100000000) (hk0 : 0 < k) :
    Calls Tryz.prog 9 #[.slice ao n cap, .int .i64 k] w fun e w' =>
      e = .returned (.int .i64 (k + 5 * n : Nat)) ∧ Ans w' B ao (marks k n) ∧ But (fun q => ao = some ⟨q, 0, none⟩ ∧ B ≤ q) w w' := by
  rcases ha with rfl | ⟨g, rfl, hB, hr⟩
  · have h0 : n = 0 := HN.out.symm
    subst h0
    exact (markNodeS_none ao cap k w).mono (by rintro e w' ⟨rfl, rfl⟩; exact ⟨rfl, Or.inl rfl, But.refl _ _⟩)
  · refine (markNodeS_any zs n g cap k w HN hr hn hk hk0).mono ?_
    rintro e w' ⟨rfl, hr', hb⟩
    exact ⟨rfl, Or.inr ⟨g, rfl, hB, hr'⟩, hb.mono (fun q hq => by subst hq; exact ⟨rfl, hB⟩)⟩
theorem heldNodeS_ans (n B : Nat) (ao : Option Addr) (cap k : Nat) (w : World) (ha : Ans w B ao (marks k n)) (hn : n ≤ 1048577) (hk : k ≤ 100000000) (hk0 : 0 < k) :
    Calls Tryz.prog 10 #[.slice ao n cap, .int .i64 k] w fun e w' => e = .returned (.int .i64 (k + 5 * n : Nat)) ∧ Below w.heap.size w w' := by
  rcases ha with h | ⟨g, rfl, hB, hr⟩
  · have h0 : n = 0 := by have := marks_length k n; rw [h] at this; exact this.symm
    subst h0
    exact (heldNodeS_none ao cap k w).mono (by rintro e w' ⟨rfl, rfl⟩; exact ⟨rfl, Below.refl _ _⟩)
  · exact heldNodeS_any n g cap k w hr hn hk hk0
end Go.Proofs.YtemancdlnakkmaaGreat

import Derived.Test.YtljdcaoibnikjaaSMatch2
namespace Go.Proofs.Ytljdcaoibnikjaa

open Go.RowKit

/-- A Bind, and where its row is: its number, block and capacity, its nodes. -/
abbrev It := Int × ((Nat × Nat) × List Nd)

def It.cells (p : It) : Value × Value := (.int .i64 p.1, .slice (some ⟨p.2.1.1, 0, none⟩) p.2.2.length p.2.1.2)

def It.bind (p : It) : Int × List Nd := (p.1, p.2.2)

/-- x put into a list whose last comes first: it goes by those that are greater. -/
def insA (x : It) : List It → List It
  | [] => [x]
  | y :: ys => if x.1 < y.1 then y :: insA x ys else x :: y :: ys

def insB (out : List It) (x : It) : List It := (insA x out.reverse).reverse

def sortA (ms : List It) : List It := ms.foldl insB []

theorem insA_perm (x : It) (l : List It) : (insA x l).Perm (x :: l) := by
  induction l with
  | nil => exact List.Perm.refl _
  | cons y ys ih =>
    unfold insA
    split
    · exact (List.Perm.cons y ih).trans (List.Perm.swap x y ys)
    · exact List.Perm.refl _

theorem insB_perm (out : List It) (x : It) : (insB out x).Perm (x :: out) :=
  (List.reverse_perm _).trans ((insA_perm x _).trans (List.Perm.cons x (List.reverse_perm _)))

theorem sortA_perm (ms : List It) : (sortA ms).Perm ms := by
  have key : ∀ (ms out : List It), (ms.foldl insB out).Perm (ms ++ out) := by
    intro ms
    induction ms with
    | nil => intro out; exact List.Perm.refl _
    | cons m ms ih =>
      intro out
      rw [List.foldl_cons]
      exact (ih (insB out m)).trans ((List.Perm.append_left ms (insB_perm out m)).trans List.perm_middle)
  have h := key ms []
  rw [List.append_nil] at h
  exact h

theorem insA_down (x : It) (l : List It) (h : l.Pairwise (fun a b => b.1 < a.1)) (hx : ∀ y ∈ l, y.1 ≠ x.1) : (insA x l).Pairwise (fun a b => b.1 < a.1) := by
  induction l with
  | nil => simp [insA]
  | cons y ys ih =>
    rw [List.pairwise_cons] at h
    unfold insA
    split
    · rename_i hlt
      rw [List.pairwise_cons]
      refine ⟨?_, ih h.2 (fun z hz => hx z (by simp [hz]))⟩
      intro z hz
      rcases List.mem_cons.1 ((insA_perm x ys).mem_iff.1 hz) with rfl | hz
      · exact hlt
      · exact h.1 z hz
    · rename_i hlt
      have h1 := hx y (by simp)
      rw [List.pairwise_cons]
      refine ⟨?_, by rw [List.pairwise_cons]; exact h⟩
      intro z hz
      rcases List.mem_cons.1 hz with rfl | hz
      · omega
      · have := h.1 z hz; omega

theorem insB_up (out : List It) (x : It) (h : out.Pairwise (fun a b => a.1 < b.1)) (hx : ∀ y ∈ out, y.1 ≠ x.1) : (insB out x).Pairwise (fun a b => a.1 < b.1) := by
  unfold insB
  rw [List.pairwise_reverse]
  exact insA_down x _ (List.pairwise_reverse.2 h) (fun y hy => hx y (List.mem_reverse.1 hy))

theorem sortA_up (ms : List It) (hd : (ms.map Prod.fst).Nodup) : (sortA ms).Pairwise (fun a b => a.1 < b.1) := by
  have key : ∀ (ms out : List It), out.Pairwise (fun a b => a.1 < b.1) → (ms.map Prod.fst).Nodup → (∀ y ∈ out, ∀ m ∈ ms, y.1 ≠ m.1) → (ms.foldl insB out).Pairwise (fun a b => a.1 < b.1) := by
    intro ms
    induction ms with
    | nil => intro out h _ _; exact h
    | cons m ms ih =>
      intro out h hn hx
      rw [List.map_cons, List.nodup_cons] at hn
      rw [List.foldl_cons]
      refine ih (insB out m) (insB_up out m h (fun y hy => hx y hy m (by simp))) hn.2 ?_
      intro y hy z hz
      rcases List.mem_cons.1 ((insB_perm out m).mem_iff.1 hy) with rfl | hy
      · intro e
        exact hn.1 (by rw [e]; exact List.mem_map.2 ⟨z, hz, rfl⟩)
      · exact hx y hy z (by simp [hz])
  exact key ms [] List.Pairwise.nil hd (fun y hy => by simp at hy)

theorem sortA_take (ms : List It) (k : Nat) (h : k < ms.length) : sortA (ms.take (k + 1)) = insB (sortA (ms.take k)) ms[k] := by
  unfold sortA
  rw [List.take_succ_eq_append_getElem h, List.foldl_append]
  rfl

theorem insB_step (A : List It) (y x : It) (B : List It) (h : x.1 < y.1) : (insA x (A ++ [y]).reverse).reverse ++ B = (insA x A.reverse).reverse ++ (y :: B) := by
  rw [List.reverse_append]
  simp only [List.reverse_cons, List.reverse_nil, List.nil_append, List.cons_append]
  rw [insA, if_pos h]
  simp

theorem insB_stop (A : List It) (x : It) (h : ∀ y, A.getLast? = some y → ¬ x.1 < y.1) : (insA x A.reverse).reverse = A ++ [x] := by
  rcases List.eq_nil_or_concat A with rfl | ⟨A', y, rfl⟩
  · rfl
  · simp only [List.concat_eq_append] at h ⊢
    rw [List.reverse_append]
    simp only [List.reverse_cons, List.reverse_nil, List.nil_append, List.cons_append]
    rw [insA, if_neg (h y (by simp))]
    simp

theorem swapI (A B : List It) (x y : It) : (((A ++ [y]) ++ x :: B).set (A.length + 1) y).set A.length x = A ++ x :: (y :: B) := by
  induction A with
  | nil => rfl
  | cons a A ih => simp

/-- The Binds of a row, each with its place. -/
def itsOf (rs : List (Nat × Nat)) (bs : List (Int × List Nd)) : List It := List.zipWith (fun r b => (b.1, (r, b.2))) rs bs

theorem itsOf_lead (rs : List (Nat × Nat)) (bs : List (Int × List Nd)) : (itsOf rs bs).map It.cells = leadR rs bs := by
  unfold itsOf leadR
  rw [List.map_zipWith]
  rfl

theorem itsOf_binds {rs : List (Nat × Nat)} {bs : List (Int × List Nd)} (h : rs.length = bs.length) : (itsOf rs bs).map It.bind = bs := by
  unfold itsOf
  rw [List.map_zipWith]
  induction rs generalizing bs with
  | nil => cases bs with
    | nil => rfl
    | cons b bs => simp at h
  | cons r rs ih => cases bs with
    | nil => simp at h
    | cons b bs => simp [It.bind] at h ⊢; exact ih h

theorem itsOf_rows {rs : List (Nat × Nat)} {bs : List (Int × List Nd)} (h : rs.length = bs.length) : (itsOf rs bs).map (fun p => p.2.1) = rs := by
  unfold itsOf
  rw [List.map_zipWith]
  induction rs generalizing bs with
  | nil => cases bs with
    | nil => rfl
    | cons b bs => simp at h
  | cons r rs ih => cases bs with
    | nil => simp at h
    | cons b bs => simp at h ⊢; exact ih h

/-- The other way: rows and Binds out of the list. -/
theorem its_lead (its : List It) : its.map It.cells = leadR (its.map (fun p => p.2.1)) (its.map It.bind) := by
  unfold leadR
  induction its with
  | nil => rfl
  | cons p its ih => simp only [List.map_cons, List.zipWith_cons_cons, ← ih]; rfl

/-- Binds that are put in another order. -/
theorem TwoR.perm {w w' : World} {q q' : Nat} {rs : List (Nat × Nat)} {bs : List (Int × List Nd)} {its : List It} (h : TwoR w q rs bs) (hp : its.Perm (itsOf rs bs)) (hr : ∀ r g, r ∈ rs → Row w r.1 g → Row w' r.1 g) (ho : OwnB w' q' (its.map It.cells)) :
    TwoR w' q' (its.map (fun p => p.2.1)) (its.map It.bind) := by
  have hl := h.len
  refine ⟨by simp, by rw [← its_lead]; exact ho, ?_, ?_⟩
  · intro i h1 h2
    have hi : i < its.length := by simpa using h1
    simp only [List.getElem_map]
    have hm := hp.mem_iff.1 (List.getElem_mem hi)
    obtain ⟨k, hk, he⟩ := List.getElem_of_mem hm
    have hk2 : k < rs.length ∧ k < bs.length := by simp [itsOf] at hk; omega
    rw [← he]
    have e : (itsOf rs bs)[k] = (bs[k].1, (rs[k], bs[k].2)) := by simp [itsOf]
    rw [e]
    exact hr _ _ (List.getElem_mem hk2.1) (h.rows k hk2.1 hk2.2)
  · have e1 : (its.map (fun p => p.2.1)).Perm rs := by
      have := hp.map (fun p : It => p.2.1)
      rw [itsOf_rows hl] at this
      exact this
    exact (e1.map Prod.fst).nodup_iff.2 h.nodup

theorem OwnBs.put {w : World} {B g c l : Nat} {ps : List (Value × Value)} (h : OwnBs w B g c l ps) (j : Nat) (a b : Value) : OwnBs ((w.setCell ⟨g, j * 2, none⟩ a).setCell ⟨g, j * 2 + 1, none⟩ b) B g c l (ps.set j (a, b)) := by
  refine ⟨by simp [h.1], ?_⟩
  have h9 := owns_setOne (v := b) (owns_setOne (v := a) h.2 (i := j * 2)) (i := j * 2 + 1)
  rw [cells2_set ps j (a, b)] at h9
  exact h9

end Go.Proofs.Ytljdcaoibnikjaa

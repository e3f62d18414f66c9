import Derived.Test.YtekogjmmfhbinaaWAO
import Derived.Test.YtekogjmmfhbinaaIDeep
namespace Go.Proofs.Ytekogjmmfhbinaa

open Go.RowKit

/-- A tree of plain code in memory: the block b is node i of t, its parts are its kids' trees. All its blocks are A's. -/
def TreeF (t : List Nd) (w : World) (A : Nat → Prop) (R : Nat × Nat → Prop) (x : Nat × Nat) : Prop :=
  ∃ (b i : Nat) (bs : List Nat) (g c : Nat) (cur : Array Value), x = (b, i) ∧ A b ∧ A g ∧ w.heap[b]? = some (.cells #[.int .i64 (ndAt t i).kind, .int .i64 (ndAt t i).num, .string (ndAt t i).text, .int .i64 (ndAt t i).kids, .int .i64 (ndAt t i).place, .slice (some ⟨g, 0, none⟩) bs.length c, .int .i64 0, .int .i64 0, .bool false] 62 (0, 0)) ∧ w.heap[g]? = some (.cells cur 42 (0, 0)) ∧ (∀ j (h : j < bs.length), cur[j]? = some (.pointer (some ⟨bs[j], 0, none⟩))) ∧ bs.length ≤ c ∧ bs.length = (kidsRt t i).length ∧ ∀ j (h : j < bs.length) (h' : j < (kidsRt t i).length), R (bs[j], (kidsRt t i)[j])

structure TreeAt (t : List Nd) (w : World) (A : Nat → Prop) (b i : Nat) : Prop where
  of ::
  lfp : Lfp (TreeF t w A) (b, i)

theorem TreeAt.grows (t : List Nd) (w : World) (A : Nat → Prop) : Grows (TreeF t w A) := by
  rintro R R' x h ⟨b, i, bs, g, c, cur, e, h1, h2, h3, h4, h5, h6, h7, h8⟩
  exact ⟨b, i, bs, g, c, cur, e, h1, h2, h3, h4, h5, h6, h7, fun j hj hj' => h _ (h8 j hj hj')⟩

theorem TreeAt.mk {t : List Nd} {w : World} {A : Nat → Prop} (b i : Nat) (bs : List Nat) (g c : Nat) (cur : Array Value) (hA : A b) (hG : A g) (blk : w.heap[b]? = some (.cells #[.int .i64 (ndAt t i).kind, .int .i64 (ndAt t i).num, .string (ndAt t i).text, .int .i64 (ndAt t i).kids, .int .i64 (ndAt t i).place, .slice (some ⟨g, 0, none⟩) bs.length c, .int .i64 0, .int .i64 0, .bool false] 62 (0, 0))) (row : w.heap[g]? = some (.cells cur 42 (0, 0))) (cells : ∀ j (h : j < bs.length), cur[j]? = some (.pointer (some ⟨bs[j], 0, none⟩))) (cap : bs.length ≤ c) (len : bs.length = (kidsRt t i).length) (kids : ∀ j (h : j < bs.length) (h' : j < (kidsRt t i).length), TreeAt t w A bs[j] (kidsRt t i)[j]) : TreeAt t w A b i :=
  ⟨Lfp.fold (TreeAt.grows t w A) ⟨b, i, bs, g, c, cur, rfl, hA, hG, blk, row, cells, cap, len, fun j h h' => (kids j h h').lfp⟩⟩

theorem TreeAt.elim {t : List Nd} {w : World} {A : Nat → Prop} {motive : ∀ b i, TreeAt t w A b i → Prop}
    (mk : ∀ (b i : Nat) (bs : List Nat) (g c : Nat) (cur : Array Value) (hA : A b) (hG : A g) (blk : w.heap[b]? = some (.cells #[.int .i64 (ndAt t i).kind, .int .i64 (ndAt t i).num, .string (ndAt t i).text, .int .i64 (ndAt t i).kids, .int .i64 (ndAt t i).place, .slice (some ⟨g, 0, none⟩) bs.length c, .int .i64 0, .int .i64 0, .bool false] 62 (0, 0))) (row : w.heap[g]? = some (.cells cur 42 (0, 0))) (cells : ∀ j (h : j < bs.length), cur[j]? = some (.pointer (some ⟨bs[j], 0, none⟩))) (cap : bs.length ≤ c) (len : bs.length = (kidsRt t i).length) (kids : ∀ j (h : j < bs.length) (h' : j < (kidsRt t i).length), TreeAt t w A bs[j] (kidsRt t i)[j]), (∀ j (h : j < bs.length) (h' : j < (kidsRt t i).length), motive bs[j] (kidsRt t i)[j] (kids j h h')) → motive b i (TreeAt.mk b i bs g c cur hA hG blk row cells cap len kids))
    {b i : Nat} (h : TreeAt t w A b i) : motive b i h := by
  have key : ∀ h, motive (b, i).1 (b, i).2 h := Lfp.ind (TreeAt.grows t w A) (p := fun x => ∀ h, motive x.1 x.2 h) (by
    rintro x ⟨b, i, bs, g, c, cur, e, h1, h2, h3, h4, h5, h6, h7, h8⟩ h
    subst e
    exact mk b i bs g c cur h1 h2 h3 h4 h5 h6 h7 (fun j hj hj' => ⟨(h8 j hj hj').1⟩) (fun j hj hj' => (h8 j hj hj').2 _)) h.lfp
  exact key h

theorem TreeAt.inv {t : List Nd} {w : World} {A : Nat → Prop} {b i : Nat} (h : TreeAt t w A b i) : ∃ (bs : List Nat) (g c : Nat) (cur : Array Value), A b ∧ A g ∧ w.heap[b]? = some (.cells #[.int .i64 (ndAt t i).kind, .int .i64 (ndAt t i).num, .string (ndAt t i).text, .int .i64 (ndAt t i).kids, .int .i64 (ndAt t i).place, .slice (some ⟨g, 0, none⟩) bs.length c, .int .i64 0, .int .i64 0, .bool false] 62 (0, 0)) ∧ w.heap[g]? = some (.cells cur 42 (0, 0)) ∧ (∀ j (h : j < bs.length), cur[j]? = some (.pointer (some ⟨bs[j], 0, none⟩))) ∧ bs.length ≤ c ∧ bs.length = (kidsRt t i).length ∧ ∀ j (h : j < bs.length) (h' : j < (kidsRt t i).length), TreeAt t w A bs[j] (kidsRt t i)[j] := by
  induction h using TreeAt.elim with
  | mk b i bs g c cur hA hG blk row cells cap len kids => exact ⟨bs, g, c, cur, hA, hG, blk, row, cells, cap, len, kids⟩

theorem TreeAt.but {t : List Nd} {w w' : World} {A A' S : Nat → Prop} {b i : Nat} (h : TreeAt t w A b i) (hb : But S w w') (hS : ∀ q, A q → ¬ S q) (hA : ∀ q, A q → q < w.heap.size → A' q) : TreeAt t w' A' b i := by
  induction h using TreeAt.elim with
  | mk b i bs g c cur h1 h2 blk row cells cap len kids ih =>
    have l1 := (Array.getElem?_eq_some_iff.1 blk).1
    have l2 := (Array.getElem?_eq_some_iff.1 row).1
    exact .mk b i bs g c cur (hA b h1 l1) (hA g h2 l2) ((hb.block b l1 (hS b h1)).trans blk) ((hb.block g l2 (hS g h2)).trans row) cells cap len ih

theorem TreeAt.under {t : List Nd} {w w' : World} {A : Nat → Prop} {b i : Nat} (h : TreeAt t w A b i) (hb : Below w.heap.size w w') : TreeAt t w' A b i :=
  h.but (But.ofBelow (S := fun _ => False) hb) (fun _ _ h => h) (fun _ h _ => h)

end Go.Proofs.Ytekogjmmfhbinaa

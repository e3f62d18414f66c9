
import Derived.Test.YtocidoamfofefaaSLin
import Derived.Test.YtocidoamfofefaaCopy
import Derived.Test.YtocidoamfofefaaYAE
import Derived.Test.YtocidoamfofefaaYAF
namespace Go.Proofs.Ytocidoamfofefaa
open Go.RowKit

theorem Try.infoL12 : (Try.prog.info? 2).map (fun i => (i.zero, i.size, i.bytes)) = some (some (.int .i64 0), 1, 8) := by kernel_rfl

/-- A row of numbers of 64 bits, of the call's own. -/
def LongsR (w : World) (B g cap n : Nat) (xs : List Int) : Prop := xs.length = n ∧ w.ownsRow B 2 1 (.slice (some ⟨g, 0, none⟩) n cap) n (ints xs)

theorem LongsR.empty {w : World} {B : Nat} (hB : B ≤ w.heap.size) : LongsR (w.alloc (.cells #[] 2)) B w.heap.size 0 0 [] :=
  ⟨rfl, rfl, Or.inr ⟨_, 0, #[], rfl, hB, heap_alloc_new _ _, Nat.le_refl _, by simp [maxLen], rfl, rfl⟩⟩

theorem LongsR.at {w : World} {B g cap n : Nat} {xs : List Int} (h : LongsR w B g cap n xs) (j : Nat) (hj : j < xs.length) : w.cell? ⟨g, j, none⟩ = some (.int .i64 xs[j]) := by
  rw [h.2.cellAt j (by have := h.1; omega)]
  simp [ints, hj]

theorem LongsR.nums {w : World} {B g cap n : Nat} {xs : List Int} (h : LongsR w B g cap n xs) : Nums w (some ⟨g, 0, none⟩) xs := by
  intro i hi
  exact ⟨g, 0, rfl, by rw [Nat.zero_add]; exact h.at i hi⟩

theorem LongsR.alloc {w : World} {B g cap n : Nat} {xs : List Int} (h : LongsR w B g cap n xs) (o : Obj) : LongsR (w.alloc o) B g cap n xs := ⟨h.1, h.2.alloc o⟩

theorem LongsR.but {S : Nat → Prop} {w w' : World} {B g cap n : Nat} {xs : List Int} (h : LongsR w B g cap n xs) (hb : But S w w') (hn : ¬ S g) : LongsR w' B g cap n xs := ⟨h.1, owns_but h.2 hb hn⟩

theorem LongsR.below {w w' : World} {B g cap n : Nat} {xs : List Int} (h : LongsR w B g cap n xs) (hb : Below w.heap.size w w') : LongsR w' B g cap n xs := h.but (S := fun _ => False) (But.ofBelow hb) (fun h => h)

theorem LongsR.kept {w w' : World} {B g cap n k : Nat} {xs : List Int} (h : LongsR w B g cap n xs) (hg : w.grownBy w' (some k)) (hne : g ≠ k) : LongsR w' B g cap n xs := ⟨h.1, owns_kept h.2 hg hne⟩

theorem LongsR.block {w : World} {B g cap n : Nat} {xs : List Int} (h : LongsR w B g cap n xs) : B ≤ g ∧ g < w.heap.size := owns_block h.2

theorem LongsR.push {w : World} {B g cap n m : Nat} {xs : List Int} {x : Int} (h : w.ownsRow B 2 1 (.slice (some ⟨g, 0, none⟩) m cap) m (ints xs ++ [.int .i64 x])) (hn : xs.length = n) (hm : m = n + 1) : LongsR w B g cap (n + 1) (xs ++ [x]) := by
  subst hm
  refine ⟨by simp [hn], ?_⟩
  have e : ints (xs ++ [x]) = ints xs ++ [.int .i64 x] := by simp [ints]
  rw [e]
  exact h

theorem longR_cell (w : World) (x : Int) : ∀ j u, ([Value.int .i64 x])[j]? = some u → (w.alloc (.cells #[.int .i64 x] 2)).cell? (Addr.add ⟨w.heap.size, 0, none⟩ j) = some u := by
  intro j u hj
  have e : Addr.add ⟨w.heap.size, 0, none⟩ j = ⟨w.heap.size, j, none⟩ := by
    unfold Addr.add
    split
    · simp_all
    · simp
  rw [e, cell_of_row _ w.heap.size j _ 2 (0, 0) (heap_alloc_new _ _), ← hj]
  simp

theorem longR_one (x : Int) : ∀ u ∈ [Value.int .i64 x], u.oneCell' = true := by
  intro u hu
  simp at hu
  subst hu
  rfl

/-- A node's number is written, and it is laid for the append. -/
theorem setR_push {w W : World} {g c k gm cm l z : Nat} {out : List Nd} {met : List Int} (ho : OwnN W w.heap.size g c k out) (hm : LongsR W w.heap.size gm cm l met) (hb : Below w.heap.size w W) (hz : w.heap.size ≤ z) (hg : g ≠ z) (hgm : gm ≠ z) (kd v : Int) (tx : ByteArray) (ks pl : Int) :
    OwnN ((W.setCell ⟨z, 1, none⟩ (.int .i64 v)).alloc (.cells #[.int .i64 kd, .int .i64 v, .string tx, .int .i64 ks, .int .i64 pl] 39)) w.heap.size g c k out ∧
      LongsR ((W.setCell ⟨z, 1, none⟩ (.int .i64 v)).alloc (.cells #[.int .i64 kd, .int .i64 v, .string tx, .int .i64 ks, .int .i64 pl] 39)) w.heap.size gm cm l met ∧
      Below w.heap.size w ((W.setCell ⟨z, 1, none⟩ (.int .i64 v)).alloc (.cells #[.int .i64 kd, .int .i64 v, .string tx, .int .i64 ks, .int .i64 pl] 39)) ∧
      ∀ j u, (Nd.row ⟨kd, v, tx, ks, pl⟩)[j]? = some u → ((W.setCell ⟨z, 1, none⟩ (.int .i64 v)).alloc (.cells #[.int .i64 kd, .int .i64 v, .string tx, .int .i64 ks, .int .i64 pl] 39)).cell? (Addr.add ⟨W.heap.size, 0, none⟩ j) = some u := by
  have b3 : But (· = z) W (W.setCell ⟨z, 1, none⟩ (.int .i64 v)) := (But.refl (· = z) W).setCell (p := ⟨z, 1, none⟩) rfl _
  have hs : (W.setCell ⟨z, 1, none⟩ (.int .i64 v)).heap.size = W.heap.size := by simp
  have h1 : OwnN (W.setCell ⟨z, 1, none⟩ (.int .i64 v)) w.heap.size g c k out := ⟨ho.1, owns_but ho.2 b3 hg⟩
  have h3 : Below w.heap.size w (W.setCell ⟨z, 1, none⟩ (.int .i64 v)) := hb.trans (b3.below hb.size (fun k hk => by omega))
  have h4 := nd_new_cells (W.setCell ⟨z, 1, none⟩ (.int .i64 v)) ⟨kd, v, tx, ks, pl⟩
  rw [hs] at h4
  exact ⟨h1.alloc _, (hm.but b3 hgm).alloc _, h3.alloc h3.size _, h4⟩

end Go.Proofs.Ytocidoamfofefaa

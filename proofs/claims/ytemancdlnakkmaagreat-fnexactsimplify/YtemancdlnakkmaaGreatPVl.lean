import Derived.Test.YtemancdlnakkmaaGreatWBQ
import Derived.Test.YtemancdlnakkmaaGreatWAF
import Derived.Test.YtemancdlnakkmaaGreatWAD
namespace Go.Proofs.YtemancdlnakkmaaGreat
open Go.RowKit Go.Maps
def VRepF (w : World) (A : Nat → Prop) (R : Tre × Value → Prop) (x : Tre × Value) : Prop :=
  (∃ (n : Nd) (ks : List Tre), x = (.mk n ks, .iface 149 (.int .i64 n.num)) ∧ n.kind = 72) ∨
  (∃ (n : Nd) (ks : List Tre), x = (.mk n ks, .iface 150 (.string n.text)) ∧ n.kind = 73) ∨
  (∃ (n : Nd) (ks : List Tre) (c : Nat), x = (.mk n ks, .iface 151 (.pointer (some ⟨c, 0, none⟩))) ∧ n.kind = 74 ∧ A c ∧ w.heap[c]? = some (.cells #[.string n.text, .nilIface] 153 (0, 0))) ∨
  (∃ (n : Nd) (y z : Tre) (c : Nat) (t : TypeId) (u : Value), x = (.mk n [y, z], .iface 151 (.pointer (some ⟨c, 0, none⟩))) ∧ n.kind = 77 ∧ A c ∧ w.heap[c]? = some (.cells #[.string y.nd.text, .iface t u] 153 (0, 0)) ∧ R (z, .iface t u)) ∨
  (∃ (n : Nd) (ks : List Tre) (g : Nat) (vs : Nat → Value), x = (.mk n ks, .iface 154 (.slice (some ⟨g, 0, none⟩) ks.length ks.length)) ∧ n.kind = 75 ∧ A g ∧ g < w.heap.size ∧ ks.length ≤ 60000 ∧ (∀ j, j < ks.length → w.cell? ⟨g, j, none⟩ = some (vs j)) ∧ ∀ j (h : j < ks.length), R (ks[j], vs j))
structure VRep (w : World) (A : Nat → Prop) (T : Tre) (v : Value) : Prop where
  of ::
  lfp : Lfp (VRepF w A) (T, v)
theorem VRep.grows (w : World) (A : Nat → Prop) : Grows (VRepF w A) := by
  rintro R R' x h (h1 | h1 | h1 | ⟨n, y, z, c, t, u, e, h1, h2, h3, h4⟩ | ⟨n, ks, g, vs, e, h1, h2, h3, h4, h5, h6⟩)
  · exact .inl h1
  · exact .inr (.inl h1)
  · exact .inr (.inr (.inl h1))
  · exact .inr (.inr (.inr (.inl ⟨n, y, z, c, t, u, e, h1, h2, h3, h _ h4⟩)))
  · exact .inr (.inr (.inr (.inr ⟨n, ks, g, vs, e, h1, h2, h3, h4, h5, fun j hj => h _ (h6 j hj)⟩)))
theorem VRep.int {w : World} {A : Nat → Prop} (n : Nd) (ks : List Tre) (h : n.kind = 72) : VRep w A (.mk n ks) (.iface 149 (.int .i64 n.num)) := ⟨Lfp.fold (VRep.grows w A) (.inl ⟨n, ks, rfl, h⟩)⟩
theorem VRep.str {w : World} {A : Nat → Prop} (n : Nd) (ks : List Tre) (h : n.kind = 73) : VRep w A (.mk n ks) (.iface 150 (.string n.text)) := ⟨Lfp.fold (VRep.grows w A) (.inr (.inl ⟨n, ks, rfl, h⟩))⟩
theorem VRep.con {w : World} {A : Nat → Prop} (n : Nd) (ks : List Tre) (h : n.kind = 74) (c : Nat) (hA : A c) (blk : w.heap[c]? = some (.cells #[.string n.text, .nilIface] 153 (0, 0))) : VRep w A (.mk n ks) (.iface 151 (.pointer (some ⟨c, 0, none⟩))) := ⟨Lfp.fold (VRep.grows w A) (.inr (.inr (.inl ⟨n, ks, c, rfl, h, hA, blk⟩)))⟩
theorem VRep.app {w : World} {A : Nat → Prop} (n : Nd) (x y : Tre) (h : n.kind = 77) (c : Nat) (t : TypeId) (u : Value) (hA : A c) (blk : w.heap[c]? = some (.cells #[.string x.nd.text, .iface t u] 153 (0, 0))) (k : VRep w A y (.iface t u)) : VRep w A (.mk n [x, y]) (.iface 151 (.pointer (some ⟨c, 0, none⟩))) := ⟨Lfp.fold (VRep.grows w A) (.inr (.inr (.inr (.inl ⟨n, x, y, c, t, u, rfl, h, hA, blk, k.lfp⟩))))⟩
theorem VRep.tup {w : World} {A : Nat → Prop} (n : Nd) (ks : List Tre) (h : n.kind = 75) (g : Nat) (vs : Nat → Value) (hA : A g) (lt : g < w.heap.size) (small : ks.length ≤ 60000) (cells : ∀ j, j < ks.length → w.cell? ⟨g, j, none⟩ = some (vs j)) (kids : ∀ j (h : j < ks.length), VRep w A ks[j] (vs j)) : VRep w A (.mk n ks) (.iface 154 (.slice (some ⟨g, 0, none⟩) ks.length ks.length)) := ⟨Lfp.fold (VRep.grows w A) (.inr (.inr (.inr (.inr ⟨n, ks, g, vs, rfl, h, hA, lt, small, cells, fun j h => (kids j h).lfp⟩))))⟩
theorem VRep.elim {w : World} {A : Nat → Prop} {motive : ∀ T v, VRep w A T v → Prop}
    (int : ∀ (n : Nd) (ks : List Tre) (h : n.kind = 72), motive (.mk n ks) (.iface 149 (.int .i64 n.num)) (VRep.int n ks h))
    (str : ∀ (n : Nd) (ks : List Tre) (h : n.kind = 73), motive (.mk n ks) (.iface 150 (.string n.text)) (VRep.str n ks h))
    (con : ∀ (n : Nd) (ks : List Tre) (h : n.kind = 74) (c : Nat) (hA : A c) (blk : w.heap[c]? = some (.cells #[.string n.text, .nilIface] 153 (0, 0))), motive (.mk n ks) (.iface 151 (.pointer (some ⟨c, 0, none⟩))) (VRep.con n ks h c hA blk))
    (app : ∀ (n : Nd) (x y : Tre) (h : n.kind = 77) (c : Nat) (t : TypeId) (u : Value) (hA : A c) (blk : w.heap[c]? = some (.cells #[.string x.nd.text, .iface t u] 153 (0, 0))) (k : VRep w A y (.iface t u)), motive y (.iface t u) k → motive (.mk n [x, y]) (.iface 151 (.pointer (some ⟨c, 0, none⟩))) (VRep.app n x y h c t u hA blk k))
    (tup : ∀ (n : Nd) (ks : List Tre) (h : n.kind = 75) (g : Nat) (vs : Nat → Value) (hA : A g) (lt : g < w.heap.size) (small : ks.length ≤ 60000) (cells : ∀ j, j < ks.length → w.cell? ⟨g, j, none⟩ = some (vs j)) (kids : ∀ j (h : j < ks.length), VRep w A ks[j] (vs j)), (∀ j (h : j < ks.length), motive ks[j] (vs j) (kids j h)) → motive (.mk n ks) (.iface 154 (.slice (some ⟨g, 0, none⟩) ks.length ks.length)) (VRep.tup n ks h g vs hA lt small cells kids))
    {T : Tre} {v : Value} (h : VRep w A T v) : motive T v h := by
  have key : ∀ h, motive (T, v).1 (T, v).2 h := Lfp.ind (VRep.grows w A) (p := fun x => ∀ h, motive x.1 x.2 h) (by
    rintro x (⟨n, ks, e, h1⟩ | ⟨n, ks, e, h1⟩ | ⟨n, ks, c, e, h1, h2, h3⟩ | ⟨n, y, z, c, t, u, e, h1, h2, h3, h4⟩ | ⟨n, ks, g, vs, e, h1, h2, h3, h4, h5, h6⟩) h
    · subst e; exact int n ks h1
    · subst e; exact str n ks h1
    · subst e; exact con n ks h1 c h2 h3
    · subst e; exact app n y z h1 c t u h2 h3 ⟨h4.1⟩ (h4.2 _)
    · subst e; exact tup n ks h1 g vs h2 h3 h4 h5 (fun j hj => ⟨(h6 j hj).1⟩) (fun j hj => (h6 j hj).2 _)) h.lfp
  exact key h
theorem VRep.inv {w : World} {A : Nat → Prop} {motive : ∀ T v, VRep w A T v → Prop}
    (int : ∀ (n : Nd) (ks : List Tre) (h : n.kind = 72), motive (.mk n ks) (.iface 149 (.int .i64 n.num)) (VRep.int n ks h))
    (str : ∀ (n : Nd) (ks : List Tre) (h : n.kind = 73), motive (.mk n ks) (.iface 150 (.string n.text)) (VRep.str n ks h))
    (con : ∀ (n : Nd) (ks : List Tre) (h : n.kind = 74) (c : Nat) (hA : A c) (blk : w.heap[c]? = some (.cells #[.string n.text, .nilIface] 153 (0, 0))), motive (.mk n ks) (.iface 151 (.pointer (some ⟨c, 0, none⟩))) (VRep.con n ks h c hA blk))
    (app : ∀ (n : Nd) (x y : Tre) (h : n.kind = 77) (c : Nat) (t : TypeId) (u : Value) (hA : A c) (blk : w.heap[c]? = some (.cells #[.string x.nd.text, .iface t u] 153 (0, 0))) (k : VRep w A y (.iface t u)), motive (.mk n [x, y]) (.iface 151 (.pointer (some ⟨c, 0, none⟩))) (VRep.app n x y h c t u hA blk k))
    (tup : ∀ (n : Nd) (ks : List Tre) (h : n.kind = 75) (g : Nat) (vs : Nat → Value) (hA : A g) (lt : g < w.heap.size) (small : ks.length ≤ 60000) (cells : ∀ j, j < ks.length → w.cell? ⟨g, j, none⟩ = some (vs j)) (kids : ∀ j (h : j < ks.length), VRep w A ks[j] (vs j)), motive (.mk n ks) (.iface 154 (.slice (some ⟨g, 0, none⟩) ks.length ks.length)) (VRep.tup n ks h g vs hA lt small cells kids))
    {T : Tre} {v : Value} (h : VRep w A T v) : motive T v h :=
  VRep.elim int str con (fun n x y h c t u hA blk k _ => app n x y h c t u hA blk k) (fun n ks h g vs hA lt small cells kids _ => tup n ks h g vs hA lt small cells kids) h
theorem VRep.but {w w' : World} {A A' S : Nat → Prop} {T : Tre} {v : Value} (h : VRep w A T v) (hb : But S w w') (hS : ∀ q, A q → ¬ S q) (hA : ∀ q, A q → q < w.heap.size → A' q) : VRep w' A' T v := by
  induction h using VRep.elim with
  | int n ks h => exact .int n ks h
  | str n ks h => exact .str n ks h
  | con n ks h c h1 blk =>
    have l1 := (Array.getElem?_eq_some_iff.1 blk).1
    exact .con n ks h c (hA c h1 l1) ((hb.block c l1 (hS c h1)).trans blk)
  | app n x y h c t u h1 blk k ih =>
    have l1 := (Array.getElem?_eq_some_iff.1 blk).1
    exact .app n x y h c t u (hA c h1 l1) ((hb.block c l1 (hS c h1)).trans blk) ih
  | tup n ks h g vs h1 lg small cells kids ih =>
    have h9 := hb.block g lg (hS g h1)
    refine .tup n ks h g vs (hA g h1 lg) (Nat.lt_of_lt_of_le lg hb.size) small (fun j hj => ?_) ih
    rw [← cells j hj]
    simp only [World.cell?, h9]
theorem VRep.under {w w' : World} {A : Nat → Prop} {T : Tre} {v : Value} (h : VRep w A T v) (hb : Below w.heap.size w w') : VRep w' A T v :=
  h.but (But.ofBelow (S := fun _ => False) hb) (fun _ _ h => h) (fun _ h _ => h)
theorem VRep.wide {w : World} {A A' : Nat → Prop} {T : Tre} {v : Value} (h : VRep w A T v) (hA : ∀ q, A q → q < w.heap.size → A' q) : VRep w A' T v :=
  h.but (But.ofBelow (S := fun _ => False) (Below.refl _ _)) (fun _ _ h => h) hA
theorem VRep.iface {w : World} {A : Nat → Prop} {T : Tre} {v : Value} (h : VRep w A T v) : ∃ t u, v = .iface t u := by
  cases h using VRep.inv with
  | int n ks h => exact ⟨_, _, rfl⟩
  | str n ks h => exact ⟨_, _, rfl⟩
  | con n ks h c h1 blk => exact ⟨_, _, rfl⟩
  | app n x y h c t u h1 blk k => exact ⟨_, _, rfl⟩
  | tup n ks h g vs h1 lg small cells kids => exact ⟨_, _, rfl⟩
def Vals (w : World) (e : TypeId) (B g n : Nat) (xs : List Value) : Prop := xs.length = n ∧ w.ownsRow B e 1 (.slice (some ⟨g, 0, none⟩) n n) n xs
theorem Vals.made {w : World} {e : TypeId} {B n : Nat} {z : Value} (hB : B ≤ w.heap.size) (hn : n ≤ 1048576) : Vals (w.alloc (.cells (madeCells #[z] n) e)) e B w.heap.size n (List.replicate n z) := by
  refine ⟨by simp, by simp, Or.inr ⟨_, n, _, rfl, hB, heap_alloc_new _ _, Nat.le_refl _, by unfold maxLen; omega, ?_, ?_⟩⟩
  · simp [madeCells]
  · rw [List.take_of_length_le (by simp [madeCells])]
    apply List.ext_getElem?
    intro j
    by_cases hj : j < n
    · simp only [madeCells, Array.toList_map, List.getElem?_map, Array.toList_range]
      rw [List.getElem?_range hj, List.getElem?_replicate, if_pos hj]
      simp [Nat.mod_one]
    · rw [List.getElem?_eq_none (by simp [madeCells]; omega), List.getElem?_eq_none (by simp; omega)]
theorem Vals.set {w : World} {e : TypeId} {B g n : Nat} {xs : List Value} (h : Vals w e B g n xs) (j : Nat) (x : Value) : Vals (w.setCell ⟨g, j, none⟩ x) e B g n (xs.set j x) :=
  ⟨by simp [h.1], (h.2.stored j x).1⟩
theorem Vals.frozen {w : World} {e : TypeId} {B g n : Nat} {xs : List Value} (h : Vals w e B g n xs) (j : Nat) : w.frozen? ⟨g, j, none⟩ = false := h.2.frozenAt j
theorem Vals.but {S : Nat → Prop} {w w' : World} {e : TypeId} {B g n : Nat} {xs : List Value} (h : Vals w e B g n xs) (hb : But S w w') (hn : ¬ S g) : Vals w' e B g n xs := ⟨h.1, owns_but h.2 hb hn⟩
theorem Vals.at {w : World} {e : TypeId} {B g n : Nat} {xs : List Value} (h : Vals w e B g n xs) (j : Nat) (hj : j < n) : w.cell? ⟨g, j, none⟩ = xs[j]? := owns_at h.2 j (by omega)
theorem Tryz.infoVP : (Tryz.prog.info? 133).map (fun i => (i.zero, i.size, i.bytes)) = some (some .nilIface, 1, 16) := by kernel_rfl
theorem make_vals (n : Nat) (h : n ≤ 1048576) (w : World) :
    (Instr.makeSlice 154 (.int .i64 (n : Int)) (.int .i64 (n : Int))).run Tryz.prog w = .ok (.slice (some ⟨w.heap.size, 0, none⟩) n n) (w.alloc (.cells (madeCells #[.nilIface] n) 133)) :=
  run_make_row' (P := Tryz.prog) 154 133 .nilIface 16 Tryz.underlying154 Tryz.infoVP rfl .i64 .i64 n (by omega) (by omega) w
def fillV (vs : Nat → Value) (z : Value) (k n : Nat) : List Value := (List.range n).map fun j => if j < k then vs j else z
theorem fillV_len (vs : Nat → Value) (z : Value) (k n : Nat) : (fillV vs z k n).length = n := by simp [fillV]
theorem fillV_zero (vs : Nat → Value) (z : Value) (n : Nat) : fillV vs z 0 n = List.replicate n z := by
  apply List.ext_getElem?
  intro j
  by_cases hj : j < n
  · simp only [fillV, List.getElem?_map, List.getElem?_range hj, List.getElem?_replicate, if_pos hj]
    simp
  · rw [List.getElem?_eq_none (by simp [fillV]; omega), List.getElem?_eq_none (by simp; omega)]
theorem fillV_at (vs : Nat → Value) (z : Value) (k n j : Nat) (hj : j < n) : (fillV vs z k n)[j]? = some (if j < k then vs j else z) := by
  simp only [fillV, List.getElem?_map, List.getElem?_range hj]
  rfl
theorem fillV_set (vs : Nat → Value) (z v : Value) (k n : Nat) (_hk : k < n) : (fillV vs z k n).set k v = fillV (fun j => if j = k then v else vs j) z (k + 1) n := by
  apply List.ext_getElem?
  intro j
  by_cases hj : j < n
  · rw [fillV_at _ _ _ _ _ hj, List.getElem?_set]
    by_cases e : k = j
    · subst e
      rw [if_pos rfl, if_pos (by rw [fillV_len]; omega)]
      simp
    · rw [if_neg e, fillV_at _ _ _ _ _ hj]
      by_cases h2 : j < k
      · rw [if_pos h2, if_pos (by omega), if_neg (fun h => e h.symm)]
      · rw [if_neg h2, if_neg (by omega)]
  · rw [List.getElem?_eq_none (by simp [fillV_len]; omega), List.getElem?_eq_none (by rw [fillV_len]; omega)]
end Go.Proofs.YtemancdlnakkmaaGreat

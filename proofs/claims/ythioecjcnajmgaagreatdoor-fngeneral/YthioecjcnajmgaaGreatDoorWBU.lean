import Derived.Shelf.SlGeneric
import Derived.Shelf.SlLaysM
import Derived.Shelf.SlLaysE
import Derived.Shelf.SortM.Plain
import Derived.Shelf.SlicesE.Compact
import Derived.Ground.SlgmProg
import Derived.Ground.SlgnProg
import Derived.Test.YthioecjcnajmgaaGreatDoorProg
import Derived.Test.YthioecjcnajmgaaGreatDoorWBT
import Derived.Test.YthioecjcnajmgaaGreatDoorWAI
import Derived.Test.YthioecjcnajmgaaGreatDoorWAK
import Derived.Test.YthioecjcnajmgaaGreatDoorWAN
import Derived.Test.YthioecjcnajmgaaGreatDoorWAP
import Derived.Sort.OwnSortedInts
namespace Go.Proofs.YthioecjcnajmgaaGreatDoor

open Go.Shelf

def Tryz.laysU31_ren : Go.Shelf.Ren := ⟨fun | 5 => 31 | 8 => 59 | 7 => 58 | 19 => 85 | 20 => 86 | 10 => 76 | 11 => 77 | 12 => 78 | 13 => 79 | 14 => 80 | 15 => 81 | 16 => 82 | 17 => 83 | 18 => 84 | 30 => 96 | 31 => 97 | 32 => 98 | 33 => 99 | 34 => 100 | 35 => 101 | 40 => 104 | n => n, fun | 23 => 31 | 25 => 2 | 3 => 3 | 32 => 120 | 22 => 31 | 0 => 0 | 44 => 157 | 46 => 159 | 4 => 4 | 36 => 149 | 35 => 148 | 41 => 154 | 5 => 5 | 9 => 9 | 53 => 179 | 57 => 183 | 63 => 194 | 64 => 45 | n => n, fun | n => n⟩
theorem Tryz.laysU31 : Go.Proofs.SlLaysM.n5 Tryz.prog Tryz.laysU31_ren := {
  mixed := by kernel_rfl
  f5 := ⟨Tryz.f31.name, by decide, Tryz.func31.trans (congrArg some (by kernel_rfl))⟩
  f7 := ⟨Tryz.f58.name, by decide, Tryz.func58.trans (congrArg some (by kernel_rfl))⟩
  f8 := Tryz.func59.trans (congrArg some (by kernel_rfl))
  f10 := ⟨Tryz.f76.name, by decide, Tryz.func76.trans (congrArg some (by kernel_rfl))⟩
  f11 := ⟨Tryz.f77.name, by decide, Tryz.func77.trans (congrArg some (by kernel_rfl))⟩
  f12 := ⟨Tryz.f78.name, by decide, Tryz.func78.trans (congrArg some (by kernel_rfl))⟩
  f13 := ⟨Tryz.f79.name, by decide, Tryz.func79.trans (congrArg some (by kernel_rfl))⟩
  f14 := ⟨Tryz.f80.name, by decide, Tryz.func80.trans (congrArg some (by kernel_rfl))⟩
  f15 := ⟨Tryz.f81.name, by decide, Tryz.func81.trans (congrArg some (by kernel_rfl))⟩
  f16 := ⟨Tryz.f82.name, by decide, Tryz.func82.trans (congrArg some (by kernel_rfl))⟩
  f17 := ⟨Tryz.f83.name, by decide, Tryz.func83.trans (congrArg some (by kernel_rfl))⟩
  f18 := ⟨Tryz.f84.name, by decide, Tryz.func84.trans (congrArg some (by kernel_rfl))⟩
  f19 := Tryz.func85.trans (congrArg some (by kernel_rfl))
  f20 := Tryz.func86.trans (congrArg some (by kernel_rfl))
  f30 := ⟨Tryz.f96.name, by decide, Tryz.func96.trans (congrArg some (by kernel_rfl))⟩
  f31 := Tryz.func97.trans (congrArg some (by kernel_rfl))
  f32 := Tryz.func98.trans (congrArg some (by kernel_rfl))
  f33 := ⟨Tryz.f99.name, by decide, Tryz.func99.trans (congrArg some (by kernel_rfl))⟩
  f34 := ⟨Tryz.f100.name, by decide, Tryz.func100.trans (congrArg some (by kernel_rfl))⟩
  f35 := ⟨Tryz.f101.name, by decide, Tryz.func101.trans (congrArg some (by kernel_rfl))⟩
  f40 := ⟨Tryz.f104.name, by decide, Tryz.func104.trans (congrArg some (by kernel_rfl))⟩
  t0 := Tryz.underlying0
  a0 := Tryz.isAgg0
  z0 := Tryz.sizeOf0
  v0 := Tryz.zeroValue0
  t3 := Tryz.underlying3
  a3 := Tryz.isAgg3
  z3 := Tryz.sizeOf3
  v3 := Tryz.zeroValue3
  t4 := Tryz.underlying4
  a4 := Tryz.isAgg4
  z4 := Tryz.sizeOf4
  v4 := Tryz.zeroValue4
  t5 := Tryz.underlying5
  a5 := Tryz.isAgg5
  z5 := Tryz.sizeOf5
  v5 := Tryz.zeroValue5
  t9 := Tryz.underlying9
  a9 := Tryz.isAgg9
  z9 := Tryz.sizeOf9
  v9 := Tryz.zeroValue9
  t22 := Tryz.underlying31
  a22 := Tryz.isAgg31
  z22 := Tryz.sizeOf31
  v22 := Tryz.zeroValue31
  t23 := Tryz.underlying31
  a23 := Tryz.isAgg31
  z23 := Tryz.sizeOf31
  v23 := Tryz.zeroValue31
  t25 := Tryz.underlying2
  a25 := Tryz.isAgg2
  z25 := Tryz.sizeOf2
  v25 := Tryz.zeroValue2
  t32 := Tryz.underlying120
  a32 := Tryz.isAgg120
  z32 := Tryz.sizeOf120
  v32 := Tryz.zeroValue120
  t35 := Tryz.underlying148
  a35 := Tryz.isAgg148
  z35 := Tryz.sizeOf148
  v35 := Tryz.zeroValue148
  t36 := Tryz.underlying149
  a36 := Tryz.isAgg149
  z36 := Tryz.sizeOf149
  v36 := Tryz.zeroValue149
  t41 := Tryz.underlying154
  a41 := Tryz.isAgg154
  z41 := Tryz.sizeOf154
  v41 := Tryz.zeroValue154
  t44 := Tryz.underlying157
  a44 := Tryz.isAgg157
  z44 := Tryz.sizeOf157
  v44 := Tryz.zeroValue157
  t46 := Tryz.underlying159
  a46 := Tryz.isAgg159
  z46 := Tryz.sizeOf159
  v46 := Tryz.zeroValue159
  t53 := Tryz.underlying179
  a53 := Tryz.isAgg179
  z53 := Tryz.sizeOf179
  v53 := Tryz.zeroValue179
  t57 := Tryz.underlying183
  a57 := Tryz.isAgg183
  z57 := Tryz.sizeOf183
  v57 := Tryz.zeroValue183
  t63 := Tryz.underlying194
  a63 := Tryz.isAgg194
  z63 := Tryz.sizeOf194
  v63 := Tryz.zeroValue194
  t64 := Tryz.underlying45
  a64 := Tryz.isAgg45
  z64 := Tryz.sizeOf45
  v64 := Tryz.zeroValue45 }
def Tryz.laysU32_ren : Go.Shelf.Ren := ⟨fun | 43 => 32 | n => n, fun | 22 => 31 | 23 => 2 | 3 => 3 | 4 => 4 | 0 => 0 | n => n, fun | n => n⟩
theorem Tryz.laysU32 : Go.Proofs.SlLaysE.n43 Tryz.prog Tryz.laysU32_ren := {
  mixed := by kernel_rfl
  f43 := ⟨Tryz.f32.name, by decide, Tryz.func32.trans (congrArg some (by kernel_rfl))⟩
  t0 := Tryz.underlying0
  a0 := Tryz.isAgg0
  z0 := Tryz.sizeOf0
  v0 := Tryz.zeroValue0
  t3 := Tryz.underlying3
  a3 := Tryz.isAgg3
  z3 := Tryz.sizeOf3
  v3 := Tryz.zeroValue3
  t4 := Tryz.underlying4
  a4 := Tryz.isAgg4
  z4 := Tryz.sizeOf4
  v4 := Tryz.zeroValue4
  t22 := Tryz.underlying31
  a22 := Tryz.isAgg31
  z22 := Tryz.sizeOf31
  v22 := Tryz.zeroValue31
  a23 := Tryz.isAgg2
  z23 := Tryz.sizeOf2 }

end Go.Proofs.YthioecjcnajmgaaGreatDoor

namespace Go.Proofs.YthioecjcnajmgaaGreatDoor

open Go.RowKit

/-! Pairs that a law copies and marks. -/

/-- The Pairs that lead to the rows gs, two each. -/
def leadQ (gs : List (Nat × Nat)) (ps : List (List Nd × List Nd)) : List (Value × Value) := List.zipWith (fun h p => (.slice (some ⟨h.1, 0, none⟩) p.1.length p.1.length, .slice (some ⟨h.2, 0, none⟩) p.2.length p.2.length)) gs ps

/-- Block g is a row of Pairs of the call's own. -/
def OwnQ (w : World) (g : Nat) (qs : List (Value × Value)) : Prop := OwnT 30 w g (cells2 qs)

theorem OwnQ.ne {w : World} {g h : Nat} {qs : List (Value × Value)} {ds : List Value} (a : OwnQ w g qs) (b : Own w h ds) : h ≠ g := by
  rintro rfl
  obtain ⟨cur, _, hg, _⟩ := a
  obtain ⟨cur', _, hg', _⟩ := b
  rw [hg] at hg'
  simp at hg'

theorem OwnQ.at {w : World} {g : Nat} {qs : List (Value × Value)} (h : OwnQ w g qs) (i : Nat) (hi : i < qs.length) : w.cell? ⟨g, i * 2, none⟩ = some qs[i].1 ∧ w.cell? ⟨g, i * 2 + 1, none⟩ = some qs[i].2 := by
  have hl := cells2_length qs
  obtain ⟨h1, h2⟩ := cells2_get qs i hi
  exact ⟨(OwnT.at h _ (by omega)).trans h1, (OwnT.at h _ (by omega)).trans h2⟩

theorem OwnQ.put {w : World} {g : Nat} {qs : List (Value × Value)} (h : OwnQ w g qs) (j : Nat) (hj : j < qs.length) (a b : Value) : OwnQ ((w.setCell ⟨g, j * 2, none⟩ a).setCell ⟨g, j * 2 + 1, none⟩ b) g (qs.set j (a, b)) := by
  have hl := cells2_length qs
  have h9 := OwnT.set (OwnT.set h (j * 2) a (by omega)) (j * 2 + 1) b (by simp; omega)
  rw [cells2_set qs j (a, b)] at h9
  exact h9

/-- The rows of k Pairs, no two of them one. -/
structure RowsQ (w : World) (gs : List (Nat × Nat)) (ps : List (List Nd × List Nd)) (lo hi : Nat) : Prop where
  len : gs.length = ps.length
  rows : ∀ i (h : i < gs.length) (h' : i < ps.length), Row w gs[i].1 ps[i].1 ∧ Row w gs[i].2 ps[i].2
  inn : ∀ i (h : i < gs.length), (lo ≤ gs[i].1 ∧ gs[i].1 < hi) ∧ lo ≤ gs[i].2 ∧ gs[i].2 < hi
  two : ∀ i (h : i < gs.length), gs[i].1 ≠ gs[i].2
  apart : ∀ i j (h : i < gs.length) (h' : j < gs.length), i < j → gs[i].1 ≠ gs[j].1 ∧ gs[i].1 ≠ gs[j].2 ∧ gs[i].2 ≠ gs[j].1 ∧ gs[i].2 ≠ gs[j].2

theorem RowsQ.below {w w' : World} {gs : List (Nat × Nat)} {ps : List (List Nd × List Nd)} {lo hi : Nat} (h : RowsQ w gs ps lo hi) (hb : Below w.heap.size w w') : RowsQ w' gs ps lo hi :=
  ⟨h.len, fun i a b => ⟨(h.rows i a b).1.below hb, (h.rows i a b).2.below hb⟩, h.inn, h.two, h.apart⟩

theorem RowsQ.snoc {w : World} {gs : List (Nat × Nat)} {ps : List (List Nd × List Nd)} {lo hi hi' : Nat} {p : List Nd × List Nd} {g : Nat × Nat} (h : RowsQ w gs ps lo hi) (hlo : lo ≤ hi) (r1 : Row w g.1 p.1) (r2 : Row w g.2 p.2) (h1 : hi ≤ g.1 ∧ g.1 < hi') (h2 : hi ≤ g.2 ∧ g.2 < hi') (hne : g.1 ≠ g.2) : RowsQ w (gs ++ [g]) (ps ++ [p]) lo hi' := by
  have key : ∀ i (hi1 : i < (gs ++ [g]).length), (∃ h0 : i < gs.length, (gs ++ [g])[i] = gs[i]) ∨ (i = gs.length ∧ (gs ++ [g])[i] = g) := by
    intro i hi1
    by_cases h0 : i < gs.length
    · exact .inl ⟨h0, List.getElem_append_left h0⟩
    · have e : i = gs.length := by simp at hi1; omega
      subst e
      exact .inr ⟨rfl, by simp⟩
  refine ⟨by simp [h.len], fun i a b => ?_, fun i a => ?_, fun i a => ?_, fun i j a b hij => ?_⟩
  · rcases key i a with ⟨h0, e⟩ | ⟨h0, e⟩
    · have h0' : i < ps.length := by have := h.len; omega
      have e2 : (ps ++ [p])[i] = ps[i] := List.getElem_append_left h0'
      rw [e, e2]
      exact h.rows i h0 h0'
    · have e2 : (ps ++ [p])[i] = p := by
        have e3 : i = ps.length := by have := h.len; omega
        subst e3
        simp
      rw [e, e2]
      exact ⟨r1, r2⟩
  · rcases key i a with ⟨h0, e⟩ | ⟨h0, e⟩
    · rw [e]
      have := h.inn i h0
      omega
    · rw [e]
      omega
  · rcases key i a with ⟨h0, e⟩ | ⟨h0, e⟩
    · rw [e]
      exact h.two i h0
    · rw [e]
      exact hne
  · rcases key i a with ⟨h0, e⟩ | ⟨h0, e⟩
    · rcases key j b with ⟨h3, e3⟩ | ⟨h3, e3⟩
      · rw [e, e3]
        exact h.apart i j h0 h3 hij
      · rw [e, e3]
        have := h.inn i h0
        omega
    · rcases key j b with ⟨h3, e3⟩ | ⟨h3, e3⟩ <;> omega

/-- All of it. -/
structure TwoQ (w : World) (g : Nat) (gs : List (Nat × Nat)) (ps : List (List Nd × List Nd)) (lo hi : Nat) : Prop where
  lead : OwnQ w g (leadQ gs ps)
  rows : RowsQ w gs ps lo hi
  gin : lo ≤ g ∧ g < hi

theorem TwoQ.below {w w' : World} {g : Nat} {gs : List (Nat × Nat)} {ps : List (List Nd × List Nd)} {lo hi : Nat} (h : TwoQ w g gs ps lo hi) (hb : Below w.heap.size w w') : TwoQ w' g gs ps lo hi :=
  ⟨OwnT.below h.lead hb, h.rows.below hb, h.gin⟩

theorem TwoQ.get {w : World} {g : Nat} {gs : List (Nat × Nat)} {ps : List (List Nd × List Nd)} {lo hi : Nat} (h : TwoQ w g gs ps lo hi) (i : Nat) (hi' : i < ps.length) (hg : i < gs.length) :
    w.cell? ⟨g, i * 2, none⟩ = some (.slice (some ⟨gs[i].1, 0, none⟩) ps[i].1.length ps[i].1.length) ∧ w.cell? ⟨g, i * 2 + 1, none⟩ = some (.slice (some ⟨gs[i].2, 0, none⟩) ps[i].2.length ps[i].2.length) := by
  obtain ⟨h1, h2⟩ := h.lead.at i (by simp [leadQ]; omega)
  refine ⟨?_, ?_⟩
  · rw [h1]; simp [leadQ]
  · rw [h2]; simp [leadQ]

theorem TwoQ.pairs {w : World} {g : Nat} {gs : List (Nat × Nat)} {ps : List (List Nd × List Nd)} {lo hi : Nat} (h : TwoQ w g gs ps lo hi) : Pairs w (some ⟨g, 0, none⟩) ps := by
  intro i hi'
  have hg : i < gs.length := by have := h.rows.len; omega
  obtain ⟨h1, h2⟩ := h.get i hi' hg
  obtain ⟨r1, r2⟩ := h.rows.rows i hg hi'
  exact ⟨g, 0, _, _, _, _, rfl, by rw [Nat.zero_add]; exact h1, by rw [Nat.zero_add]; exact h2, r1.nodes, r2.nodes⟩



theorem solve_len {ps : List (List Nd × List Nd)} {ok : Bool} {at' : Int} {bs : List (Int × List Nd)} (h : SolveRes ps ok at' bs) : bs.length ≤ 20000 ∧ ∀ b ∈ bs, b.2.length ≤ 300 := by
  cases h using SolveRes.inv with
  | bad _ => exact ⟨by simp, by simp⟩
  | no _ _ _ _ _ => exact ⟨by simp, by simp⟩
  | large _ _ _ _ _ _ => exact ⟨by simp, by simp⟩
  | ok σ _ hv _ hup hocc hlen =>
    refine ⟨?_, fun b hb => (hlen b hb).2⟩
    have h1 : (nums bs).length ≤ (ps.flatMap fun p => metas p.1 ++ metas p.2).length := by
      refine nodup_len (hup.imp (fun {a b} hab e => by omega)) (fun x hx => ?_)
      obtain ⟨p, hp, h⟩ := (hocc x).1 hx
      refine List.mem_flatMap.2 ⟨p, hp, ?_⟩
      exact List.mem_append.2 h
    have h2 : ∀ qs : List (List Nd × List Nd), (qs.flatMap fun p => metas p.1 ++ metas p.2).length ≤ (qs.map fun p => p.1.length + p.2.length).sum := by
      intro qs
      induction qs with
      | nil => simp
      | cons q qs ih =>
        have h3 := metas_len q.1
        have h4 := metas_len q.2
        simp only [List.flatMap_cons, List.length_append, List.map_cons, List.sum_cons]
        omega
    have h3 := h2 ps
    have h4 := hv.1
    have h5 : (nums bs).length = bs.length := by simp [nums]
    omega

end Go.Proofs.YthioecjcnajmgaaGreatDoor

namespace Go.Proofs.YthioecjcnajmgaaGreatDoor

open Go.RowKit Go.Sort Go.Lib

/-- The numbers of the unknowns, in their order. -/
def metaNums (t : List Nd) : List Int := (t.filter (fun n => n.kind == 61)).map Nd.num

theorem metaNums_take (t : List Nd) (k : Nat) (h : k < t.length) : metaNums (t.take (k + 1)) = if t[k].kind = 61 then metaNums (t.take k) ++ [t[k].num] else metaNums (t.take k) := by
  unfold metaNums
  rw [List.take_succ_eq_append_getElem h, List.filter_append, List.map_append]
  by_cases h1 : t[k].kind = 61
  · simp [h1]
  · simp [h1]

theorem metaNums_len (t : List Nd) : (metaNums t).length ≤ t.length := by
  unfold metaNums
  rw [List.length_map]
  exact List.length_filter_le _ _

theorem metaNums_mem (t : List Nd) (x : Int) : x ∈ metaNums t ↔ ∃ n ∈ t, n.kind = 61 ∧ n.num = x := by
  simp only [metaNums, List.mem_map, List.mem_filter, beq_iff_eq, and_assoc]

theorem compact_facts (d : Array Int) (hs : ∀ i j, i ≤ j → j < d.size → d[i]! ≤ d[j]!) (m : Nat) (hm : m ≤ d.size) :
    (compactUpTo d m).Pairwise (· < ·) ∧ (∀ x, x ∈ compactUpTo d m ↔ ∃ j, j < m ∧ d[j]! = x) ∧ (compactUpTo d m).length ≤ m := by
  induction m with
  | zero => simp [compactUpTo]
  | succ m ih =>
    obtain ⟨h1, h2, h3⟩ := ih (by omega)
    rw [compactUpTo_succ]
    by_cases hk : keeps d m = true
    · rw [if_pos hk]
      refine ⟨?_, ?_, by simp; omega⟩
      · rw [List.pairwise_append]
        refine ⟨h1, by simp, ?_⟩
        intro x hx y hy
        simp only [List.mem_singleton] at hy
        subst hy
        obtain ⟨j, hj, rfl⟩ := (h2 x).1 hx
        have hne : d[m]! ≠ d[m - 1]! := by
          simp only [keeps, decide_eq_true_eq] at hk
          rcases hk with h | h
          · omega
          · exact h
        have a1 := hs j (m - 1) (by omega) (by omega)
        have a2 := hs (m - 1) m (by omega) (by omega)
        omega
      · intro x
        rw [List.mem_append, h2 x, List.mem_singleton]
        constructor
        · rintro (⟨j, hj, e⟩ | e)
          · exact ⟨j, by omega, e⟩
          · exact ⟨m, by omega, e.symm⟩
        · rintro ⟨j, hj, e⟩
          by_cases hjm : j = m
          · subst hjm; exact Or.inr e.symm
          · exact Or.inl ⟨j, by omega, e⟩
    · rw [if_neg hk]
      have hk2 : m ≠ 0 ∧ d[m]! = d[m - 1]! := by
        simp only [keeps, decide_eq_true_eq, not_or, Classical.not_not] at hk
        exact hk
      refine ⟨by simpa using h1, ?_, by simp; omega⟩
      intro x
      rw [List.append_nil, h2 x]
      constructor
      · rintro ⟨j, hj, e⟩
        exact ⟨j, by omega, e⟩
      · rintro ⟨j, hj, e⟩
        by_cases hjm : j = m
        · subst hjm; exact ⟨j - 1, by omega, by rw [← hk2.2]; exact e⟩
        · exact ⟨j, by omega, e⟩

theorem unk_same (t : List Nd) (ht : typeb t = true) : compactUpTo (((metaNums t).mergeSort fun x y => decide (x ≤ y)).toArray) (((metaNums t).mergeSort fun x y => decide (x ≤ y)).toArray).size = unkOf t := by
  obtain ⟨u1, u2⟩ := unkOf_facts t ht
  have hp : ((metaNums t).mergeSort fun x y => decide (x ≤ y)).Pairwise (· ≤ ·) := by
    have := List.pairwise_mergeSort (le := fun x y : Int => decide (x ≤ y)) (fun a b c h1 h2 => by simp at *; omega) (fun a b => by simp; omega) (metaNums t)
    simpa using this
  have hm : ∀ x, x ∈ ((metaNums t).mergeSort fun x y => decide (x ≤ y)) ↔ x ∈ metaNums t := fun x => (List.mergeSort_perm _ _).mem_iff
  generalize (metaNums t).mergeSort (fun x y => decide (x ≤ y)) = L at hp hm
  have hget : ∀ i (h : i < L.length), L.toArray[i]! = L[i] := by
    intro i h
    simp [h]
  obtain ⟨c1, c2, _⟩ := compact_facts L.toArray (by
    intro i j hij hj
    have hj' : j < L.length := by simpa using hj
    rw [hget i (by omega), hget j hj']
    by_cases h : i = j
    · subst h; exact Int.le_refl _
    · exact (List.pairwise_iff_getElem.1 hp) i j (by omega) hj' (by omega)) L.toArray.size (Nat.le_refl _)
  refine rising_same c1 u1 ?_
  intro x
  rw [c2 x, u2 x, ← metaNums_mem, ← hm x]
  constructor
  · rintro ⟨j, hj, rfl⟩
    have hj' : j < L.length := by simpa using hj
    rw [hget j hj']
    exact List.getElem_mem hj'
  · intro hx
    obtain ⟨j, hj, e⟩ := List.getElem_of_mem hx
    exact ⟨j, by simpa using hj, by rw [hget j hj]; exact e⟩

theorem LRow.holds {w : World} {g : Nat} {xs : List Int} (h : LRow w g xs) : Holds (Value.int .i64) w g 0 xs.toArray := by
  intro j hj
  have hj' : j < xs.length := by simpa using hj
  rw [Nat.zero_add]
  refine ⟨?_, h.frozen j⟩
  rw [h.at j hj']
  simp [hj']

/-- A row of int64s, written anew over its length. -/
theorem LRow.sorted {w : World} {g q : Nat} {os : Array Obj} {xs ys : List Int} (h : LRow w g xs) (hl : ys.length = xs.length) : LRow (grow (putRow (Value.int .i64) (Sort.ahead w q) g 0 ys.toArray) os) g ys := by
  obtain ⟨cur, rest, hb, e⟩ := h
  have hc : ys.length ≤ cur.size := by
    rw [← Array.length_toList, e, List.length_append]
    simp [ints]
    omega
  refine ⟨_, (putCells (Value.int .i64) 0 ys.toArray cur).toList.drop ys.length, heap_sortedI ys.toArray hb, ?_⟩
  have h9 := take_putCellsI cur ys hc
  have h10 := List.take_append_drop ys.length (putCells (Value.int .i64) 0 ys.toArray cur).toList
  rw [h9] at h10
  exact h10.symm

theorem LRow.front {w : World} {g : Nat} {xs ys : List Int} (h : LRow w g (xs ++ ys)) : LRow w g xs := by
  obtain ⟨cur, rest, hb, e⟩ := h
  refine ⟨cur, ints ys ++ rest, hb, ?_⟩
  rw [e, ← List.append_assoc]
  simp [ints]

theorem grow_none (w : World) : grow w #[] = w := by simp [grow]

theorem below_sorted {w : World} {g q : Nat} {os : Array Obj} {B : Nat} {w0 : World} (d : Array Int) (h : Below B w0 w) (hg : B ≤ g) (hz : g < w.heap.size) : Below B w0 (grow (putRow (Value.int .i64) (Sort.ahead w q) g 0 d) os) :=
  h.grown (grownBy_sortedI d) (by omega) (fun j hj => by cases hj; exact hg)

set_option maxRecDepth 100000 in
set_option maxHeartbeats 2000000 in
theorem implUnknowns_any (t : List Nd) (m : Nat) (HM : Hid (t.length = m)) (hm : m ≤ 1048576) (ao : Option Addr) (cap : Nat) (w : World) (hx : Nodes w ao t) :
    Calls Tryz.prog 9 #[.slice ao m cap] w fun e w' => ∃ ag cg, e = .returned (.slice ag (unkOf t).length cg) ∧ LAns w' w.heap.size ag (unkOf t) ∧ Below w.heap.size w w' := by
  obtain ⟨i1, hj1, hy0, hy1, hy2⟩ := info_parts Tryz.infoL
  have hA : Below w.heap.size w (w.alloc (.cells #[] 2)) := (Below.refl _ w).alloc (Nat.le_refl _) _
  have hO := Longs.empty (w := w) (B := w.heap.size) (Nat.le_refl _)
  go_enter Tryz.func9, Tryz.ntmps9
  go_wp2_with fail
  refine (iIsType_any t m HM hm ao cap _ (hx.below hA)).mono ?_
  rintro e w1 ⟨rfl, hb1⟩
  have hO1 := hO.below hb1
  have hb := Below.step hA hb1
  clear hO hA hb1
  cases ht : typeb t
  · have HV : Hid (unkOf t = []) := by simp only [unkOf, ht, Hid]; rfl
    clear hO1 hx
    go_wp2
    go_ret
    rw [HV.out]
    exact ⟨_, _, rfl, Or.inl rfl, hb⟩
  · have HU : Hid (compactUpTo (((metaNums t).mergeSort fun x y => decide (x ≤ y)).toArray) (((metaNums t).mergeSort fun x y => decide (x ≤ y)).toArray).size = unkOf t) := unk_same t ht
    have h3 : m ≤ 300 := by
      have h9 := ht
      simp only [typeb, Bool.and_eq_true, decide_eq_true_eq] at h9
      have := HM.out
      omega
    clear ht
    go_wp2
    go_loopw [3, 13] (fun v p wr => ∃ (k g c l : Nat), k ≤ m ∧ p = .int .i64 k ∧ v = .slice (some ⟨g, 0, none⟩) l c ∧ Longs wr w.heap.size g c l (metaNums (t.take k)) ∧ Below w.heap.size w wr) (fun _ p _ => m - (intOf p).toNat)
    case atStart => exact ⟨0, w.heap.size, 0, 0, Nat.zero_le _, rfl, rfl, hO1, hb⟩
    case round =>
      clear hO1 hb
      obtain ⟨k, g, c, l, hk, rfl, rfl, hown, hb⟩ := hrel
      have hll : l ≤ k := by have := metaNums_len (t.take k); have := hown.1; simp at *; omega
      by_cases hlt : k < m
      · have hltx : k < t.length := by have := HM.out; omega
        have hstep := metaNums_take t k hltx
        obtain ⟨⟨kd, nm, tx, ks, pl⟩, hxk⟩ : ∃ x, t[k] = x := ⟨_, rfl⟩
        obtain ⟨b, o, rfl, hcx⟩ := hx.below hb k hltx
        rw [hxk] at hcx hstep
        simp only at hstep
        obtain ⟨c0, c1, c2, c3, c4⟩ := hcx
        have hlb : b < wr.heap.size := lt_of_cell c0
        have hob := hown.block
        generalize metaNums (t.take k) = ms at *
        have HS : Hid (metaNums (t.take (k + 1)) = if kd = 61 then ms ++ [nm] else ms) := hstep
        clear hx hxk hstep
        by_cases h61 : kd = 61
        · subst h61
          have HT : Hid (metaNums (t.take (k + 1)) = ms ++ [nm]) := by rw [Hid, HS.out, if_pos rfl]
          clear HS
          have hown2 := (hown.alloc (.cells #[.int .i64 61, .int .i64 nm, .string tx, .int .i64 ks, .int .i64 pl] 40)).alloc (.cells #[.int .i64 nm] 2)
          have hb2 := (hb.alloc hb.size (.cells #[.int .i64 61, .int .i64 nm, .string tx, .int .i64 ks, .int .i64 pl] 40))
          have hone := one_cell2 (wr.alloc (.cells #[.int .i64 61, .int .i64 nm, .string tx, .int .i64 ks, .int .i64 pl] 40)) (.int .i64 nm)
          rw [World.size_alloc] at hone
          go_wp2_with (at_builtin; refine wpList_append2 _ rfl (.tmp 20) (.tmp 23) 31 rfl w.heap.size 2 i1 _ 1 8 Tryz.underlying31 hj1 hy0 hy1 hy2 rfl (by decide) g l c _ rfl hown2.2 ⟨_, 0, none⟩ 1 1 [.int .i64 nm] rfl rfl hone (one_one _) ?b3 ?b4 ?b5 ?_)
          case b3 => unfold maxLen; omega
          case b4 => omega
          case b5 => have := hb2.size; simp at *; omega
          intro g5 c5 w5 hown5 hgrow5 hwh5
          have hO5 := Longs.push hown5 hown.1 rfl
          have hb5 : Below w.heap.size w w5 := (hb2.alloc hb2.size _).grown hgrow5 (hb2.alloc hb2.size _).size (fun j hj => by cases hj; exact hob.1)
          clear hown5 hgrow5 hwh5 hown2 hb2 hone hown hb
          go_wp2
          go_roundw
          case rel => exact ⟨k + 1, g5, c5, l + 1, by omega, by go_num, rfl, by rw [HT.out]; exact hO5, hb5⟩
          case measure => simp [intOf]; omega
        · have t61 : ((kd : Int) == 61) = false := by simpa using h61
          have HT : Hid (metaNums (t.take (k + 1)) = ms) := by rw [Hid, HS.out, if_neg h61]
          clear HS
          go_wp2
          go_roundw
          case rel => exact ⟨k + 1, g, c, l, by omega, by go_num, rfl, by rw [HT.out]; exact hown.alloc _, hb.alloc hb.size _⟩
          case measure => simp [intOf]; omega
      · have hkm : k = m := by omega
        subst hkm
        have HN : Hid (metaNums (t.take k) = metaNums t) := by rw [Hid, List.take_of_length_le (by have := HM.out; omega)]
        rw [HN.out] at hown
        obtain ⟨hg, hr⟩ := hown.row
        have hcap : l ≤ c := by
          obtain ⟨_, h9⟩ := hown.2
          rcases h9 with ⟨h0, _⟩ | ⟨_, _, _, h0, _, _, h1, _⟩
          · simp at h0
          · simp at h0
            omega
        have hn := hown.1
        have hz := hr.lt
        obtain ⟨ys, hys⟩ : ∃ ys, (metaNums t).mergeSort (fun x y => decide (x ≤ y)) = ys := ⟨_, rfl⟩
        have hyl : ys.length = l := by rw [← hys, List.length_mergeSort]; exact hn
        have HS := AnyM.slices_Sort_int Tryz.laysU31 g 0 c (metaNums t) wr hr.holds hz (by omega)
        rw [hys, hn] at HS
        change Calls Tryz.prog 31 _ _ _ at HS
        rw [hys] at HU
        have hru := fun q os => (hr.sorted (q := q) (os := os) (ys := ys) (by omega))
        clear hown hx HN hys
        go_wp2_with fail
        refine HS.mono ?_
        rintro e w2 ⟨rfl, q, os, rfl⟩
        have hr2 := hru q os
        have hb2 := below_sorted (q := q) (os := os) ys.toArray hb hg hz
        generalize grow (putRow (Value.int .i64) (Sort.ahead wr q) g 0 ys.toArray) os = w2 at *
        clear HS hru hr hb hz
        have HC := AnyE.slices_Compact Tryz.laysU32 (Value.int .i64) (fun _ => rfl) (EqlAt.intD _ _ _) (NeqAt.intD _ _ _) 0 (fun w => by kernel_rfl) g 0 c ys.toArray w2 hr2.holds (by simp; omega) (by simp; omega)
        rw [HU.out] at HC
        have hlen : (unkOf t).length ≤ l := by
          rw [← HU.out, compactUpTo, List.length_map]
          refine Nat.le_trans (List.length_filter_le _ _) ?_
          simp [hyl]
        obtain ⟨p, hp⟩ : ∃ p, (unkOf t).length = p := ⟨_, rfl⟩
        have HP : Hid ((unkOf t).length = p) := hp
        simp only [List.size_toArray, hyl, hp] at HC
        change Calls Tryz.prog 32 _ _ _ at HC
        have hrc := fun q => (hr2.sorted (q := q) (os := #[]) (ys := unkOf t ++ List.replicate (l - p) 0) (by simp [hp, hyl]; omega))
        have hbc := fun q => below_sorted (q := q) (os := #[]) (unkOf t ++ List.replicate (l - p) 0).toArray hb2 hg hr2.lt
        simp only [grow_none] at hrc hbc
        clear hp hlen hr2 hb2 HU
        go_wp2_with fail
        refine HC.mono ?_
        rintro e w3 ⟨rfl, q, rfl⟩
        have hr3 := (hrc q).front
        have hb3 := hbc q
        generalize putRow (Value.int .i64) (Sort.ahead w2 q) g 0 (unkOf t ++ List.replicate (l - p) 0).toArray = w3 at *
        clear HC hrc hbc
        go_wp2
        go_ret
        rw [HP.out]
        exact ⟨_, _, rfl, Or.inr ⟨g, rfl, hg, hr3⟩, hb3⟩

end Go.Proofs.YthioecjcnajmgaaGreatDoor

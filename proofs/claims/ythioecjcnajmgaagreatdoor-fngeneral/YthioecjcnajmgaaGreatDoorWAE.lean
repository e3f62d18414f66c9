import Derived.Test.YthioecjcnajmgaaGreatDoorWAA
import Derived.Deep.RegionLaw
import Derived.Test.YthioecjcnajmgaaGreatDoorProg
import Derived.Deep.Light
import Derived.Deep.RegionWith
import Derived.Laws.BytesArg
import Derived.Test.YthioecjcnajmgaaGreatDoorWAD
namespace Go.Proofs.YthioecjcnajmgaaGreatDoor
open Go.RowKit

section
variable {P : Program} (w : World)

/-- Where the new slice lies: where the old one lay, or in a new block. -/
theorem append_where (t ty e : TypeId) (i : TypeInfo) (z : Value) (ht : P.underlying t = some (.slice e)) (hi : P.info? e = some i) (hz : i.zero = some z)
    (base g n cap : Nat) (xs : List Value) (hown : w.ownsRow base e i.size (.slice (some ⟨g, 0, none⟩) n cap) n xs)
    (a : Addr) (m c : Nat) (news : List Value) (hl : news.length = m * i.size) (hnews : ∀ j u, news[j]? = some u → w.cell? (a.add j) = some u) (h1 : ∀ u ∈ news, u.oneCell' = true)
    (h63 : n + m ≤ maxLen) (hbytes : (n + m) * i.bytes ≤ 140737488355328) {v' : Value} {w' : World}
    (hr : (Builtin.append_ #[t, t] ty #[.slice (some ⟨g, 0, none⟩) n cap, .slice (some a) m c]).run P w = .ok v' w') :
    ∃ g' cap', v' = .slice (some ⟨g', 0, none⟩) (n + m) cap' ∧ (g' = g ∨ g' = w.heap.size) := by
  rcases hown.2 with ⟨h, _⟩ | ⟨g2, cap2, cur, he, _, hg, hnc, hcm, hcs, htake⟩
  · cases h
  · simp only [Value.slice.injEq, Option.some.injEq, Addr.mk.injEq, and_true, true_and] at he
    obtain ⟨rfl, rfl⟩ := he
    have hsmall : n + m ≤ 9223372036854775807 := by simp only [maxLen] at h63; omega
    by_cases hroom : n + m ≤ cap
    · have hfit : n * i.size + news.length ≤ cur.size := by rw [hl, hcs, ← Nat.add_mul]; exact Nat.mul_le_mul_right _ hroom
      have h2 := run_append_room (P := P) w t ty e i ht hi g n cap cur hg a m c news hl hnews h1 hroom hfit
      rw [h2] at hr
      simp only [Result.ok.injEq] at hr
      exact ⟨g, cap, hr.1.symm, Or.inl rfl⟩
    · have holds : ∀ j u, xs[j]? = some u → w.cell? ((⟨g, 0, none⟩ : Addr).add j) = some u := hown.cells (g := g) rfl
      have h2 := run_append_grow (P := P) w t ty e i z ht hi hz ⟨g, 0, none⟩ n cap xs hown.1 holds a m c news hl hnews (by omega) (by omega) (growslice_fits (by omega) hbytes)
      rw [h2] at hr
      simp only [Result.ok.injEq] at hr
      exact ⟨w.heap.size, _, hr.1.symm, Or.inr rfl⟩

/-- append to a slice of the call's own that is not nil, as one operation. -/
theorem wp_append2 {o : Oper} {a : Act} {K : Act → World → Prop} {Q : Exit → Act → World → Prop} (s x : Operand) (t : TypeId)
    (ho : o.op = .call { callee := .builtin .append, args := #[s, x], argTypes := #[t, t] })
    (base : Nat) (e : TypeId) (i : TypeInfo) (z : Value) (size bytes : Nat) (ht : P.underlying t = some (.slice e)) (hi : P.info? e = some i) (hz : i.zero = some z)
    (hsize : i.size = size) (hby : i.bytes = bytes) (hzs : z.cells.size = size) (hsz : 0 < size)
    (g n cap : Nat) (xs : List Value) (hs : a.eval s = .slice (some ⟨g, 0, none⟩) n cap) (hown : w.ownsRow base e size (.slice (some ⟨g, 0, none⟩) n cap) n xs)
    (ad : Addr) (m c : Nat) (news : List Value) (hx : a.eval x = .slice (some ad) m c) (hl : news.length = m * size) (hnews : ∀ j u, news[j]? = some u → w.cell? (ad.add j) = some u) (h1 : ∀ u ∈ news, u.oneCell' = true)
    (h63 : n + m ≤ maxLen) (hbytes : (n + m) * bytes ≤ 140737488355328) (hbase : base ≤ w.heap.size)
    (h : ∀ g' cap' w', w'.ownsRow base e size (.slice (some ⟨g', 0, none⟩) (n + m) cap') (n + m) (xs ++ news) → w.grownBy w' (some g) → (g' = g ∨ g' = w.heap.size) → K (a.put o.dst (.slice (some ⟨g', 0, none⟩) (n + m) cap')) w') : o.wp P a w K Q := by
  subst hsize hby
  obtain ⟨v', w', hr, h2, h3, h4⟩ := run_append_own (P := P) w base t o.type e i z i.size i.bytes ht hi hz rfl rfl hzs hsz _ n xs hown ad m c news hl hnews h1 h63 hbytes hbase
  obtain ⟨g', cap', rfl, hw⟩ := append_where w t o.type e i z ht hi hz base g n cap xs hown ad m c news hl hnews h1 h63 hbytes hr
  unfold Oper.wp execOp
  simp only [ho, resolve, invoke, builtin, Sem.run_bind, Sem.run_pure, Result.andThen_ok, List.map_toArray, List.map_cons, List.map_nil, hs, hx, hr]
  exact h g' cap' w' h2 h3 hw

/-- .. in a row of operations. -/
theorem wpList_append2 {ops : Array Oper} {rest : List Oper} {o : Oper} {a : Act} {Q : Exit → Act → World → Prop} (hgd : o.guard = none) (s x : Operand) (t : TypeId)
    (ho : o.op = .call { callee := .builtin .append, args := #[s, x], argTypes := #[t, t] })
    (base : Nat) (e : TypeId) (i : TypeInfo) (z : Value) (size bytes : Nat) (ht : P.underlying t = some (.slice e)) (hi : P.info? e = some i) (hz : i.zero = some z)
    (hsize : i.size = size) (hby : i.bytes = bytes) (hzs : z.cells.size = size) (hsz : 0 < size)
    (g n cap : Nat) (xs : List Value) (hs : a.eval s = .slice (some ⟨g, 0, none⟩) n cap) (hown : w.ownsRow base e size (.slice (some ⟨g, 0, none⟩) n cap) n xs)
    (ad : Addr) (m c : Nat) (news : List Value) (hx : a.eval x = .slice (some ad) m c) (hl : news.length = m * size) (hnews : ∀ j u, news[j]? = some u → w.cell? (ad.add j) = some u) (h1 : ∀ u ∈ news, u.oneCell' = true)
    (h63 : n + m ≤ maxLen) (hbytes : (n + m) * bytes ≤ 140737488355328) (hbase : base ≤ w.heap.size)
    (h : ∀ g' cap' w', w'.ownsRow base e size (.slice (some ⟨g', 0, none⟩) (n + m) cap') (n + m) (xs ++ news) → w.grownBy w' (some g) → (g' = g ∨ g' = w.heap.size) → wpList P ops Q rest (a.put o.dst (.slice (some ⟨g', 0, none⟩) (n + m) cap')) w') : wpList P ops Q (o :: rest) a w :=
  wpList_plain hgd fun _ hK => wp_append2 w s x t ho base e i z size bytes ht hi hz hsize hby hzs hsz g n cap xs hs hown ad m c news hx hl hnews h1 h63 hbytes hbase fun g' cap' w' h2 h3 h4 => hK _ _ (h g' cap' w' h2 h3 h4)

/-- .. in a region that draws its order. -/
theorem step_append2 {ops : Array Oper} {o : Oper} {a : Act} {K : Act → World → Prop} {Q : Exit → Act → World → Prop} {E : Prop} (hgd : o.guard = none) (s x : Operand) (t : TypeId)
    (ho : o.op = .call { callee := .builtin .append, args := #[s, x], argTypes := #[t, t] })
    (base : Nat) (e : TypeId) (i : TypeInfo) (z : Value) (size bytes : Nat) (ht : P.underlying t = some (.slice e)) (hi : P.info? e = some i) (hz : i.zero = some z)
    (hsize : i.size = size) (hby : i.bytes = bytes) (hzs : z.cells.size = size) (hsz : 0 < size)
    (g n cap : Nat) (xs : List Value) (hs : a.eval s = .slice (some ⟨g, 0, none⟩) n cap) (hown : w.ownsRow base e size (.slice (some ⟨g, 0, none⟩) n cap) n xs)
    (ad : Addr) (m c : Nat) (news : List Value) (hx : a.eval x = .slice (some ad) m c) (hl : news.length = m * size) (hnews : ∀ j u, news[j]? = some u → w.cell? (ad.add j) = some u) (h1 : ∀ u ∈ news, u.oneCell' = true)
    (h63 : n + m ≤ maxLen) (hbytes : (n + m) * bytes ≤ 140737488355328) (hbase : base ≤ w.heap.size)
    (h : ∀ g' cap' w', w'.ownsRow base e size (.slice (some ⟨g', 0, none⟩) (n + m) cap') (n + m) (xs ++ news) → w.grownBy w' (some g) → (g' = g ∨ g' = w.heap.size) → K (a.put o.dst (.slice (some ⟨g', 0, none⟩) (n + m) cap')) w') :
    if Region.wanted o (yielded ops a.tmps) = true then Oper.wp P o a w K Q else E := by
  have hw : Region.wanted o (yielded ops a.tmps) = true := by simp [Region.wanted, hgd]
  rw [if_pos hw]
  exact wp_append2 w s x t ho base e i z size bytes ht hi hz hsize hby hzs hsz g n cap xs hs hown ad m c news hx hl hnews h1 h63 hbytes hbase h
end

/-- A shorter part of an owned slice. -/
theorem owns_take {w : World} {base : Nat} {e : TypeId} {size g n cap : Nat} {xs : List Value} (h : w.ownsRow base e size (.slice (some ⟨g, 0, none⟩) n cap) n xs) (m : Nat) (hm : m ≤ n) :
    w.ownsRow base e size (.slice (some ⟨g, 0, none⟩) m cap) m (xs.take (m * size)) := by
  have hle : m * size ≤ n * size := Nat.mul_le_mul_right _ hm
  refine ⟨by rw [List.length_take, h.1]; omega, ?_⟩
  rcases h.2 with ⟨h', _⟩ | ⟨g2, cap2, cur, he, hb, hg, hnc, hcm, hcs, htake⟩
  · cases h'
  · simp only [Value.slice.injEq, Option.some.injEq, Addr.mk.injEq, and_true, true_and] at he
    obtain ⟨rfl, rfl⟩ := he
    exact Or.inr ⟨g, cap, cur, rfl, hb, hg, by omega, hcm, hcs, by rw [← htake, List.take_take, Nat.min_eq_left hle]⟩

/-- What an owned slice holds. -/
theorem owns_at {w : World} {base : Nat} {e : TypeId} {size g n cap : Nat} {xs : List Value} (h : w.ownsRow base e size (.slice (some ⟨g, 0, none⟩) n cap) n xs) (j : Nat) (hj : j < n * size) : w.cell? ⟨g, j, none⟩ = xs[j]? := h.cellAt j hj

theorem owns_kept {w w' : World} {base : Nat} {e : TypeId} {size g n cap : Nat} {xs : List Value} (h : w.ownsRow base e size (.slice (some ⟨g, 0, none⟩) n cap) n xs) {k : Nat} (hg : w.grownBy w' (some k)) (hne : g ≠ k) : w'.ownsRow base e size (.slice (some ⟨g, 0, none⟩) n cap) n xs := by
  refine ⟨h.1, ?_⟩
  rcases h.2 with h' | ⟨g2, cap2, cur, he, hb, hh, r⟩
  · exact Or.inl h'
  · have he' := he
    simp only [Value.slice.injEq, Option.some.injEq, Addr.mk.injEq, and_true, true_and] at he
    obtain ⟨rfl, rfl⟩ := he
    exact Or.inr ⟨g, cap, cur, rfl, hb, (hg.block g (Array.getElem?_eq_some_iff.1 hh).1 (by simpa using hne)).trans hh, r⟩

theorem owns_block {w : World} {base : Nat} {e : TypeId} {size g n cap : Nat} {xs : List Value} (h : w.ownsRow base e size (.slice (some ⟨g, 0, none⟩) n cap) n xs) : base ≤ g ∧ g < w.heap.size := by
  rcases h.2 with ⟨h', _⟩ | ⟨g2, cap2, cur, he, hb, hh, r⟩
  · cases h'
  · simp only [Value.slice.injEq, Option.some.injEq, Addr.mk.injEq, and_true, true_and] at he
    obtain ⟨rfl, rfl⟩ := he
    exact ⟨hb, (Array.getElem?_eq_some_iff.1 hh).1⟩

theorem owns_but {S : Nat → Prop} {w w' : World} {base : Nat} {e : TypeId} {size g n cap : Nat} {xs : List Value} (h : w.ownsRow base e size (.slice (some ⟨g, 0, none⟩) n cap) n xs) (hb : But S w w') (hne : ¬ S g) : w'.ownsRow base e size (.slice (some ⟨g, 0, none⟩) n cap) n xs := by
  refine ⟨h.1, ?_⟩
  rcases h.2 with h' | ⟨g2, cap2, cur, he, hbs, hh, r⟩
  · exact Or.inl h'
  · simp only [Value.slice.injEq, Option.some.injEq, Addr.mk.injEq, and_true, true_and] at he
    obtain ⟨rfl, rfl⟩ := he
    exact Or.inr ⟨g, cap, cur, rfl, hbs, (hb.block g (Array.getElem?_eq_some_iff.1 hh).1 hne).trans hh, r⟩

end Go.Proofs.YthioecjcnajmgaaGreatDoor

namespace Go.Proofs.YthioecjcnajmgaaGreatDoor

open Go.RowKit





/-- The decimal digits, as the loop lays them. -/
def digs : Nat → Nat → ByteArray → ByteArray
  | 0, _, out => out
  | f + 1, q, out => if q = 0 then out else digs f (q / 10) (strOfNums [48 + (q : Int) % 10] ++ out)

def mtext (k : Nat) : ByteArray := ⟨#[109]⟩ ++ digs 20 k ⟨#[]⟩

/-- The node that bears the marks from j on. -/
def mk (j : Nat) : Nd := ⟨(j : Int), (j : Int) + 1, mtext (j + 2), (j : Int) + 1 + 1 + 1, (j : Int) + 1 + 1 + 1 + 1⟩

def marks (k n : Nat) : List Nd := (List.range n).map fun i => mk (k + 5 * i)



/-- The slices that lead to rows of nodes, each with its block and its capacity. -/
def leadsC (ps : List (Nat × Nat)) (kss : List (List Nd)) : List Value := List.zipWith (fun p ks => .slice (some ⟨p.1, 0, none⟩) ks.length p.2) ps kss

theorem leadsC_length {ps : List (Nat × Nat)} {kss : List (List Nd)} (h : ps.length = kss.length) : (leadsC ps kss).length = kss.length := by
  simp [leadsC, h]

theorem leadsC_get (ps : List (Nat × Nat)) (kss : List (List Nd)) (i : Nat) (h : i < ps.length) (h' : i < kss.length) : (leadsC ps kss)[i]? = some (.slice (some ⟨ps[i].1, 0, none⟩) kss[i].length ps[i].2) := by
  simp [leadsC, List.getElem?_zipWith, List.getElem?_eq_getElem h, List.getElem?_eq_getElem h']

theorem leadsC_snoc (ps : List (Nat × Nat)) (kss : List (List Nd)) (p : Nat × Nat) (ks : List Nd) (h : ps.length = kss.length) : leadsC (ps ++ [p]) (kss ++ [ks]) = leadsC ps kss ++ [.slice (some ⟨p.1, 0, none⟩) ks.length p.2] := by
  unfold leadsC
  rw [List.zipWith_append h]
  rfl

/-- A row of slices of the call's own, perhaps with room behind. -/
def OwnR (w : World) (g : Nat) (cs : List Value) : Prop := ∃ cur rest, w.heap[g]? = some (.cells cur 27 (0, 0)) ∧ cur.toList = cs ++ rest

theorem OwnR.lt {w : World} {g : Nat} {cs : List Value} (h : OwnR w g cs) : g < w.heap.size := by
  obtain ⟨cur, _, hg, _⟩ := h
  exact (Array.getElem?_eq_some_iff.1 hg).1

theorem OwnR.at {w : World} {g : Nat} {cs : List Value} (h : OwnR w g cs) (j : Nat) (hj : j < cs.length) : w.cell? ⟨g, j, none⟩ = cs[j]? := by
  obtain ⟨cur, rest, hg, hc⟩ := h
  rw [cell_of_row w g _ cur 27 (0, 0) hg, ← Array.getElem?_toList, hc, List.getElem?_append_left hj]

theorem OwnR.but {S : Nat → Prop} {w w' : World} {g : Nat} {cs : List Value} (h : OwnR w g cs) (hb : But S w w') (hs : ¬ S g) : OwnR w' g cs := by
  have hlt := h.lt
  obtain ⟨cur, rest, hg, hc⟩ := h
  exact ⟨cur, rest, (hb.block g hlt hs).trans hg, hc⟩

theorem OwnR.ne {w : World} {g h : Nat} {cs ds : List Value} (a : OwnR w g cs) (b : Own w h ds) : h ≠ g := by
  rintro rfl
  obtain ⟨cur, _, hg, _⟩ := a
  obtain ⟨cur', _, hg', _⟩ := b
  rw [hg] at hg'
  simp at hg'

/-- A slice of slices: the row g of slices, the rows ps of nodes, no two of them one, all from B on. -/
structure Rag (w : World) (B g : Nat) (ps : List (Nat × Nat)) (kss : List (List Nd)) : Prop where
  lead : OwnR w g (leadsC ps kss)
  base : B ≤ g
  len : ps.length = kss.length
  rows : ∀ i (h : i < ps.length) (h' : i < kss.length), Row w ps[i].1 kss[i]
  from_ : ∀ p ∈ ps, B ≤ p.1
  nodup : (ps.map (·.1)).Nodup

theorem Rag.but {S : Nat → Prop} {w w' : World} {B g : Nat} {ps : List (Nat × Nat)} {kss : List (List Nd)} (h : Rag w B g ps kss) (hb : But S w w') (hs : ∀ k, S k → k < B) : Rag w' B g ps kss :=
  ⟨h.lead.but hb (fun hk => by have := hs _ hk; have := h.base; omega), h.base, h.len,
    fun i hi hi' => hb.row (h.rows i hi hi') (fun hk => by have := hs _ hk; have := h.from_ _ (List.getElem_mem hi); omega), h.from_, h.nodup⟩

theorem Rag.below {w w' : World} {B g : Nat} {ps : List (Nat × Nat)} {kss : List (List Nd)} (h : Rag w B g ps kss) (hb : Below w.heap.size w w') : Rag w' B g ps kss :=
  h.but (S := fun _ => False) (But.ofBelow hb) (fun _ h => h.elim)

theorem Rag.lists {w : World} {B g : Nat} {ps : List (Nat × Nat)} {kss : List (List Nd)} (h : Rag w B g ps kss) : Lists w (some ⟨g, 0, none⟩) kss := by
  intro i hi
  have hi' : i < ps.length := by rw [h.len]; exact hi
  refine ⟨g, 0, some ⟨ps[i].1, 0, none⟩, ps[i].2, rfl, ?_, (h.rows i hi' hi).nodes⟩
  rw [Nat.zero_add, h.lead.at i (by rw [leadsC_length h.len]; exact hi)]
  exact leadsC_get ps kss i hi' hi

/-- The same as it grows. -/
structure RagO (w : World) (B g c k : Nat) (ps : List (Nat × Nat)) (kss : List (List Nd)) : Prop where
  num : kss.length = k
  own : w.ownsRow B 27 1 (.slice (some ⟨g, 0, none⟩) k c) k (leadsC ps kss)
  len : ps.length = kss.length
  rows : ∀ i (h : i < ps.length) (h' : i < kss.length), Row w ps[i].1 kss[i]
  from_ : ∀ p ∈ ps, B ≤ p.1
  nodup : (ps.map (·.1)).Nodup

theorem owns_ownR {w : World} {B g c k : Nat} {xs : List Value} (h : w.ownsRow B 27 1 (.slice (some ⟨g, 0, none⟩) k c) k xs) : B ≤ g ∧ OwnR w g xs := by
  rcases h.2 with ⟨h', _⟩ | ⟨g2, cap2, cur, he, hb, hh, _, _, _, htake⟩
  · cases h'
  · simp only [Value.slice.injEq, Option.some.injEq, Addr.mk.injEq, and_true, true_and] at he
    obtain ⟨rfl, rfl⟩ := he
    exact ⟨hb, cur, cur.toList.drop (k * 1), hh, by rw [← htake, List.take_append_drop]⟩

theorem RagO.rag {w : World} {B g c k : Nat} {ps : List (Nat × Nat)} {kss : List (List Nd)} (h : RagO w B g c k ps kss) : Rag w B g ps kss :=
  ⟨(owns_ownR h.own).2, (owns_ownR h.own).1, h.len, h.rows, h.from_, h.nodup⟩

theorem RagO.lt {w : World} {B g c k : Nat} {ps : List (Nat × Nat)} {kss : List (List Nd)} (h : RagO w B g c k ps kss) : B ≤ g ∧ g < w.heap.size := owns_block h.own

theorem RagO.but {S : Nat → Prop} {w w' : World} {B g c k : Nat} {ps : List (Nat × Nat)} {kss : List (List Nd)} (h : RagO w B g c k ps kss) (hb : But S w w') (hs : ∀ k, S k → k < B) : RagO w' B g c k ps kss :=
  ⟨h.num, owns_but h.own hb (fun hk => by have := hs _ hk; have := h.lt; omega), h.len,
    fun i hi hi' => hb.row (h.rows i hi hi') (fun hk => by have := hs _ hk; have := h.from_ _ (List.getElem_mem hi); omega), h.from_, h.nodup⟩

theorem RagO.below {w w' : World} {B g c k : Nat} {ps : List (Nat × Nat)} {kss : List (List Nd)} (h : RagO w B g c k ps kss) (hb : Below w.heap.size w w') : RagO w' B g c k ps kss :=
  h.but (S := fun _ => False) (But.ofBelow hb) (fun _ h => h.elim)

theorem RagO.empty {w : World} {B : Nat} (hB : B ≤ w.heap.size) : RagO (w.alloc (.cells #[] 27)) B w.heap.size 0 0 [] [] :=
  ⟨rfl, ⟨rfl, Or.inr ⟨_, 0, #[], rfl, hB, heap_alloc_new _ _, Nat.le_refl _, by simp [maxLen], rfl, rfl⟩⟩, rfl, fun i hi => by simp at hi, fun p hp => by simp at hp, by simp⟩

/-- After an append of a slice that leads to a new row. -/
theorem RagO.push {w0 w w' : World} {B g c k g' c' h ch : Nat} {ps : List (Nat × Nat)} {kss : List (List Nd)} {ks : List Nd} (hO : RagO w0 B g c k ps kss) (hw : But (fun _ => False) w0 w)
    (hr : Row w h ks) (hh : w0.heap.size ≤ h) (hB : B ≤ h)
    (hown : w'.ownsRow B 27 1 (.slice (some ⟨g', 0, none⟩) (k + 1) c') (k + 1) (leadsC ps kss ++ [.slice (some ⟨h, 0, none⟩) ks.length ch])) (hg : w.grownBy w' (some g)) : RagO w' B g' c' (k + 1) (ps ++ [(h, ch)]) (kss ++ [ks]) := by
  have hR : Rag w B g ps kss := hO.rag.but hw (fun _ h => h.elim)
  have hg2 : ∀ q ys, Row w q ys → q ≠ g → Row w' q ys := by
    intro q ys hq hne
    have hlt := hq.lt
    obtain ⟨cur, rest, hc, he⟩ := hq
    exact ⟨cur, rest, (hg.block q hlt (by simpa using hne)).trans hc, he⟩
  refine ⟨by simp [hO.num], by rw [leadsC_snoc _ _ _ _ hO.len]; exact hown, by simp [hO.len], ?_, ?_, ?_⟩
  · intro i hi hi'
    by_cases hik : i < ps.length
    · have h1 := hR.rows i hik (by rw [← hO.len]; exact hik)
      rw [List.getElem_append_left hik, List.getElem_append_left (by rw [← hO.len]; exact hik)]
      exact hg2 _ _ h1 (hR.lead.ne h1)
    · have e : i = ps.length := by simp at hi; omega
      subst e
      have e2 : (kss ++ [ks])[ps.length]'hi' = ks := by
        rw [List.getElem_append_right (by rw [hO.len]; exact Nat.le_refl _)]
        simp
      rw [e2, List.getElem_append_right (Nat.le_refl _)]
      simp only [Nat.sub_self, List.getElem_cons_zero]
      exact hg2 _ _ hr (hR.lead.ne hr)
  · intro p hp
    rcases List.mem_append.1 hp with h1 | h1
    · exact hO.from_ p h1
    · simp at h1; subst h1; exact hB
  · rw [List.map_append]
    refine List.nodup_append.2 ⟨hO.nodup, by simp, ?_⟩
    intro a ha b hb
    simp at hb
    subst hb
    obtain ⟨p, hp, rfl⟩ := List.mem_map.1 ha
    obtain ⟨i, hi, rfl⟩ := List.getElem_of_mem hp
    have h1 := (hO.rows i hi (by rw [← hO.len]; exact hi)).lt
    omega

end Go.Proofs.YthioecjcnajmgaaGreatDoor

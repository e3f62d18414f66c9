import Derived.Test.YtahdmflbdmlfhaaGreatDoorProg
import Derived.Test.YtahdmflbdmlfhaaGreatDoorWAA
import Derived.Deep.Light
import Derived.Deep.RegionWith
import Derived.Deep.RegionLaw
import Derived.Laws.BytesArg
import Derived.Test.YtahdmflbdmlfhaaGreatDoorWAC
namespace Go.Proofs.YtahdmflbdmlfhaaGreatDoor

open Go.RowKit





end Go.Proofs.YtahdmflbdmlfhaaGreatDoor

namespace Go.Proofs.YtahdmflbdmlfhaaGreatDoor
open Go.RowKit

section
variable {P : Program} (w : World)

/-- Where the new slice lies: where the old one lay, or in a new block. -/
theorem append_where (t ty e : TypeId) (i : TypeInfo) (z : Value) (ht : P.underlying t = some (.slice e)) (hi : P.info? e = some i) (hz : i.zero = some z)
    (base g n cap : Nat) (xs : List Value) (hown : w.ownsRow base e i.size (.slice (some ⟨g, 0, none⟩) n cap) n xs)
    (a : Addr) (m c : Nat) (news : List Value) (hl : news.length = m * i.size) (hnews : ∀ j u, news[j]? = some u → w.cell? (a.add j) = some u) (h1 : ∀ u ∈ news, u.oneCell' = true)
    (h63 : n + m ≤ maxLen) (hbytes : (n + m) * i.bytes ≤ 140737488355328) {v' : Value} {w' : World}
    (hr : (Builtin.append_ #[t, t] ty #[.slice (some ⟨g, 0, none⟩) n cap, .slice (some a) m c]).run P w = .ok v' w') :
    ∃ g' cap', v' = .slice (some ⟨g', 0, none⟩) (n + m) cap' ∧ (g' = g ∨ g' = w.heap.size) := by
  rcases hown.2 with ⟨h, _⟩ | ⟨g2, cap2, cur, he, _, hg, hnc, hcm, hcs, htake⟩
  · cases h
  · simp only [Value.slice.injEq, Option.some.injEq, Addr.mk.injEq, and_true, true_and] at he
    obtain ⟨rfl, rfl⟩ := he
    have hsmall : n + m ≤ 9223372036854775807 := by simp only [maxLen] at h63; omega
    by_cases hroom : n + m ≤ cap
    · have hfit : n * i.size + news.length ≤ cur.size := by rw [hl, hcs, ← Nat.add_mul]; exact Nat.mul_le_mul_right _ hroom
      have h2 := run_append_room (P := P) w t ty e i ht hi g n cap cur hg a m c news hl hnews h1 hroom hfit
      rw [h2] at hr
      simp only [Result.ok.injEq] at hr
      exact ⟨g, cap, hr.1.symm, Or.inl rfl⟩
    · have holds : ∀ j u, xs[j]? = some u → w.cell? ((⟨g, 0, none⟩ : Addr).add j) = some u := hown.cells (g := g) rfl
      have h2 := run_append_grow (P := P) w t ty e i z ht hi hz ⟨g, 0, none⟩ n cap xs hown.1 holds a m c news hl hnews (by omega) (by omega) (growslice_fits (by omega) hbytes)
      rw [h2] at hr
      simp only [Result.ok.injEq] at hr
      exact ⟨w.heap.size, _, hr.1.symm, Or.inr rfl⟩

/-- append to a slice of the call's own that is not nil, as one operation. -/
theorem wp_append2 {o : Oper} {a : Act} {K : Act → World → Prop} {Q : Exit → Act → World → Prop} (s x : Operand) (t : TypeId)
    (ho : o.op = .call { callee := .builtin .append, args := #[s, x], argTypes := #[t, t] })
    (base : Nat) (e : TypeId) (i : TypeInfo) (z : Value) (size bytes : Nat) (ht : P.underlying t = some (.slice e)) (hi : P.info? e = some i) (hz : i.zero = some z)
    (hsize : i.size = size) (hby : i.bytes = bytes) (hzs : z.cells.size = size) (hsz : 0 < size)
    (g n cap : Nat) (xs : List Value) (hs : a.eval s = .slice (some ⟨g, 0, none⟩) n cap) (hown : w.ownsRow base e size (.slice (some ⟨g, 0, none⟩) n cap) n xs)
    (ad : Addr) (m c : Nat) (news : List Value) (hx : a.eval x = .slice (some ad) m c) (hl : news.length = m * size) (hnews : ∀ j u, news[j]? = some u → w.cell? (ad.add j) = some u) (h1 : ∀ u ∈ news, u.oneCell' = true)
    (h63 : n + m ≤ maxLen) (hbytes : (n + m) * bytes ≤ 140737488355328) (hbase : base ≤ w.heap.size)
    (h : ∀ g' cap' w', w'.ownsRow base e size (.slice (some ⟨g', 0, none⟩) (n + m) cap') (n + m) (xs ++ news) → w.grownBy w' (some g) → (g' = g ∨ g' = w.heap.size) → K (a.put o.dst (.slice (some ⟨g', 0, none⟩) (n + m) cap')) w') : o.wp P a w K Q := by
  subst hsize hby
  obtain ⟨v', w', hr, h2, h3, h4⟩ := run_append_own (P := P) w base t o.type e i z i.size i.bytes ht hi hz rfl rfl hzs hsz _ n xs hown ad m c news hl hnews h1 h63 hbytes hbase
  obtain ⟨g', cap', rfl, hw⟩ := append_where w t o.type e i z ht hi hz base g n cap xs hown ad m c news hl hnews h1 h63 hbytes hr
  unfold Oper.wp execOp
  simp only [ho, resolve, invoke, builtin, Sem.run_bind, Sem.run_pure, Result.andThen_ok, List.map_toArray, List.map_cons, List.map_nil, hs, hx, hr]
  exact h g' cap' w' h2 h3 hw

/-- .. in a row of operations. -/
theorem wpList_append2 {ops : Array Oper} {rest : List Oper} {o : Oper} {a : Act} {Q : Exit → Act → World → Prop} (hgd : o.guard = none) (s x : Operand) (t : TypeId)
    (ho : o.op = .call { callee := .builtin .append, args := #[s, x], argTypes := #[t, t] })
    (base : Nat) (e : TypeId) (i : TypeInfo) (z : Value) (size bytes : Nat) (ht : P.underlying t = some (.slice e)) (hi : P.info? e = some i) (hz : i.zero = some z)
    (hsize : i.size = size) (hby : i.bytes = bytes) (hzs : z.cells.size = size) (hsz : 0 < size)
    (g n cap : Nat) (xs : List Value) (hs : a.eval s = .slice (some ⟨g, 0, none⟩) n cap) (hown : w.ownsRow base e size (.slice (some ⟨g, 0, none⟩) n cap) n xs)
    (ad : Addr) (m c : Nat) (news : List Value) (hx : a.eval x = .slice (some ad) m c) (hl : news.length = m * size) (hnews : ∀ j u, news[j]? = some u → w.cell? (ad.add j) = some u) (h1 : ∀ u ∈ news, u.oneCell' = true)
    (h63 : n + m ≤ maxLen) (hbytes : (n + m) * bytes ≤ 140737488355328) (hbase : base ≤ w.heap.size)
    (h : ∀ g' cap' w', w'.ownsRow base e size (.slice (some ⟨g', 0, none⟩) (n + m) cap') (n + m) (xs ++ news) → w.grownBy w' (some g) → (g' = g ∨ g' = w.heap.size) → wpList P ops Q rest (a.put o.dst (.slice (some ⟨g', 0, none⟩) (n + m) cap')) w') : wpList P ops Q (o :: rest) a w :=
  wpList_plain hgd fun _ hK => wp_append2 w s x t ho base e i z size bytes ht hi hz hsize hby hzs hsz g n cap xs hs hown ad m c news hx hl hnews h1 h63 hbytes hbase fun g' cap' w' h2 h3 h4 => hK _ _ (h g' cap' w' h2 h3 h4)

/-- .. in a region that draws its order. -/
theorem step_append2 {ops : Array Oper} {o : Oper} {a : Act} {K : Act → World → Prop} {Q : Exit → Act → World → Prop} {E : Prop} (hgd : o.guard = none) (s x : Operand) (t : TypeId)
    (ho : o.op = .call { callee := .builtin .append, args := #[s, x], argTypes := #[t, t] })
    (base : Nat) (e : TypeId) (i : TypeInfo) (z : Value) (size bytes : Nat) (ht : P.underlying t = some (.slice e)) (hi : P.info? e = some i) (hz : i.zero = some z)
    (hsize : i.size = size) (hby : i.bytes = bytes) (hzs : z.cells.size = size) (hsz : 0 < size)
    (g n cap : Nat) (xs : List Value) (hs : a.eval s = .slice (some ⟨g, 0, none⟩) n cap) (hown : w.ownsRow base e size (.slice (some ⟨g, 0, none⟩) n cap) n xs)
    (ad : Addr) (m c : Nat) (news : List Value) (hx : a.eval x = .slice (some ad) m c) (hl : news.length = m * size) (hnews : ∀ j u, news[j]? = some u → w.cell? (ad.add j) = some u) (h1 : ∀ u ∈ news, u.oneCell' = true)
    (h63 : n + m ≤ maxLen) (hbytes : (n + m) * bytes ≤ 140737488355328) (hbase : base ≤ w.heap.size)
    (h : ∀ g' cap' w', w'.ownsRow base e size (.slice (some ⟨g', 0, none⟩) (n + m) cap') (n + m) (xs ++ news) → w.grownBy w' (some g) → (g' = g ∨ g' = w.heap.size) → K (a.put o.dst (.slice (some ⟨g', 0, none⟩) (n + m) cap')) w') :
    if Region.wanted o (yielded ops a.tmps) = true then Oper.wp P o a w K Q else E := by
  have hw : Region.wanted o (yielded ops a.tmps) = true := by simp [Region.wanted, hgd]
  rw [if_pos hw]
  exact wp_append2 w s x t ho base e i z size bytes ht hi hz hsize hby hzs hsz g n cap xs hs hown ad m c news hx hl hnews h1 h63 hbytes hbase h
end

/-- A shorter part of an owned slice. -/
theorem owns_take {w : World} {base : Nat} {e : TypeId} {size g n cap : Nat} {xs : List Value} (h : w.ownsRow base e size (.slice (some ⟨g, 0, none⟩) n cap) n xs) (m : Nat) (hm : m ≤ n) :
    w.ownsRow base e size (.slice (some ⟨g, 0, none⟩) m cap) m (xs.take (m * size)) := by
  have hle : m * size ≤ n * size := Nat.mul_le_mul_right _ hm
  refine ⟨by rw [List.length_take, h.1]; omega, ?_⟩
  rcases h.2 with ⟨h', _⟩ | ⟨g2, cap2, cur, he, hb, hg, hnc, hcm, hcs, htake⟩
  · cases h'
  · simp only [Value.slice.injEq, Option.some.injEq, Addr.mk.injEq, and_true, true_and] at he
    obtain ⟨rfl, rfl⟩ := he
    exact Or.inr ⟨g, cap, cur, rfl, hb, hg, by omega, hcm, hcs, by rw [← htake, List.take_take, Nat.min_eq_left hle]⟩

/-- What an owned slice holds. -/
theorem owns_at {w : World} {base : Nat} {e : TypeId} {size g n cap : Nat} {xs : List Value} (h : w.ownsRow base e size (.slice (some ⟨g, 0, none⟩) n cap) n xs) (j : Nat) (hj : j < n * size) : w.cell? ⟨g, j, none⟩ = xs[j]? := h.cellAt j hj

theorem owns_kept {w w' : World} {base : Nat} {e : TypeId} {size g n cap : Nat} {xs : List Value} (h : w.ownsRow base e size (.slice (some ⟨g, 0, none⟩) n cap) n xs) {k : Nat} (hg : w.grownBy w' (some k)) (hne : g ≠ k) : w'.ownsRow base e size (.slice (some ⟨g, 0, none⟩) n cap) n xs := by
  refine ⟨h.1, ?_⟩
  rcases h.2 with h' | ⟨g2, cap2, cur, he, hb, hh, r⟩
  · exact Or.inl h'
  · have he' := he
    simp only [Value.slice.injEq, Option.some.injEq, Addr.mk.injEq, and_true, true_and] at he
    obtain ⟨rfl, rfl⟩ := he
    exact Or.inr ⟨g, cap, cur, rfl, hb, (hg.block g (Array.getElem?_eq_some_iff.1 hh).1 (by simpa using hne)).trans hh, r⟩

theorem owns_block {w : World} {base : Nat} {e : TypeId} {size g n cap : Nat} {xs : List Value} (h : w.ownsRow base e size (.slice (some ⟨g, 0, none⟩) n cap) n xs) : base ≤ g ∧ g < w.heap.size := by
  rcases h.2 with ⟨h', _⟩ | ⟨g2, cap2, cur, he, hb, hh, r⟩
  · cases h'
  · simp only [Value.slice.injEq, Option.some.injEq, Addr.mk.injEq, and_true, true_and] at he
    obtain ⟨rfl, rfl⟩ := he
    exact ⟨hb, (Array.getElem?_eq_some_iff.1 hh).1⟩

theorem owns_but {S : Nat → Prop} {w w' : World} {base : Nat} {e : TypeId} {size g n cap : Nat} {xs : List Value} (h : w.ownsRow base e size (.slice (some ⟨g, 0, none⟩) n cap) n xs) (hb : But S w w') (hne : ¬ S g) : w'.ownsRow base e size (.slice (some ⟨g, 0, none⟩) n cap) n xs := by
  refine ⟨h.1, ?_⟩
  rcases h.2 with h' | ⟨g2, cap2, cur, he, hbs, hh, r⟩
  · exact Or.inl h'
  · simp only [Value.slice.injEq, Option.some.injEq, Addr.mk.injEq, and_true, true_and] at he
    obtain ⟨rfl, rfl⟩ := he
    exact Or.inr ⟨g, cap, cur, rfl, hbs, (hb.block g (Array.getElem?_eq_some_iff.1 hh).1 hne).trans hh, r⟩

end Go.Proofs.YtahdmflbdmlfhaaGreatDoor

namespace Go.Proofs.YtahdmflbdmlfhaaGreatDoor

open Go.RowKit

/-- The decimal digits, as the loop lays them. -/
def digs : Nat → Nat → ByteArray → ByteArray
  | 0, _, out => out
  | f + 1, q, out => if q = 0 then out else digs f (q / 10) (strOfNums [48 + (q : Int) % 10] ++ out)

def mtext (k : Nat) : ByteArray := ⟨#[109]⟩ ++ digs 20 k ⟨#[]⟩

/-- The node that bears the marks from j on. -/
def mk (j : Nat) : Nd := ⟨(j : Int), (j : Int) + 1, mtext (j + 2), (j : Int) + 1 + 1 + 1, (j : Int) + 1 + 1 + 1 + 1⟩

def marks (k n : Nat) : List Nd := (List.range n).map fun i => mk (k + 5 * i)



/-- The slices that lead to rows of nodes, each with its block and its capacity. -/
def leadsC (ps : List (Nat × Nat)) (kss : List (List Nd)) : List Value := List.zipWith (fun p ks => .slice (some ⟨p.1, 0, none⟩) ks.length p.2) ps kss

theorem leadsC_length {ps : List (Nat × Nat)} {kss : List (List Nd)} (h : ps.length = kss.length) : (leadsC ps kss).length = kss.length := by
  simp [leadsC, h]

theorem leadsC_get (ps : List (Nat × Nat)) (kss : List (List Nd)) (i : Nat) (h : i < ps.length) (h' : i < kss.length) : (leadsC ps kss)[i]? = some (.slice (some ⟨ps[i].1, 0, none⟩) kss[i].length ps[i].2) := by
  simp [leadsC, List.getElem?_zipWith, List.getElem?_eq_getElem h, List.getElem?_eq_getElem h']

theorem leadsC_snoc (ps : List (Nat × Nat)) (kss : List (List Nd)) (p : Nat × Nat) (ks : List Nd) (h : ps.length = kss.length) : leadsC (ps ++ [p]) (kss ++ [ks]) = leadsC ps kss ++ [.slice (some ⟨p.1, 0, none⟩) ks.length p.2] := by
  unfold leadsC
  rw [List.zipWith_append h]
  rfl

/-- A row of slices of the call's own, perhaps with room behind. -/
def OwnR (w : World) (g : Nat) (cs : List Value) : Prop := ∃ cur rest, w.heap[g]? = some (.cells cur 29 (0, 0)) ∧ cur.toList = cs ++ rest

theorem OwnR.lt {w : World} {g : Nat} {cs : List Value} (h : OwnR w g cs) : g < w.heap.size := by
  obtain ⟨cur, _, hg, _⟩ := h
  exact (Array.getElem?_eq_some_iff.1 hg).1

theorem OwnR.at {w : World} {g : Nat} {cs : List Value} (h : OwnR w g cs) (j : Nat) (hj : j < cs.length) : w.cell? ⟨g, j, none⟩ = cs[j]? := by
  obtain ⟨cur, rest, hg, hc⟩ := h
  rw [cell_of_row w g _ cur 29 (0, 0) hg, ← Array.getElem?_toList, hc, List.getElem?_append_left hj]

theorem OwnR.but {S : Nat → Prop} {w w' : World} {g : Nat} {cs : List Value} (h : OwnR w g cs) (hb : But S w w') (hs : ¬ S g) : OwnR w' g cs := by
  have hlt := h.lt
  obtain ⟨cur, rest, hg, hc⟩ := h
  exact ⟨cur, rest, (hb.block g hlt hs).trans hg, hc⟩

theorem OwnR.ne {w : World} {g h : Nat} {cs ds : List Value} (a : OwnR w g cs) (b : Own w h ds) : h ≠ g := by
  rintro rfl
  obtain ⟨cur, _, hg, _⟩ := a
  obtain ⟨cur', _, hg', _⟩ := b
  rw [hg] at hg'
  simp at hg'

/-- A slice of slices: the row g of slices, the rows ps of nodes, no two of them one, all from B on. -/
structure Rag (w : World) (B g : Nat) (ps : List (Nat × Nat)) (kss : List (List Nd)) : Prop where
  lead : OwnR w g (leadsC ps kss)
  base : B ≤ g
  len : ps.length = kss.length
  rows : ∀ i (h : i < ps.length) (h' : i < kss.length), Row w ps[i].1 kss[i]
  from_ : ∀ p ∈ ps, B ≤ p.1
  nodup : (ps.map (·.1)).Nodup

theorem Rag.but {S : Nat → Prop} {w w' : World} {B g : Nat} {ps : List (Nat × Nat)} {kss : List (List Nd)} (h : Rag w B g ps kss) (hb : But S w w') (hs : ∀ k, S k → k < B) : Rag w' B g ps kss :=
  ⟨h.lead.but hb (fun hk => by have := hs _ hk; have := h.base; omega), h.base, h.len,
    fun i hi hi' => hb.row (h.rows i hi hi') (fun hk => by have := hs _ hk; have := h.from_ _ (List.getElem_mem hi); omega), h.from_, h.nodup⟩

theorem Rag.below {w w' : World} {B g : Nat} {ps : List (Nat × Nat)} {kss : List (List Nd)} (h : Rag w B g ps kss) (hb : Below w.heap.size w w') : Rag w' B g ps kss :=
  h.but (S := fun _ => False) (But.ofBelow hb) (fun _ h => h.elim)

theorem Rag.lists {w : World} {B g : Nat} {ps : List (Nat × Nat)} {kss : List (List Nd)} (h : Rag w B g ps kss) : Lists w (some ⟨g, 0, none⟩) kss := by
  intro i hi
  have hi' : i < ps.length := by rw [h.len]; exact hi
  refine ⟨g, 0, some ⟨ps[i].1, 0, none⟩, ps[i].2, rfl, ?_, (h.rows i hi' hi).nodes⟩
  rw [Nat.zero_add, h.lead.at i (by rw [leadsC_length h.len]; exact hi)]
  exact leadsC_get ps kss i hi' hi

/-- The same as it grows. -/
structure RagO (w : World) (B g c k : Nat) (ps : List (Nat × Nat)) (kss : List (List Nd)) : Prop where
  num : kss.length = k
  own : w.ownsRow B 29 1 (.slice (some ⟨g, 0, none⟩) k c) k (leadsC ps kss)
  len : ps.length = kss.length
  rows : ∀ i (h : i < ps.length) (h' : i < kss.length), Row w ps[i].1 kss[i]
  from_ : ∀ p ∈ ps, B ≤ p.1
  nodup : (ps.map (·.1)).Nodup

theorem owns_ownR {w : World} {B g c k : Nat} {xs : List Value} (h : w.ownsRow B 29 1 (.slice (some ⟨g, 0, none⟩) k c) k xs) : B ≤ g ∧ OwnR w g xs := by
  rcases h.2 with ⟨h', _⟩ | ⟨g2, cap2, cur, he, hb, hh, _, _, _, htake⟩
  · cases h'
  · simp only [Value.slice.injEq, Option.some.injEq, Addr.mk.injEq, and_true, true_and] at he
    obtain ⟨rfl, rfl⟩ := he
    exact ⟨hb, cur, cur.toList.drop (k * 1), hh, by rw [← htake, List.take_append_drop]⟩

theorem RagO.rag {w : World} {B g c k : Nat} {ps : List (Nat × Nat)} {kss : List (List Nd)} (h : RagO w B g c k ps kss) : Rag w B g ps kss :=
  ⟨(owns_ownR h.own).2, (owns_ownR h.own).1, h.len, h.rows, h.from_, h.nodup⟩

theorem RagO.lt {w : World} {B g c k : Nat} {ps : List (Nat × Nat)} {kss : List (List Nd)} (h : RagO w B g c k ps kss) : B ≤ g ∧ g < w.heap.size := owns_block h.own

theorem RagO.but {S : Nat → Prop} {w w' : World} {B g c k : Nat} {ps : List (Nat × Nat)} {kss : List (List Nd)} (h : RagO w B g c k ps kss) (hb : But S w w') (hs : ∀ k, S k → k < B) : RagO w' B g c k ps kss :=
  ⟨h.num, owns_but h.own hb (fun hk => by have := hs _ hk; have := h.lt; omega), h.len,
    fun i hi hi' => hb.row (h.rows i hi hi') (fun hk => by have := hs _ hk; have := h.from_ _ (List.getElem_mem hi); omega), h.from_, h.nodup⟩

theorem RagO.below {w w' : World} {B g c k : Nat} {ps : List (Nat × Nat)} {kss : List (List Nd)} (h : RagO w B g c k ps kss) (hb : Below w.heap.size w w') : RagO w' B g c k ps kss :=
  h.but (S := fun _ => False) (But.ofBelow hb) (fun _ h => h.elim)

theorem RagO.empty {w : World} {B : Nat} (hB : B ≤ w.heap.size) : RagO (w.alloc (.cells #[] 29)) B w.heap.size 0 0 [] [] :=
  ⟨rfl, ⟨rfl, Or.inr ⟨_, 0, #[], rfl, hB, heap_alloc_new _ _, Nat.le_refl _, by simp [maxLen], rfl, rfl⟩⟩, rfl, fun i hi => by simp at hi, fun p hp => by simp at hp, by simp⟩

/-- After an append of a slice that leads to a new row. -/
theorem RagO.push {w0 w w' : World} {B g c k g' c' h ch : Nat} {ps : List (Nat × Nat)} {kss : List (List Nd)} {ks : List Nd} (hO : RagO w0 B g c k ps kss) (hw : But (fun _ => False) w0 w)
    (hr : Row w h ks) (hh : w0.heap.size ≤ h) (hB : B ≤ h)
    (hown : w'.ownsRow B 29 1 (.slice (some ⟨g', 0, none⟩) (k + 1) c') (k + 1) (leadsC ps kss ++ [.slice (some ⟨h, 0, none⟩) ks.length ch])) (hg : w.grownBy w' (some g)) : RagO w' B g' c' (k + 1) (ps ++ [(h, ch)]) (kss ++ [ks]) := by
  have hR : Rag w B g ps kss := hO.rag.but hw (fun _ h => h.elim)
  have hg2 : ∀ q ys, Row w q ys → q ≠ g → Row w' q ys := by
    intro q ys hq hne
    have hlt := hq.lt
    obtain ⟨cur, rest, hc, he⟩ := hq
    exact ⟨cur, rest, (hg.block q hlt (by simpa using hne)).trans hc, he⟩
  refine ⟨by simp [hO.num], by rw [leadsC_snoc _ _ _ _ hO.len]; exact hown, by simp [hO.len], ?_, ?_, ?_⟩
  · intro i hi hi'
    by_cases hik : i < ps.length
    · have h1 := hR.rows i hik (by rw [← hO.len]; exact hik)
      rw [List.getElem_append_left hik, List.getElem_append_left (by rw [← hO.len]; exact hik)]
      exact hg2 _ _ h1 (hR.lead.ne h1)
    · have e : i = ps.length := by simp at hi; omega
      subst e
      have e2 : (kss ++ [ks])[ps.length]'hi' = ks := by
        rw [List.getElem_append_right (by rw [hO.len]; exact Nat.le_refl _)]
        simp
      rw [e2, List.getElem_append_right (Nat.le_refl _)]
      simp only [Nat.sub_self, List.getElem_cons_zero]
      exact hg2 _ _ hr (hR.lead.ne hr)
  · intro p hp
    rcases List.mem_append.1 hp with h1 | h1
    · exact hO.from_ p h1
    · simp at h1; subst h1; exact hB
  · rw [List.map_append]
    refine List.nodup_append.2 ⟨hO.nodup, by simp, ?_⟩
    intro a ha b hb
    simp at hb
    subst hb
    obtain ⟨p, hp, rfl⟩ := List.mem_map.1 ha
    obtain ⟨i, hi, rfl⟩ := List.getElem_of_mem hp
    have h1 := (hO.rows i hi (by rw [← hO.len]; exact hi)).lt
    omega

end Go.Proofs.YtahdmflbdmlfhaaGreatDoor

namespace Go.Proofs.YtahdmflbdmlfhaaGreatDoor

/-- A term inside a list: where it begins, its root, how deep it is. -/
structure Sp where
  fr : Nat
  rt : Nat
  dp : Nat

def dpOf (kids : List Sp) : Nat := kids.foldl (fun d k => max d (k.dp + 1)) 1

def frOf (kids : List Sp) (i : Nat) : Nat := match kids with
  | [] => i
  | k :: _ => k.fr

def over (kids : List Sp) (i : Nat) : Sp := ⟨frOf kids i, i, dpOf kids⟩

/-- One node more: what is free behind it, and its own term; none where it asks for kids that are not there. -/
def step (S : List Sp) (i : Nat) (n : Int) : Option (List Sp × Sp) :=
  if n < 0 ∨ (S.length : Int) < n then none
  else some (S.take (S.length - n.toNat) ++ [over (S.drop (S.length - n.toNat)) i], over (S.drop (S.length - n.toNat)) i)

/-- Behind k nodes: what is free, and the terms of all k. -/
def after (t : List Nd) : Nat → Option (List Sp × List Sp)
  | 0 => some ([], [])
  | k + 1 => match after t k with
    | none => none
    | some (S, ys) => match t[k]? with
      | none => none
      | some x => match step S k x.kids with
        | none => none
        | some (S', s) => some (S', ys ++ [s])

theorem after_succ {t : List Nd} {k : Nat} {S ys S' : List Sp} {s : Sp} (h : after t k = some (S, ys)) (hk : k < t.length) (hs : step S k t[k].kids = some (S', s)) : after t (k + 1) = some (S', ys ++ [s]) := by
  simp only [after, h, List.getElem?_eq_getElem hk, hs]

theorem after_fail {t : List Nd} {k : Nat} {S ys : List Sp} (h : after t k = some (S, ys)) (hk : k < t.length) (hs : step S k t[k].kids = none) : after t (k + 1) = none := by
  simp only [after, h, List.getElem?_eq_getElem hk, hs]

theorem after_none {t : List Nd} {k : Nat} (h : after t k = none) : ∀ m, k ≤ m → after t m = none := by
  intro m hm
  induction m with
  | zero => have : k = 0 := by omega
            subst this; exact h
  | succ m ih =>
    by_cases e : k = m + 1
    · subst e; exact h
    · simp only [after, ih (by omega)]

theorem after_inv {t : List Nd} {k : Nat} {S' ys' : List Sp} (h : after t (k + 1) = some (S', ys')) : ∃ S ys s, ∃ hk : k < t.length, after t k = some (S, ys) ∧ step S k t[k].kids = some (S', s) ∧ ys' = ys ++ [s] := by
  simp only [after] at h
  cases ha : after t k with
  | none => simp [ha] at h
  | some p =>
    obtain ⟨S, ys⟩ := p
    simp only [ha] at h
    by_cases hk : k < t.length
    · rw [List.getElem?_eq_getElem hk] at h
      simp only at h
      cases hs : step S k t[k].kids with
      | none => simp [hs] at h
      | some q =>
        obtain ⟨S2, s⟩ := q
        simp only [hs, Option.some.injEq, Prod.mk.injEq] at h
        obtain ⟨rfl, rfl⟩ := h
        exact ⟨S, ys, s, hk, rfl, hs, rfl⟩
    · rw [List.getElem?_eq_none (by omega)] at h
      simp at h

theorem step_some {S : List Sp} {i : Nat} {n : Int} {S' : List Sp} {s : Sp} (h : step S i n = some (S', s)) :
    0 ≤ n ∧ n ≤ S.length ∧ S' = S.take (S.length - n.toNat) ++ [s] ∧ s = over (S.drop (S.length - n.toNat)) i := by
  unfold step at h
  split at h
  · simp at h
  · simp only [Option.some.injEq, Prod.mk.injEq] at h
    obtain ⟨h1, h2⟩ := h
    subst h2
    exact ⟨by omega, by omega, h1.symm, rfl⟩

theorem step_of {S : List Sp} {i : Nat} {n : Int} (h0 : 0 ≤ n) (h1 : n ≤ S.length) : step S i n = some (S.take (S.length - n.toNat) ++ [over (S.drop (S.length - n.toNat)) i], over (S.drop (S.length - n.toNat)) i) := by
  unfold step
  rw [if_neg (by omega)]

theorem step_none {S : List Sp} {i : Nat} {n : Int} (h : n < 0 ∨ (S.length : Int) < n) : step S i n = none := by
  unfold step
  rw [if_pos h]

/-- The terms that are free stand one behind the other, up to here. -/
def Chain (S : List Sp) (k : Nat) : Prop :=
  (∀ j (h : j < S.length), S[j].fr ≤ S[j].rt ∧ S[j].rt < k) ∧ (∀ j (h : j + 1 < S.length), S[j].rt + 1 = S[j + 1].fr) ∧ (∀ h : 0 < S.length, S[0].fr = 0 ∧ (S[S.length - 1]'(by omega)).rt + 1 = k) ∧ (S.length = 0 → k = 0)

/-- What holds of every state. -/
structure Fine (k : Nat) (S ys : List Sp) : Prop where
  len : ys.length = k
  root : ∀ i (h : i < ys.length), ys[i].rt = i ∧ ys[i].fr ≤ i ∧ 1 ≤ ys[i].dp ∧ ys[i].dp ≤ i + 1
  chain : Chain S k
  mem : ∀ j (h : j < S.length), ys[S[j].rt]? = some S[j]

theorem dpOf_le (kids : List Sp) (b : Nat) (h : ∀ x ∈ kids, x.dp ≤ b) : 1 ≤ dpOf kids ∧ dpOf kids ≤ b + 1 := by
  unfold dpOf
  have key : ∀ (l : List Sp) (d : Nat), (∀ x ∈ l, x.dp ≤ b) → 1 ≤ d → d ≤ b + 1 → 1 ≤ l.foldl (fun d k => max d (k.dp + 1)) d ∧ l.foldl (fun d k => max d (k.dp + 1)) d ≤ b + 1 := by
    intro l
    induction l with
    | nil => intro d _ h1 h2; exact ⟨h1, h2⟩
    | cons x l ih =>
      intro d hl h1 h2
      have hx := hl x (by simp)
      exact ih (max d (x.dp + 1)) (fun y hy => hl y (by simp [hy])) (by omega) (by omega)
  exact key kids 1 h (by omega) (by omega)

theorem Fine.snoc {k : Nat} {S ys : List Sp} {n : Int} {S' : List Sp} {s : Sp} (hf : Fine k S ys) (hstep : step S k n = some (S', s)) : Fine (k + 1) S' (ys ++ [s]) := by
  obtain ⟨h0, h1, rfl, hs⟩ := step_some hstep
  clear hstep
  obtain ⟨m, hm⟩ : ∃ m, m = S.length - n.toNat := ⟨_, rfl⟩
  rw [← hm] at hs ⊢
  have hmS : m ≤ S.length := by omega
  have hrt : s.rt = k := by rw [hs]; rfl
  have hlt : (S.take m).length = m := by simp; omega
  have hfr : s.fr = if h : m < S.length then S[m].fr else k := by
    rw [hs]
    show frOf (S.drop m) k = _
    split
    · rename_i h
      rw [List.drop_eq_getElem_cons h]
      rfl
    · rename_i h
      rw [List.drop_eq_nil_of_le (by omega)]
      rfl
  have hfk : s.fr ≤ k := by
    rw [hfr]
    split
    · rename_i h
      have := hf.chain.1 m h
      omega
    · omega
  have hdp : 1 ≤ s.dp ∧ s.dp ≤ k + 1 := by
    rw [hs]
    refine dpOf_le (S.drop m) k ?_
    intro x hx
    obtain ⟨j, hj, rfl⟩ := List.getElem_of_mem hx
    rw [List.getElem_drop]
    have hjS : m + j < S.length := by simp at hj; omega
    have h2 := hf.mem (m + j) hjS
    obtain ⟨hlt2, he⟩ := List.getElem?_eq_some_iff.1 h2
    have h3 := hf.root _ hlt2
    rw [he] at h3
    have := hf.len
    omega
  refine ⟨by simp [hf.len], ?_, ⟨?_, ?_, ?_, ?_⟩, ?_⟩
  · intro i hi
    by_cases hik : i < ys.length
    · rw [List.getElem_append_left hik]; exact hf.root i hik
    · have hl := hf.len
      have e : i = k := by simp at hi; omega
      subst e
      rw [List.getElem_append_right (by omega)]
      simp only [List.getElem_singleton]
      exact ⟨hrt, hfk, hdp⟩
  · intro j hj
    by_cases hjm : j < m
    · rw [List.getElem_append_left (by omega), List.getElem_take]
      have := hf.chain.1 j (by omega)
      omega
    · rw [List.getElem_append_right (by omega)]
      simp only [List.getElem_singleton]
      omega
  · intro j hj
    simp only [List.length_append, hlt, List.length_cons, List.length_nil] at hj
    rw [List.getElem_append_left (by omega), List.getElem_take]
    by_cases hjm : j + 1 < m
    · rw [List.getElem_append_left (by omega), List.getElem_take]
      exact hf.chain.2.1 j (by omega)
    · rw [List.getElem_append_right (by omega)]
      simp only [List.getElem_singleton]
      rw [hfr]
      have e : m = j + 1 := by omega
      subst e
      split
      · rename_i h; exact hf.chain.2.1 j h
      · rename_i h
        have h2 := hf.chain.2.2.1 (by omega)
        have e2 : S.length - 1 = j := by omega
        have h3 := h2.2
        simp only [e2] at h3
        exact h3
  · intro h
    constructor
    · by_cases hm0 : 0 < m
      · rw [List.getElem_append_left (by omega), List.getElem_take]
        exact (hf.chain.2.2.1 (by omega)).1
      · rw [List.getElem_append_right (by omega)]
        simp only [List.getElem_singleton]
        rw [hfr]
        have e : m = 0 := by omega
        subst e
        split
        · rename_i h2; exact (hf.chain.2.2.1 h2).1
        · rename_i h2; have := hf.chain.2.2.2 (by omega); omega
    · rw [List.getElem_append_right (by simp)]
      simp only [List.getElem_singleton]
      omega
  · intro h
    simp at h
  · intro j hj
    simp only [List.length_append, hlt, List.length_cons, List.length_nil] at hj
    by_cases hjm : j < m
    · rw [List.getElem_append_left (by omega), List.getElem_take]
      have h1 := hf.mem j (by omega)
      have h2 := (List.getElem?_eq_some_iff.1 h1).1
      rw [List.getElem?_append_left h2]
      exact h1
    · rw [List.getElem_append_right (by omega)]
      simp only [List.getElem_singleton, hrt]
      rw [List.getElem?_append_right (by have := hf.len; omega)]
      have : k - ys.length = 0 := by have := hf.len; omega
      rw [this]
      rfl

theorem after_fine {t : List Nd} : ∀ {k : Nat} {S ys : List Sp}, after t k = some (S, ys) → Fine k S ys := by
  intro k
  induction k with
  | zero =>
    intro S ys h
    simp only [after, Option.some.injEq, Prod.mk.injEq] at h
    obtain ⟨rfl, rfl⟩ := h
    exact ⟨rfl, fun i h => by simp at h, ⟨fun j h => by simp at h, fun j h => by simp at h, fun h => by simp at h, fun _ => rfl⟩, fun j h => by simp at h⟩
  | succ k ih =>
    intro S' ys' h
    obtain ⟨S, ys, s, hk, ha, hs, rfl⟩ := after_inv h
    exact (ih ha).snoc hs

theorem after_le {t : List Nd} {k : Nat} {S ys : List Sp} (h : after t k = some (S, ys)) : k ≤ t.length := by
  cases k with
  | zero => omega
  | succ k => obtain ⟨_, _, _, hk, _⟩ := after_inv h; omega

/-- The states ahead of a state: its terms are a part of the later ones. -/
theorem after_part {t : List Nd} {k : Nat} {S ys : List Sp} (h : after t k = some (S, ys)) : ∀ m, m ≤ k → ∃ S', after t m = some (S', ys.take m) := by
  intro m hm
  induction k generalizing S ys with
  | zero =>
    have : m = 0 := by omega
    subst this
    exact ⟨S, by simp only [after, Option.some.injEq, Prod.mk.injEq] at h ⊢; obtain ⟨rfl, rfl⟩ := h; simp⟩
  | succ k ih =>
    have hfl := (after_fine h).len
    by_cases e : m = k + 1
    · subst e
      exact ⟨S, by rw [List.take_of_length_le (by omega)]; exact h⟩
    · obtain ⟨S0, ys0, s, hk, ha, hs, rfl⟩ := after_inv h
      obtain ⟨S', h'⟩ := ih ha (by omega)
      have hl := (after_fine ha).len
      exact ⟨S', by rw [List.take_append_of_le_length (by omega)]; exact h'⟩

theorem chain_len {S : List Sp} {k : Nat} (h : Chain S k) : S.length ≤ k := by
  have key : ∀ j (hj : j < S.length), j ≤ S[j].rt := by
    intro j
    induction j with
    | zero => intro _; omega
    | succ j ih =>
      intro hj
      have h1 := ih (by omega)
      have h2 := h.2.1 j hj
      have h3 := (h.1 (j + 1) hj).1
      omega
  by_cases h0 : S.length = 0
  · omega
  · have h1 := key (S.length - 1) (by omega)
    have h2 := (h.1 (S.length - 1) (by omega)).2
    omega

/-- How deep the list is; 0 where it is no term, or too great a one. -/
def deepOf (t : List Nd) : Nat :=
  if 6000 < t.length then 0 else match after t t.length with
  | none => 0
  | some (_, ys) => match ys.getLast? with
    | none => 0
    | some s => if s.fr = 0 ∧ s.dp ≤ 300 then s.dp else 0

end Go.Proofs.YtahdmflbdmlfhaaGreatDoor

namespace Go.Proofs.YtahdmflbdmlfhaaGreatDoor

open Go.RowKit

theorem Tryz.infoN : (Tryz.prog.info? 40).map (fun i => (i.zero, i.size, i.bytes)) = some (some (.agg #[.int .i64 0, .int .i64 0, .string ByteArray.empty, .int .i64 0, .int .i64 0]), 5, 48) := by kernel_rfl

end Go.Proofs.YtahdmflbdmlfhaaGreatDoor

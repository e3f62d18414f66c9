import Derived.Test.YthioecjcnajmgaaGreatDoorDrawV
import Derived.Test.YthioecjcnajmgaaGreatDoorWBB
import Derived.Test.YthioecjcnajmgaaGreatDoorWAP
import Derived.Deep.RegionLaw
import Derived.Deep.RegionHeld3
import Derived.BigQuiet
namespace Go.Proofs.YthioecjcnajmgaaGreatDoor

open Go.RowKit

/-- A slice of Pairs of the call's own, to be appended to. -/
def OwnPs (w : World) (B g c l : Nat) (vs : List (Value × Value)) : Prop := vs.length = l ∧ w.ownsRow B 30 2 (.slice (some ⟨g, 0, none⟩) l c) l (cells2 vs)

theorem OwnPs.row {w : World} {B g c l : Nat} {vs : List (Value × Value)} (h : OwnPs w B g c l vs) : B ≤ g ∧ l ≤ c ∧ OwnT 30 w g (cells2 vs) := by
  obtain ⟨hl, ho⟩ := h
  rcases ho.2 with ⟨h', _⟩ | ⟨g2, cap2, cur, he, hb, hh, hc, _, _, htake⟩
  · cases h'
  · simp only [Value.slice.injEq, Option.some.injEq, Addr.mk.injEq, and_true, true_and] at he
    obtain ⟨rfl, rfl⟩ := he
    exact ⟨hb, hc, cur, cur.toList.drop (l * 2), hh, by rw [← htake, List.take_append_drop]⟩

theorem OwnPs.empty {w : World} {B : Nat} (hB : B ≤ w.heap.size) : OwnPs (w.alloc (.cells #[] 30)) B w.heap.size 0 0 [] :=
  ⟨rfl, rfl, Or.inr ⟨_, 0, #[], rfl, hB, heap_alloc_new _ _, Nat.le_refl _, by simp [maxLen], rfl, rfl⟩⟩

theorem OwnPs.but {S : Nat → Prop} {w w' : World} {B g c l : Nat} {vs : List (Value × Value)} (h : OwnPs w B g c l vs) (hb : But S w w') (hn : ¬ S g) : OwnPs w' B g c l vs := ⟨h.1, owns_but h.2 hb hn⟩

theorem OwnPs.push {w : World} {B g c l m : Nat} {vs : List (Value × Value)} {x : Value × Value} (h : w.ownsRow B 30 2 (.slice (some ⟨g, 0, none⟩) m c) m (cells2 vs ++ [x.1, x.2])) (hl : vs.length = l) (hm : m = l + 1) : OwnPs w B g c (l + 1) (vs ++ [x]) := by
  subst hm
  refine ⟨by simp [hl], ?_⟩
  rw [cells2_append]
  exact h

theorem pairP_cells (w : World) (a b : Value) : ∀ j u, [a, b][j]? = some u → (w.alloc (.cells #[a, b] 30)).cell? (Addr.add ⟨w.heap.size, 0, none⟩ j) = some u := by
  intro j u hj
  have ad : Addr.add ⟨w.heap.size, 0, none⟩ j = ⟨w.heap.size, j, none⟩ := by
    unfold Addr.add
    split
    · simp_all
    · simp
  rw [ad, cell_of_row _ w.heap.size j _ 30 (0, 0) (heap_alloc_new _ _), ← hj]
  simp

theorem pair_one (a1 a2 : Option Addr) (l1 c1 l2 c2 : Nat) : ∀ u ∈ [Value.slice a1 l1 c1, Value.slice a2 l2 c2], u.oneCell' = true := by
  intro u hu
  simp at hu
  rcases hu with rfl | rfl <;> rfl

/-- Pairs that were drawn, one by one. -/
structure LP (w : World) (B g c : Nat) (ps : List (List Nd × List Nd)) (vs : List (Value × Value)) : Prop where
  own : OwnPs w B g c ps.length vs
  rows : ∀ j (h : j < ps.length), ∃ g1 c1 g2 c2, vs[j]? = some (.slice (some ⟨g1, 0, none⟩) ps[j].1.length c1, .slice (some ⟨g2, 0, none⟩) ps[j].2.length c2) ∧ Row w g1 ps[j].1 ∧ Row w g2 ps[j].2

theorem LP.empty {w : World} {B : Nat} (hB : B ≤ w.heap.size) : LP (w.alloc (.cells #[] 30)) B w.heap.size 0 [] [] :=
  ⟨OwnPs.empty hB, fun j h => by simp at h⟩

theorem LP.block {w : World} {B g c : Nat} {ps : List (List Nd × List Nd)} {vs : List (Value × Value)} (h : LP w B g c ps vs) : B ≤ g ∧ g < w.heap.size := owns_block h.own.2

theorem LP.ne {w : World} {B g c gj : Nat} {ps : List (List Nd × List Nd)} {vs : List (Value × Value)} {ks : List Nd} (h : LP w B g c ps vs) (hr : Row w gj ks) : gj ≠ g := by
  intro e
  subst e
  obtain ⟨_, _, cur, rest, hc, _⟩ := h.own.row
  obtain ⟨cur', rest', hc', _⟩ := hr
  rw [hc] at hc'
  simp at hc'

theorem LP.below {w w' : World} {B g c : Nat} {ps : List (List Nd × List Nd)} {vs : List (Value × Value)} (h : LP w B g c ps vs) (hb : Below w.heap.size w w') : LP w' B g c ps vs :=
  ⟨h.own.but (S := fun _ => False) (But.ofBelow hb) (fun h => h), fun j hj => by
    obtain ⟨g1, c1, g2, c2, e, h1, h2⟩ := h.rows j hj
    exact ⟨g1, c1, g2, c2, e, h1.below hb, h2.below hb⟩⟩

theorem LP.pairs {w : World} {B g c : Nat} {ps : List (List Nd × List Nd)} {vs : List (Value × Value)} (h : LP w B g c ps vs) : Pairs w (some ⟨g, 0, none⟩) ps := by
  intro j hj
  obtain ⟨g1, c1, g2, c2, e, h1, h2⟩ := h.rows j hj
  obtain ⟨_, _, ho⟩ := h.own.row
  have hl : vs.length = ps.length := h.own.1
  have hlt : j < vs.length := by omega
  have e2 : vs[j] = (.slice (some ⟨g1, 0, none⟩) ps[j].1.length c1, .slice (some ⟨g2, 0, none⟩) ps[j].2.length c2) := by
    rw [List.getElem?_eq_getElem hlt] at e
    simpa using e
  obtain ⟨d0, d1⟩ := cells2_get vs j hlt
  rw [e2] at d0 d1
  have hcl := cells2_length vs
  refine ⟨g, 0, some ⟨g1, 0, none⟩, c1, some ⟨g2, 0, none⟩, c2, rfl, ?_, ?_, h1.nodes, h2.nodes⟩
  · rw [Nat.zero_add]
    exact (OwnT.at ho (j * 2) (by omega)).trans d0
  · rw [Nat.zero_add]
    exact (OwnT.at ho (j * 2 + 1) (by omega)).trans d1

theorem LP.push {w w' : World} {B g c g2 c2 ga ca gb cb : Nat} {ps : List (List Nd × List Nd)} {vs : List (Value × Value)} {a b : List Nd} (h : LP w B g c ps vs) (hg : w.grownBy w' (some g)) (hra : Row w ga a) (hrb : Row w gb b)
    (ho : w'.ownsRow B 30 2 (.slice (some ⟨g2, 0, none⟩) (ps.length + 1) c2) (ps.length + 1) (cells2 vs ++ [.slice (some ⟨ga, 0, none⟩) a.length ca, .slice (some ⟨gb, 0, none⟩) b.length cb])) :
    LP w' B g2 c2 (ps ++ [(a, b)]) (vs ++ [(.slice (some ⟨ga, 0, none⟩) a.length ca, .slice (some ⟨gb, 0, none⟩) b.length cb)]) := by
  have hvl : vs.length = ps.length := h.own.1
  have hbut : But (· = g) w w' := (But.refl (· = g) w).grown hg (fun _ => rfl)
  have kept : ∀ {q : Nat} {zs : List Nd}, Row w q zs → Row w' q zs := fun {q zs} hq => hbut.row hq (h.ne hq)
  have hO := OwnPs.push (x := (.slice (some ⟨ga, 0, none⟩) a.length ca, .slice (some ⟨gb, 0, none⟩) b.length cb)) ho hvl rfl
  refine ⟨by simpa using hO, ?_⟩
  intro j hj
  by_cases hji : j < ps.length
  · obtain ⟨g1, c1, g2, c2, e, h1, h2⟩ := h.rows j hji
    refine ⟨g1, c1, g2, c2, ?_, ?_, ?_⟩
    · rw [List.getElem?_append_left (by omega), List.getElem_append_left hji]
      exact e
    · rw [List.getElem_append_left hji]
      exact kept h1
    · rw [List.getElem_append_left hji]
      exact kept h2
  · have hje : j = ps.length := by simp at hj; omega
    subst hje
    refine ⟨ga, ca, gb, cb, ?_, ?_, ?_⟩
    · rw [List.getElem?_append_right (by omega)]
      simp [hvl]
    · simp only [List.getElem_append_right (Nat.le_refl _), Nat.sub_self, List.getElem_cons_zero]
      exact kept hra
    · simp only [List.getElem_append_right (Nat.le_refl _), Nat.sub_self, List.getElem_cons_zero]
      exact kept hrb

/-- Numbers and sizes of drawn pairs. -/
def SideOk (t : List Nd) : Prop := t.length ≤ 100 ∧ ∀ z ∈ t, 0 ≤ z.num ∧ z.num ≤ 100000

def PairOk (ps : List (List Nd × List Nd)) : Prop := ∀ p ∈ ps, SideOk p.1 ∧ SideOk p.2

def SideOk2 (t : List Nd) : Prop := t.length ≤ 101 ∧ ∀ z ∈ t, 0 ≤ z.num ∧ z.num ≤ 100000

def PairOk2 (ps : List (List Nd × List Nd)) : Prop := ∀ p ∈ ps, SideOk2 p.1 ∧ SideOk2 p.2

theorem SideOk.two {t : List Nd} (h : SideOk t) : SideOk2 t := ⟨by have := h.1; omega, h.2⟩

theorem PairOk.two {ps : List (List Nd × List Nd)} (h : PairOk ps) : PairOk2 ps := fun p hp => ⟨(h p hp).1.two, (h p hp).2.two⟩

theorem PairOk.snoc {ps : List (List Nd × List Nd)} {a b : List Nd} (h : PairOk ps) (ha : SideOk a) (hb : SideOk b) : PairOk (ps ++ [(a, b)]) := by
  intro p hp
  rcases List.mem_append.1 hp with hp | hp
  · exact h p hp
  · simp at hp
    subst hp
    exact ⟨ha, hb⟩

theorem sideLeaf {k v : Int} (h0 : 0 ≤ v) (h1 : v ≤ 100000) : SideOk [⟨k, v, ByteArray.empty, 0, 0⟩] := ⟨by simp, fun z hz => by simp at hz; subst hz; exact ⟨h0, h1⟩⟩

theorem two_lists (W : World) {q : Nat} {x : Nd} (hr : Row W q [x]) : Lists (W.alloc (.cells #[.slice (some ⟨q, 0, none⟩) 1 1, .slice (some ⟨q, 0, none⟩) 1 1] 27)) (some ⟨W.heap.size, 0, none⟩) [[x], [x]] := by
  have hB : Below W.heap.size W (W.alloc (.cells #[.slice (some ⟨q, 0, none⟩) 1 1, .slice (some ⟨q, 0, none⟩) 1 1] 27)) := (Below.refl _ W).alloc (Nat.le_refl _) _
  intro i hi
  have h2 : i = 0 ∨ i = 1 := by simp at hi; omega
  rcases h2 with rfl | rfl
  · refine ⟨W.heap.size, 0, some ⟨q, 0, none⟩, 1, rfl, ?_, (hr.below hB).nodes⟩
    rw [cell_of_row _ _ _ _ _ _ (heap_alloc_new _ _)]; rfl
  · refine ⟨W.heap.size, 0, some ⟨q, 0, none⟩, 1, rfl, ?_, (hr.below hB).nodes⟩
    rw [cell_of_row _ _ _ _ _ _ (heap_alloc_new _ _)]; rfl

/-- The first side of the first pair is another row. -/
theorem LP.first {W W1 : World} {B g c : Nat} {ps : List (List Nd × List Nd)} {vs : List (Value × Value)} (h : LP W B g c ps vs) (h0 : 0 < ps.length) {gA cA gB cB : Nat} {lA lB : Nat} (e0 : vs[0]? = some (.slice (some ⟨gA, 0, none⟩) lA cA, .slice (some ⟨gB, 0, none⟩) lB cB)) (hAg : gA ≠ g) (hne : gB ≠ gA)
    (hoth : ∀ j, 1 ≤ j → ∀ g1 l1 c1 g2 l2 c2, vs[j]? = some (.slice (some ⟨g1, 0, none⟩) l1 c1, .slice (some ⟨g2, 0, none⟩) l2 c2) → g1 ≠ gA ∧ g2 ≠ gA) (hbut : But (· = gA) W W1) {g2 c2 : Nat} {A' : List Nd} (hrow : Row W1 g2 A') (hg2 : g2 ≠ g) :
    Pairs (W1.setCell ⟨g, 0, none⟩ (.slice (some ⟨g2, 0, none⟩) A'.length c2)) (some ⟨g, 0, none⟩) (ps.set 0 (A', ps[0].2)) := by
  obtain ⟨_, _, ho⟩ := h.own.row
  have hl : vs.length = ps.length := h.own.1
  have hcl := cells2_length vs
  have ho1 := OwnT.but ho hbut (fun e => hAg e.symm)
  have ho2 := OwnT.set ho1 0 (.slice (some ⟨g2, 0, none⟩) A'.length c2) (by omega)
  have hb2 : But (· = g) W1 (W1.setCell ⟨g, 0, none⟩ (.slice (some ⟨g2, 0, none⟩) A'.length c2)) := But.setCell (S := fun q => q = g) (But.refl _ _) (p := ⟨g, 0, none⟩) rfl _
  intro j hj
  have hj' : j < ps.length := by simpa using hj
  obtain ⟨q1, d1, q2, d2, e, r1, r2⟩ := h.rows j hj'
  have hlt : j < vs.length := by omega
  have e2 : vs[j] = (.slice (some ⟨q1, 0, none⟩) ps[j].1.length d1, .slice (some ⟨q2, 0, none⟩) ps[j].2.length d2) := by
    rw [List.getElem?_eq_getElem hlt] at e
    simpa using e
  obtain ⟨x0, x1⟩ := cells2_get vs j hlt
  rw [e2] at x0 x1
  have n1 := h.ne r1
  have n2 := h.ne r2
  by_cases hj0 : j = 0
  · subst hj0
    rw [e] at e0
    simp only [Option.some.injEq, Prod.mk.injEq, Value.slice.injEq, Addr.mk.injEq, and_true] at e0
    obtain ⟨⟨rfl, _, rfl⟩, ⟨rfl, _, rfl⟩⟩ := e0
    refine ⟨g, 0, some ⟨g2, 0, none⟩, c2, some ⟨q2, 0, none⟩, d2, rfl, ?_, ?_, ?_, ?_⟩
    · have := OwnT.at ho2 0 (by simp; omega)
      rw [Nat.zero_mul, Nat.add_zero, this]
      simp only [List.getElem_set_self]
      rw [List.getElem?_set_self (by omega)]
    · have := OwnT.at ho2 1 (by simp; omega)
      rw [Nat.zero_mul, Nat.add_zero, this]
      simp only [List.getElem_set_self]
      rw [List.getElem?_set_ne (by omega)]
      exact x1
    · simp only [List.getElem_set_self]
      exact (hb2.row hrow hg2).nodes
    · simp only [List.getElem_set_self]
      exact (hb2.row (hbut.row r2 hne) n2).nodes
  · obtain ⟨m1, m2⟩ := hoth j (by omega) _ _ _ _ _ _ e
    have eg : (ps.set 0 (A', ps[0].2))[j] = ps[j] := by rw [List.getElem_set_ne (by omega)]
    refine ⟨g, 0, some ⟨q1, 0, none⟩, d1, some ⟨q2, 0, none⟩, d2, rfl, ?_, ?_, ?_, ?_⟩
    · rw [Nat.zero_add, OwnT.at ho2 (j * 2) (by simp; omega), List.getElem?_set_ne (by omega), x0, eg]
    · rw [Nat.zero_add, OwnT.at ho2 (j * 2 + 1) (by simp; omega), List.getElem?_set_ne (by omega), x1, eg]
    · rw [eg]; exact (hb2.row (hbut.row r1 m1) n1).nodes
    · rw [eg]; exact (hb2.row (hbut.row r2 m2) n2).nodes

/-- Of the first pair's first side: it can be appended to, and no other row lies where it does. -/
def Fst (w : World) (B M : Nat) (ps : List (List Nd × List Nd)) (vs : List (Value × Value)) : Prop := ∃ (gA cA gB cB : Nat) (a b : List Nd), ps[0]? = some (a, b) ∧ vs[0]? = some (.slice (some ⟨gA, 0, none⟩) a.length cA, .slice (some ⟨gB, 0, none⟩) b.length cB) ∧ OwnN w B gA cA a.length a ∧ gB ≠ gA ∧ gA < M ∧
  ∀ j, 1 ≤ j → ∀ g1 l1 c1 g2 l2 c2, vs[j]? = some (.slice (some ⟨g1, 0, none⟩) l1 c1, .slice (some ⟨g2, 0, none⟩) l2 c2) → M ≤ g1 ∧ M ≤ g2

theorem Fst.below {w w' : World} {B M : Nat} {ps : List (List Nd × List Nd)} {vs : List (Value × Value)} (h : Fst w B M ps vs) (hb : Below w.heap.size w w') : Fst w' B M ps vs := by
  obtain ⟨gA, cA, gB, cB, a, b, h1, h2, h3, h4, h5, h7⟩ := h
  exact ⟨gA, cA, gB, cB, a, b, h1, h2, h3.below hb, h4, h5, h7⟩

theorem Fst.push {w w' : World} {B M g : Nat} {ps : List (List Nd × List Nd)} {vs : List (Value × Value)} (h : Fst w B M ps vs) (hl : vs.length = ps.length) (hg : w.grownBy w' (some g)) (hng : ∀ q zs, Row w q zs → q ≠ g) {a b : List Nd} {ga la ca gb lb cb : Nat} (hMa : M ≤ ga) (hMb : M ≤ gb) :
    Fst w' B M (ps ++ [(a, b)]) (vs ++ [(.slice (some ⟨ga, 0, none⟩) la ca, .slice (some ⟨gb, 0, none⟩) lb cb)]) := by
  obtain ⟨gA, cA, gB, cB, x, y, h1, h2, h3, h4, h5, h7⟩ := h
  have hp := (List.getElem?_eq_some_iff.1 h1).1
  refine ⟨gA, cA, gB, cB, x, y, by rw [List.getElem?_append_left hp]; exact h1, by rw [List.getElem?_append_left (by omega)]; exact h2, h3.kept hg (hng _ _ h3.row.2), h4, h5, ?_⟩
  intro j hj g1 l1 c1 g2 l2 c2 e
  by_cases hjl : j < vs.length
  · rw [List.getElem?_append_left hjl] at e
    exact h7 j hj _ _ _ _ _ _ e
  · rw [List.getElem?_append_right (by omega)] at e
    obtain ⟨hz, e⟩ := List.getElem?_eq_some_iff.1 e
    have hz0 : j - vs.length = 0 := by simp at hz; omega
    simp only [hz0, List.getElem_cons_zero, Prod.mk.injEq, Value.slice.injEq, Option.some.injEq, Addr.mk.injEq, and_true] at e
    obtain ⟨⟨rfl, _⟩, ⟨rfl, _⟩⟩ := e
    exact ⟨hMa, hMb⟩

theorem Fst.start {w w' : World} {B M g : Nat} (hg : w.grownBy w' (some g)) (hng : ∀ q zs, Row w q zs → q ≠ g) {a b : List Nd} {ga ca gb cb : Nat} (ho : OwnN w B ga ca a.length a) (hne : gb ≠ ga) (hM : ga < M) :
    Fst w' B M ([] ++ [(a, b)]) ([] ++ [(.slice (some ⟨ga, 0, none⟩) a.length ca, .slice (some ⟨gb, 0, none⟩) b.length cb)]) := by
  refine ⟨ga, ca, gb, cb, a, b, rfl, rfl, ho.kept hg (hng _ _ ho.row.2), hne, hM, ?_⟩
  intro j hj g1 l1 c1 g2 l2 c2 e
  exfalso
  have hz := (List.getElem?_eq_some_iff.1 e).1
  simp at hz
  omega

/-- What DrawSolve answers. -/
def DrewP (w : World) (e : Ending) (w' : World) : Prop := ∃ (g c l : Nat) (ps : List (List Nd × List Nd)), e = .returned (.slice (some ⟨g, 0, none⟩) l c) ∧ ps.length = l ∧ l ≤ 10001 ∧ l ≤ c ∧ Pairs w' (some ⟨g, 0, none⟩) ps ∧ PairOk2 ps ∧ Below w.heap.size w w'

theorem Tryz.infoPr : (Tryz.prog.info? 30).map (fun i => (i.zero, i.size, i.bytes)) = some (some (.agg #[.slice none 0 0, .slice none 0 0]), 2, 48) := by kernel_rfl

set_option maxRecDepth 100000 in
set_option maxHeartbeats 8000000 in
theorem drawSolve_any (n : Nat) (hn : n ≤ 1048576) (ao : Option Addr) (cap : Nat) (w : World) (hc : Code w ao n) :
    Calls Tryz.prog 4 #[.slice ao n cap] w fun e w' => DrewP w e w' := by
  obtain ⟨i1, hj1, hy0, hy1, hy2⟩ := info_parts Tryz.infoPr
  go_enter Tryz.func4, Tryz.ntmps4
  go_wp2_with fail
  refine (takeB_any n hn ao cap w hc 0 30 (by omega) (by omega) (by omega)).mono ?_
  rintro e w1 ⟨⟨how, hhow, rfl⟩, hb1⟩
  go_wp2_with fail
  refine (takeB_any n hn ao cap w1 (hc.below hb1) 1 6 (by omega) (by omega) (by omega)).mono ?_
  rintro e w2 ⟨⟨k0, hk0, rfl⟩, hb2⟩
  have hbb := Below.step hb1 hb2
  have hc2 := hc.below hbb
  have HC : Hid (Code w ao n) := hc
  have hP0 := LP.empty (w := w2) (B := w.heap.size) hbb.size
  have hbA : Below w.heap.size w (w2.alloc (.cells #[] 30)) := hbb.alloc hbb.size _
  clear hb1 hb2 hc
  by_cases h29 : how = 29
  · subst h29
    obtain ⟨N, hN⟩ : ∃ N : Nat, 10000 + k0 % 2 = N := ⟨_, rfl⟩
    have hNi : (10000 : Int) + (k0 : Int) % 2 = (N : Int) := by omega
    have hN1 : N ≤ 10001 := by omega
    clear hN hk0 hc2
    go_wp2
    go_loopw [6, 7] (fun ov iv wr => ∃ (k g c : Nat) (ps : List (List Nd × List Nd)) (vs : List (Value × Value)), k ≤ N ∧ iv = .int .i64 (k : Int) ∧ ov = .slice (some ⟨g, 0, none⟩) k c ∧ LP wr w.heap.size g c ps vs ∧ Hid (ps.length = k) ∧ Hid (PairOk ps) ∧ Below w.heap.size w wr) (fun _ iv _ => N - (intOf iv).toNat)
    case atStart => exact ⟨0, w2.heap.size, 0, [], [], Nat.zero_le _, rfl, rfl, hP0, rfl, fun p hp => by simp at hp, hbA⟩
    case round =>
      clear hP0 hbA hbb
      obtain ⟨k, g, c, ps, vs, hk, rfl, rfl, hP, HPL, HPO, hbr⟩ := hrel
      by_cases hlt : k < N
      · have tlt : decide ((k : Int) < (N : Int)) = true := decide_eq_true (by omega)
        obtain ⟨v2, hv2, hv20, hv21⟩ : ∃ v : Int, ((k : Int) / 2) = v ∧ 0 ≤ v ∧ v ≤ 10001 := ⟨_, rfl, by omega, by omega⟩
        go_wp2_with fail
        refine (leaf_any 61 _ wr).mono ?_
        rintro e w3 ⟨rfl, hra, hb3⟩
        go_wp2_with fail
        refine (leaf_any 61 _ w3).mono ?_
        rintro e w4 ⟨rfl, hrb, hb4⟩
        have hra4 := hra.row.2.below hb4
        have hrb4 := hrb.row.2
        have hs3 := hb3.size
        have hs4 := hb4.size
        have hP4 := (hP.below hb3).below hb4
        have hb5 := Below.step (Below.step hbr hb3) hb4
        clear hra hrb hP hbr hb3 hb4
        have hB5 : Below w4.heap.size w4 (w4.alloc (.cells #[.slice (some ⟨wr.heap.size, 0, none⟩) 1 1, .slice (some ⟨w3.heap.size, 0, none⟩) 1 1] 30)) := (Below.refl _ w4).alloc (Nat.le_refl _) _
        have hP5 := hP4.below hB5
        have hra5 := hra4.below hB5
        have hrb5 := hrb4.below hB5
        have hown5 := hP5.own.2
        rw [HPL.out] at hown5
        have hgb := hP4.block
        have HP5 : Hid (LP (w4.alloc (.cells #[.slice (some ⟨wr.heap.size, 0, none⟩) 1 1, .slice (some ⟨w3.heap.size, 0, none⟩) 1 1] 30)) w.heap.size g c ps vs) := hP5
        clear hP4 hra4 hrb4 hP5 hB5
        go_wp2_with (at_builtin; refine wpList_append2 _ rfl (.tmp 37) (.tmp 46) 23 rfl w.heap.size 30 i1 _ 2 48 Tryz.underlying23 hj1 hy0 hy1 hy2 rfl (by decide) g k c _ rfl hown5 ⟨_, 0, none⟩ 1 1 [.slice (some ⟨wr.heap.size, 0, none⟩) 1 1, .slice (some ⟨w3.heap.size, 0, none⟩) 1 1] rfl rfl (pairP_cells _ _ _) (pair_one _ _ _ _ _ _) ?b3 ?b4 ?b5 ?_)
        case b3 => unfold maxLen; omega
        case b4 => omega
        case b5 => have := hb5.size; simp; omega
        intro g2 c2 w8 hown8 hgrow8 hwh8
        have hP8 := HP5.out.push (ca := 1) (cb := 1) hgrow8 hra5 hrb5 (by rw [HPL.out]; exact hown8)
        have hb8 : Below w.heap.size w w8 := (hb5.alloc hb5.size _).grown hgrow8 (hb5.alloc hb5.size _).size (fun j hj => by cases hj; exact hgb.1)
        have HPO8 : Hid (PairOk (ps ++ [([⟨61, 1 + (k : Int), ByteArray.empty, 0, 0⟩], [⟨61, 1 + v2, ByteArray.empty, 0, 0⟩])])) := HPO.out.snoc (sideLeaf (by omega) (by omega)) (sideLeaf (by omega) (by omega))
        have HPL8 : Hid ((ps ++ [(([⟨61, 1 + (k : Int), ByteArray.empty, 0, 0⟩] : List Nd), ([⟨61, 1 + v2, ByteArray.empty, 0, 0⟩] : List Nd))]).length = k + 1) := by rw [Hid, List.length_append, HPL.out]; rfl
        clear hown8 hgrow8 hwh8 hown5 hra5 hrb5 HP5 hb5
        go_wp2
        go_roundw
        case rel => exact ⟨k + 1, g2, c2, _, _, by omega, by go_num, rfl, hP8, HPL8, HPO8, hb8⟩
        case measure => simp [intOf]; omega
      · have tlt : decide ((k : Int) < (N : Int)) = false := decide_eq_false (by omega)
        have hkN : k = N := by omega
        subst hkN
        have hcc := hP.own.row
        rw [HPL.out] at hcc
        have HPP : Hid (∃ ps : List (List Nd × List Nd), ps.length = k ∧ Pairs wr (some ⟨g, 0, none⟩) ps ∧ PairOk ps) := ⟨ps, HPL.out, hP.pairs, HPO.out⟩
        have hkc := hcc.2.1
        clear hP hcc
        go_wp2
        go_ret
        obtain ⟨ps, h1, h2, h3⟩ := HPP.out
        exact ⟨g, c, k, ps, rfl, h1, hN1, hkc, h2, h3.two, hbr⟩
  · have t29 : ((how : Int) == 29) = false := by simp; omega
    by_cases h28 : how = 28
    · subst h28
      obtain ⟨N, hN⟩ : ∃ N : Nat, 4 + k0 = N := ⟨_, rfl⟩
      have hNi : (4 : Int) + (k0 : Int) = (N : Int) := by omega
      have hN1 : N ≤ 10 := by omega
      clear hN hk0 hc2
      go_wp2
      go_loopw [6, 8] (fun ov iv wr => ∃ (k g c : Nat) (ps : List (List Nd × List Nd)) (vs : List (Value × Value)), k ≤ N ∧ iv = .int .i64 (k : Int) ∧ ov = .slice (some ⟨g, 0, none⟩) k c ∧ LP wr w.heap.size g c ps vs ∧ Hid (ps.length = k) ∧ Hid (PairOk ps) ∧ Below w.heap.size w wr) (fun _ iv _ => N - (intOf iv).toNat)
      case atStart => exact ⟨0, w2.heap.size, 0, [], [], Nat.zero_le _, rfl, rfl, hP0, rfl, fun p hp => by simp at hp, hbA⟩
      case round =>
        clear hP0 hbA hbb
        obtain ⟨k, g, c, ps, vs, hk, rfl, rfl, hP, HPL, HPO, hbr⟩ := hrel
        by_cases hlt : k < N
        · have tlt : decide ((k : Int) < (N : Int)) = true := decide_eq_true (by omega)
          go_wp2_with fail
          refine (leaf_any 61 _ wr).mono ?_
          rintro e w3 ⟨rfl, hra, hb3⟩
          go_wp2_with fail
          refine (leaf_any 61 _ w3).mono ?_
          rintro e w4 ⟨rfl, hrb, hb4⟩
          obtain ⟨x, hx⟩ : ∃ x : Nd, (⟨61, 2 + (k : Int), ByteArray.empty, 0, 0⟩ : Nd) = x := ⟨_, rfl⟩
          rw [hx] at hra
          have hxn : 0 ≤ x.num ∧ x.num ≤ 100000 := by rw [← hx]; simp only; omega
          have hra4 := hra.row.2.below hb4
          have hrb4 := hrb.row.2
          have hs3 := hb3.size
          have hs4 := hb4.size
          have hP4 := (hP.below hb3).below hb4
          have hb5 := Below.step (Below.step hbr hb3) hb4
          have HLi := two_lists w4 hra4
          have HJ := specJoin_any ⟨14, 0, ⟨#[]⟩, 0, 0⟩ [[x], [x]] 2 rfl _ 2 _ HLi (by simp [total]) (by omega)
          simp only at HJ
          have hBl : Below w4.heap.size w4 (w4.alloc (.cells #[.slice (some ⟨wr.heap.size, 0, none⟩) 1 1, .slice (some ⟨wr.heap.size, 0, none⟩) 1 1] 27)) := (Below.refl _ w4).alloc (Nat.le_refl _) _
          have hPl := hP4.below hBl
          have hrbl := hrb4.below hBl
          have hbl := Below.step hb5 hBl
          clear hra hrb hP hbr hb3 hb4 hx HLi hBl hP4 hrb4 hb5 hra4
          go_wp2_with fail
          refine HJ.mono ?_
          rintro e w5 ⟨v, rfl, hH, hb6⟩
          obtain ⟨g9, c9, rfl, hg9, _⟩ := hH.row (by simp)
          have hO9 : OwnN w5 _ g9 c9 ([[x], [x]].flatten ++ [(⟨14, 0, ⟨#[]⟩, 2, 0⟩ : Nd)]).length ([[x], [x]].flatten ++ [(⟨14, 0, ⟨#[]⟩, 2, 0⟩ : Nd)]) := ⟨rfl, hH⟩
          have hr9 := hO9.row.2
          obtain ⟨Y, hY⟩ : ∃ Y : List Nd, [[x], [x]].flatten ++ [(⟨14, 0, ⟨#[]⟩, 2, 0⟩ : Nd)] = Y := ⟨_, rfl⟩
          have hYl : Y.length = 3 := by rw [← hY]; rfl
          have hYok : SideOk Y := by
            refine ⟨by omega, fun z hz => ?_⟩
            rw [← hY] at hz
            simp at hz
            rcases hz with rfl | rfl
            · exact hxn
            · simp
          rw [hY] at hr9
          have hP6 := hPl.below hb6
          have hrb6 := hrbl.below hb6
          have hbw6 := Below.step hbl hb6
          clear hH hO9 HJ hPl hrbl hbl hb6 hY
          have hB7 : Below w5.heap.size w5 (w5.alloc (.cells #[.slice (some ⟨w3.heap.size, 0, none⟩) 1 1, .slice (some ⟨g9, 0, none⟩) 3 c9] 30)) := (Below.refl _ w5).alloc (Nat.le_refl _) _
          have hP7 := hP6.below hB7
          have hra7 := hrb6.below hB7
          have hrb7 := hr9.below hB7
          have hown7 := hP7.own.2
          rw [HPL.out] at hown7
          have hgb := hP6.block
          have HP7 : Hid (LP (w5.alloc (.cells #[.slice (some ⟨w3.heap.size, 0, none⟩) 1 1, .slice (some ⟨g9, 0, none⟩) 3 c9] 30)) w.heap.size g c ps vs) := hP7
          have HYL : Hid (Y.length = 3) := hYl
          clear hP6 hrb6 hr9 hP7 hB7 hYl
          go_wp2_with (at_builtin; refine wpList_append2 _ rfl (.tmp 60) (.tmp 70) 23 rfl w.heap.size 30 i1 _ 2 48 Tryz.underlying23 hj1 hy0 hy1 hy2 rfl (by decide) g k c _ rfl hown7 ⟨_, 0, none⟩ 1 1 [.slice (some ⟨w3.heap.size, 0, none⟩) 1 1, .slice (some ⟨g9, 0, none⟩) 3 c9] rfl rfl (pairP_cells _ _ _) (pair_one _ _ _ _ _ _) ?b3 ?b4 ?b5 ?_)
          case b3 => unfold maxLen; omega
          case b4 => omega
          case b5 => have := hbw6.size; simp; omega
          intro g2 c2 w8 hown8 hgrow8 hwh8
          have hP8 := HP7.out.push (ca := 1) (cb := c9) hgrow8 hra7 hrb7 (by rw [HPL.out, HYL.out]; exact hown8)
          have hb8 : Below w.heap.size w w8 := (hbw6.alloc hbw6.size _).grown hgrow8 (hbw6.alloc hbw6.size _).size (fun j hj => by cases hj; exact hgb.1)
          have HPO8 : Hid (PairOk (ps ++ [([⟨61, 1 + (k : Int), ByteArray.empty, 0, 0⟩], Y)])) := HPO.out.snoc (sideLeaf (by omega) (by omega)) hYok
          have HPL8 : Hid ((ps ++ [(([⟨61, 1 + (k : Int), ByteArray.empty, 0, 0⟩] : List Nd), Y)]).length = k + 1) := by rw [Hid, List.length_append, HPL.out]; rfl
          clear hown8 hgrow8 hwh8 hown7 hra7 hrb7 HP7 hbw6
          go_wp2
          go_roundw
          case rel => exact ⟨k + 1, g2, c2, _, _, by omega, by go_num, rfl, hP8, HPL8, HPO8, hb8⟩
          case measure => simp [intOf]; omega
        · have tlt : decide ((k : Int) < (N : Int)) = false := decide_eq_false (by omega)
          have hkN : k = N := by omega
          subst hkN
          have hcc := hP.own.row
          rw [HPL.out] at hcc
          have HPP : Hid (∃ ps : List (List Nd × List Nd), ps.length = k ∧ Pairs wr (some ⟨g, 0, none⟩) ps ∧ PairOk ps) := ⟨ps, HPL.out, hP.pairs, HPO.out⟩
          have hkc := hcc.2.1
          have hk9 : k ≤ 10001 := by omega
          clear hP hcc
          go_wp2
          go_ret
          obtain ⟨ps, h1, h2, h3⟩ := HPP.out
          exact ⟨g, c, k, ps, rfl, h1, hk9, hkc, h2, h3.two, hbr⟩
    · have t28 : ((how : Int) == 28) = false := by simp; omega
      obtain ⟨mt, hmt⟩ : ∃ mt : Nat, 2 + k0 = mt := ⟨_, rfl⟩
      have hmti : (2 : Int) + (k0 : Int) = (mt : Int) := by omega
      have hmt1 : mt ≤ 16 := by omega
      have hmt0 : 1 ≤ mt := by omega
      have HCW : Hid (∀ W, Below w.heap.size w W → Code W ao n) := fun W hW => HC.out.below hW
      clear hmt hc2 HC
      go_wp2
      go_loopw [5, 6, 11] (fun pv ov iv wr => ∃ (k q g c : Nat) (ps : List (List Nd × List Nd)) (vs : List (Value × Value)), k ≤ k0 + 1 ∧ iv = .int .i64 (k : Int) ∧ pv = .int .i64 (q : Int) ∧ ov = .slice (some ⟨g, 0, none⟩) k c ∧ LP wr w.heap.size g c ps vs ∧ Hid (ps.length = k) ∧ Hid (PairOk ps) ∧ q ≤ 2 + k * 100 ∧ Hid (k = 0 ∨ ∃ M, M ≤ wr.heap.size ∧ Fst wr w.heap.size M ps vs) ∧ Below w.heap.size w wr) (fun _ _ iv _ => k0 + 1 - (intOf iv).toNat)
      case atStart => exact ⟨0, 2, w2.heap.size, 0, [], [], Nat.zero_le _, rfl, rfl, rfl, hP0, rfl, fun p hp => by simp at hp, by omega, .inl rfl, hbA⟩
      case round =>
        clear hP0 hbA hbb
        obtain ⟨k, q, g, c, ps, vs, hk, rfl, rfl, rfl, hP, HPL, HPO, hq, HFS, hbr⟩ := hrel
        by_cases hlt : k ≤ k0
        · have tlt : decide ((k : Int) ≤ (k0 : Int)) = true := decide_eq_true (by omega)
          have hq9 : q ≤ 502 := by
            have : k * 100 ≤ 5 * 100 := Nat.mul_le_mul_right _ (by omega)
            omega
          have hst3 : stepsT 3 = 45 := rfl
          have hmx3 : maxT 3 = 15 := rfl
          have HD := drawTypeO_any n hn ao cap mt hmt0 hmt1 3 (by omega) q wr (HCW.out wr hbr) (by omega)
          go_wp2_with fail
          refine HD.mono ?_
          rintro e w3 ⟨ga, ca, la, qa, A, rfl, hla, hla0, hlam, hga, hoA, hnA, hqa, hb3, hoA1⟩
          rw [hst3] at hqa
          rw [hmx3] at hlam
          have hP3 := hP.below hb3
          have hbr3 := Below.step hbr hb3
          have hs3 := hb3.size
          have hwr := hbr.size
          have hFS3 : Hid (k = 0 ∨ ∃ M, M ≤ wr.heap.size ∧ Fst w3 w.heap.size M ps vs) := by
            rcases HFS.out with h | ⟨M, h1, h2⟩
            · exact .inl h
            · exact .inr ⟨M, h1, h2.below hb3⟩
          clear HD hP HFS hb3
          have HLA : Hid (A.length = la) := hla
          have hrA := hoA.row.2
          have hgaw := hrA.lt
          have HSZ := sizes_any A la HLA (by omega) (some ⟨ga, 0, none⟩) ca w3 hrA.nodes
          go_wp2_with fail
          refine HSZ.mono ?_
          rintro e w4 ⟨gz, cz, nz, rfl, hiz, hb4⟩
          obtain ⟨sA, ysA, hrunA⟩ := hoA1
          have hszA : sizesOf A = ysA.map szOf := by unfold sizesOf; rw [hrunA]
          have hylA := (after_fine hrunA).len
          rw [hszA] at hiz
          have hnz : nz = la := by have := hiz.1; simp at this; omega
          subst hnz
          rw [hla] at hrunA
          have hP4 := hP3.below hb4
          have hoA4 := hoA.below hb4
          have hbr4 := Below.step hbr3 hb4
          have hs4 := hb4.size
          have hFS4 : Hid (k = 0 ∨ ∃ M, M ≤ wr.heap.size ∧ Fst w4 w.heap.size M ps vs) := by
            rcases hFS3.out with h | ⟨M, h1, h2⟩
            · exact .inl h
            · exact .inr ⟨M, h1, h2.below hb4⟩
          obtain ⟨sr, hsr⟩ : ∃ sr, ysA[nz - 1]'(by omega) = sr := ⟨_, rfl⟩
          have hsr2 : ysA[nz - 1]? = some sr := by rw [List.getElem?_eq_getElem (by omega), hsr]
          have hspl : (span A sr.fr (nz - 1)).length ≤ 15 := by
            unfold span
            simp
            omega
          have hc1 : (nz : Int) - 1 = ((nz - 1 : Nat) : Int) := by omega
          have HV := vary_any n hn ao cap mt hmt0 hmt1 A [sA] ysA nz HLA (by omega) hrunA hnA (nz - 1) sr qa ga ca gz cz w3.heap.size w4 (by omega) hsr2 (HCW.out w4 hbr4) hoA4.row.2 hiz (by omega)
          obtain ⟨SL, hSL⟩ : ∃ SL, (span A sr.fr (nz - 1)).length = SL := ⟨_, rfl⟩
          rw [hSL] at hspl HV
          clear hrA HSZ hoA hP3 hbr hFS3 hszA hylA hrunA hsr hsr2 hSL hiz hb4 hbr3
          go_wp2_with fail
          refine HV.mono ?_
          rintro e w5 ⟨gb, cb, lb, zq, B, rfl, hlb, _, hlbm, hgb5, hoB, hnB, hzq, hb5, _⟩
          have HLB : Hid (B.length = lb) := hlb
          have hPW := hP4.below hb5
          have hoAW := hoA4.below hb5
          have hbW := Below.step hbr4 hb5
          have hs5 := hb5.size
          have hrBW := hoB.row.2
          have hFSW : Hid (k = 0 ∨ ∃ M, M ≤ wr.heap.size ∧ Fst w5 w.heap.size M ps vs) := by
            rcases hFS4.out with h | ⟨M, h1, h2⟩
            · exact .inl h
            · exact .inr ⟨M, h1, h2.below hb5⟩
          have hBok : SideOk B := ⟨by omega, fun z hz => by have := hnB z hz; omega⟩
          have hgal := (hoA4.row.2).lt
          have hga3 : ga < w3.heap.size := hgaw
          clear HV hP4 hoA4 hbr4 hb5 hoB hFS4 hlb hnB
          by_cases h40 : how % 4 = 0
          · have t40 : ((how : Int) % 4) = 0 := by omega
            have hst2 : stepsT 2 = 21 := rfl
            have hmx2 : maxT 2 = 7 := rfl
            have HD2 := drawTypeO_any n hn ao cap mt hmt0 hmt1 2 (by omega) zq w5 (HCW.out w5 hbW) (by omega)
            clear hrBW hBok HLB
            go_wp2_with fail
            refine HD2.mono ?_
            rintro e w6 ⟨gb', cb', lb', zq', B', rfl, hlb, _, hlbm', hgb6, hoB, hnB, hzq', hb6, _⟩
            rw [hst2] at hzq'
            rw [hmx2] at hlbm'
            have HLB : Hid (B'.length = lb') := hlb
            have hPW := hPW.below hb6
            have hoAW := hoAW.below hb6
            have hbW := Below.step hbW hb6
            have hs6 := hb6.size
            have hrBW := hoB.row.2
            have hFSW : Hid (k = 0 ∨ ∃ M, M ≤ wr.heap.size ∧ Fst w6 w.heap.size M ps vs) := by
              rcases hFSW.out with h | ⟨M, h1, h2⟩
              · exact .inl h
              · exact .inr ⟨M, h1, h2.below hb6⟩
            have hBok : SideOk B' := ⟨by omega, fun z hz => by have := hnB z hz; omega⟩
            clear HD2 hb6 hoB hlb hnB
            obtain ⟨gb, rfl⟩ : ∃ x, x = gb' := ⟨_, rfl⟩
            obtain ⟨cb, rfl⟩ : ∃ x, x = cb' := ⟨_, rfl⟩
            obtain ⟨lb, rfl⟩ : ∃ x, x = lb' := ⟨_, rfl⟩
            obtain ⟨zq, rfl⟩ : ∃ x, x = zq' := ⟨_, rfl⟩
            obtain ⟨B, rfl⟩ : ∃ x, x = B' := ⟨_, rfl⟩
            have hrAW := hoAW.row.2
            have hgaW := hrAW.lt
            have hB7 : Below w6.heap.size w6 (w6.alloc (.cells #[.slice (some ⟨ga, 0, none⟩) nz ca, .slice (some ⟨gb, 0, none⟩) lb cb] 30)) := (Below.refl _ w6).alloc (Nat.le_refl _) _
            have hP7 := hPW.below hB7
            have hra7 := hrAW.below hB7
            have hrb7 := hrBW.below hB7
            have hoA7 := hoAW.below hB7
            have HFS7 : Hid (k = 0 ∨ ∃ M, M ≤ wr.heap.size ∧ Fst (w6.alloc (.cells #[.slice (some ⟨ga, 0, none⟩) nz ca, .slice (some ⟨gb, 0, none⟩) lb cb] 30)) w.heap.size M ps vs) := by
              rcases hFSW.out with h | ⟨M, h1, h2⟩
              · exact .inl h
              · exact .inr ⟨M, h1, h2.below hB7⟩
            have hown7 := hP7.own.2
            rw [HPL.out] at hown7
            have hgb := hPW.block
            have HP7 : Hid (LP (w6.alloc (.cells #[.slice (some ⟨ga, 0, none⟩) nz ca, .slice (some ⟨gb, 0, none⟩) lb cb] 30)) w.heap.size g c ps vs) := hP7
            clear hPW hrAW hrBW hoAW hFSW hP7 hB7
            go_wp2_with (at_builtin; refine wpList_append2 _ rfl (.tmp 111) (.tmp 115) 23 rfl w.heap.size 30 i1 _ 2 48 Tryz.underlying23 hj1 hy0 hy1 hy2 rfl (by decide) g k c _ rfl hown7 ⟨_, 0, none⟩ 1 1 [.slice (some ⟨ga, 0, none⟩) nz ca, .slice (some ⟨gb, 0, none⟩) lb cb] rfl rfl (pairP_cells _ _ _) (pair_one _ _ _ _ _ _) ?b3 ?b4 ?b5 ?_)
            case b3 => unfold maxLen; omega
            case b4 => omega
            case b5 => have := hbW.size; simp; omega
            intro g2 c2 w8 hown8 hgrow8 hwh8
            have hP8 := HP7.out.push (ca := ca) (cb := cb) hgrow8 hra7 hrb7 (by rw [HPL.out, HLA.out, HLB.out]; exact hown8)
            have hb8 : Below w.heap.size w w8 := (hbW.alloc hbW.size _).grown hgrow8 (hbW.alloc hbW.size _).size (fun j hj => by cases hj; exact hgb.1)
            have HPO8 : Hid (PairOk (ps ++ [(A, B)])) := HPO.out.snoc ⟨by rw [HLA.out]; omega, fun z hz => by have := hnA z hz; omega⟩ hBok
            have HPL8 : Hid ((ps ++ [(A, B)]).length = k + 1) := by rw [Hid, List.length_append, HPL.out]; rfl
            have hq8 : zq ≤ 2 + (k + 1) * 100 := by rw [Nat.add_mul]; omega
            have hs8 : w6.heap.size ≤ w8.heap.size := by have := hgrow8.size; simp at this; omega
            have HFS8 : Hid (k + 1 = 0 ∨ ∃ M, M ≤ w8.heap.size ∧ Fst w8 w.heap.size M (ps ++ [(A, B)]) (vs ++ [(.slice (some ⟨ga, 0, none⟩) A.length ca, .slice (some ⟨gb, 0, none⟩) B.length cb)])) := by
              right
              rcases HFS7.out with h | ⟨M, h1, h2⟩
              · have hp0 : ps = [] := List.length_eq_zero_iff.1 (HPL.out.trans h)
                have hv0 : vs = [] := List.length_eq_zero_iff.1 (by rw [HP7.out.own.1, hp0]; rfl)
                refine ⟨w6.heap.size, hs8, ?_⟩
                rw [hp0, hv0]
                refine Fst.start hgrow8 (fun q zs hr => HP7.out.ne hr) ?_ (by omega) hgaW
                rw [HLA.out]
                exact hoA7.base (by omega)
              · exact ⟨M, by omega, h2.push HP7.out.own.1 hgrow8 (fun q zs hr => HP7.out.ne hr) (by omega) (by omega)⟩
            clear hown8 hgrow8 hwh8 hown7 hra7 hrb7 HP7 hbW hoA7 HFS7
            go_wp2
            go_roundw
            case rel => exact ⟨k + 1, zq, g2, c2, _, _, by omega, by go_num, rfl, rfl, hP8, HPL8, HPO8, hq8, HFS8, hb8⟩
            case measure => simp [intOf]; omega
          · have t40 : ((((how : Int) % 4) == 0)) = false := by simp; omega
            have hrAW := hoAW.row.2
            have hgaW := hrAW.lt
            have hB7 : Below w5.heap.size w5 (w5.alloc (.cells #[.slice (some ⟨ga, 0, none⟩) nz ca, .slice (some ⟨gb, 0, none⟩) lb cb] 30)) := (Below.refl _ w5).alloc (Nat.le_refl _) _
            have hP7 := hPW.below hB7
            have hra7 := hrAW.below hB7
            have hrb7 := hrBW.below hB7
            have hoA7 := hoAW.below hB7
            have HFS7 : Hid (k = 0 ∨ ∃ M, M ≤ wr.heap.size ∧ Fst (w5.alloc (.cells #[.slice (some ⟨ga, 0, none⟩) nz ca, .slice (some ⟨gb, 0, none⟩) lb cb] 30)) w.heap.size M ps vs) := by
              rcases hFSW.out with h | ⟨M, h1, h2⟩
              · exact .inl h
              · exact .inr ⟨M, h1, h2.below hB7⟩
            have hown7 := hP7.own.2
            rw [HPL.out] at hown7
            have hgb := hPW.block
            have HP7 : Hid (LP (w5.alloc (.cells #[.slice (some ⟨ga, 0, none⟩) nz ca, .slice (some ⟨gb, 0, none⟩) lb cb] 30)) w.heap.size g c ps vs) := hP7
            clear hPW hrAW hrBW hoAW hFSW hP7 hB7
            go_wp2_with (at_builtin; refine wpList_append2 _ rfl (.tmp 111) (.tmp 115) 23 rfl w.heap.size 30 i1 _ 2 48 Tryz.underlying23 hj1 hy0 hy1 hy2 rfl (by decide) g k c _ rfl hown7 ⟨_, 0, none⟩ 1 1 [.slice (some ⟨ga, 0, none⟩) nz ca, .slice (some ⟨gb, 0, none⟩) lb cb] rfl rfl (pairP_cells _ _ _) (pair_one _ _ _ _ _ _) ?b3 ?b4 ?b5 ?_)
            case b3 => unfold maxLen; omega
            case b4 => omega
            case b5 => have := hbW.size; simp; omega
            intro g2 c2 w8 hown8 hgrow8 hwh8
            have hP8 := HP7.out.push (ca := ca) (cb := cb) hgrow8 hra7 hrb7 (by rw [HPL.out, HLA.out, HLB.out]; exact hown8)
            have hb8 : Below w.heap.size w w8 := (hbW.alloc hbW.size _).grown hgrow8 (hbW.alloc hbW.size _).size (fun j hj => by cases hj; exact hgb.1)
            have HPO8 : Hid (PairOk (ps ++ [(A, B)])) := HPO.out.snoc ⟨by rw [HLA.out]; omega, fun z hz => by have := hnA z hz; omega⟩ hBok
            have HPL8 : Hid ((ps ++ [(A, B)]).length = k + 1) := by rw [Hid, List.length_append, HPL.out]; rfl
            have hq8 : zq ≤ 2 + (k + 1) * 100 := by rw [Nat.add_mul]; omega
            have hs8 : w5.heap.size ≤ w8.heap.size := by have := hgrow8.size; simp at this; omega
            have HFS8 : Hid (k + 1 = 0 ∨ ∃ M, M ≤ w8.heap.size ∧ Fst w8 w.heap.size M (ps ++ [(A, B)]) (vs ++ [(.slice (some ⟨ga, 0, none⟩) A.length ca, .slice (some ⟨gb, 0, none⟩) B.length cb)])) := by
              right
              rcases HFS7.out with h | ⟨M, h1, h2⟩
              · have hp0 : ps = [] := List.length_eq_zero_iff.1 (HPL.out.trans h)
                have hv0 : vs = [] := List.length_eq_zero_iff.1 (by rw [HP7.out.own.1, hp0]; rfl)
                refine ⟨w5.heap.size, hs8, ?_⟩
                rw [hp0, hv0]
                refine Fst.start hgrow8 (fun q zs hr => HP7.out.ne hr) ?_ (by omega) hgaW
                rw [HLA.out]
                exact hoA7.base (by omega)
              · exact ⟨M, by omega, h2.push HP7.out.own.1 hgrow8 (fun q zs hr => HP7.out.ne hr) (by omega) (by omega)⟩
            clear hown8 hgrow8 hwh8 hown7 hra7 hrb7 HP7 hbW hoA7 HFS7
            go_wp2
            go_roundw
            case rel => exact ⟨k + 1, zq, g2, c2, _, _, by omega, by go_num, rfl, rfl, hP8, HPL8, HPO8, hq8, HFS8, hb8⟩
            case measure => simp [intOf]; omega
        · have tlt : decide ((k : Int) ≤ (k0 : Int)) = false := decide_eq_false (by omega)
          have hkN : k = k0 + 1 := by omega
          have hcc := hP.own.row
          rw [HPL.out] at hcc
          have hkc := hcc.2.1
          have hgb := hP.block
          by_cases h27 : how = 27
          · subst h27
            have hFS : ∃ M, M ≤ wr.heap.size ∧ Fst wr w.heap.size M ps vs := by
              rcases HFS.out with h | h
              · omega
              · exact h
            obtain ⟨M, _, gA, cA, gB, cB, a, b, hp0, hv0, hoA, hBA, hAM, hoth⟩ := hFS
            obtain ⟨hpl, hpe⟩ := List.getElem?_eq_some_iff.1 hp0
            obtain ⟨hvl, hve⟩ := List.getElem?_eq_some_iff.1 hv0
            obtain ⟨x0, x1⟩ := cells2_get vs 0 hvl
            rw [hve] at x0 x1
            have hc0 : wr.cell? ⟨g, 0, none⟩ = some (.slice (some ⟨gA, 0, none⟩) a.length cA) := by
              have := OwnT.at hcc.2.2 0 (by rw [cells2_length]; omega)
              rw [this]
              exact x0
            have hAg : gA ≠ g := hP.ne hoA.row.2
            have hfz : wr.frozen? ⟨g, 0, none⟩ = false := OwnT.frozen hcc.2.2 0
            obtain ⟨la, hla⟩ : ∃ la, a.length = la := ⟨_, rfl⟩
            have HLA : Hid (a.length = la) := hla
            have hsa : SideOk a ∧ SideOk b := by
              have := HPO.out (a, b) (by rw [← hpe]; exact List.getElem_mem hpl)
              exact this
            have hla9 : la ≤ 100 := by rw [← hla]; exact hsa.1.1
            obtain ⟨x, hx⟩ : ∃ x : Nd, (⟨11, 0, ⟨#[97]⟩, 0, 0⟩ : Nd) = x := ⟨_, rfl⟩
            have hAb := owns_block hoA.2
            have hBx : Below wr.heap.size wr (wr.alloc (.cells #[.int .i64 11, .int .i64 0, .string ⟨#[97]⟩, .int .i64 0, .int .i64 0] 40)) := (Below.refl _ wr).alloc (Nat.le_refl _) _
            have hnx := nd_new_cells wr ⟨11, 0, ⟨#[97]⟩, 0, 0⟩
            have hoAx := hoA.below hBx
            have hPx := hP.below hBx
            rw [hla] at hc0 hv0 hoAx
            have hFR : Hid (∀ W8, (wr.alloc (.cells #[.int .i64 11, .int .i64 0, .string ⟨#[97]⟩, .int .i64 0, .int .i64 0] 40)).grownBy W8 (some gA) → W8.cell? ⟨g, 0, none⟩ = some (.slice (some ⟨gA, 0, none⟩) la cA) ∧ W8.frozen? ⟨g, 0, none⟩ = false ∧ Below w.heap.size w W8 ∧ g < W8.heap.size) := by
              intro W8 hg8
              have h9 := OwnT.but (hPx.own.row).2.2 (But.grown (S := (· = gA)) (But.refl _ _) hg8 (fun _ => rfl)) (fun e => hAg e.symm)
              refine ⟨?_, OwnT.frozen h9 0, (hbr.alloc hbr.size _).grown hg8 (hbr.alloc hbr.size _).size (fun j hj => by cases hj; exact hAb.1), OwnT.lt h9⟩
              rw [OwnT.at h9 0 (by rw [cells2_length]; omega)]
              rw [hla] at x0
              exact x0
            obtain ⟨i0, hi, hz0, hz1, hz2⟩ := info_parts Tryz.infoN
            have hoAx2 := hoAx.2
            have HPX : Hid (LP (wr.alloc (.cells #[.int .i64 11, .int .i64 0, .string ⟨#[97]⟩, .int .i64 0, .int .i64 0] 40)) w.heap.size g c ps vs) := hPx
            have HOTH : Hid (∀ j, 1 ≤ j → ∀ g1 l1 c1 g2 l2 c2, vs[j]? = some (.slice (some ⟨g1, 0, none⟩) l1 c1, .slice (some ⟨g2, 0, none⟩) l2 c2) → g1 ≠ gA ∧ g2 ≠ gA) := by
              intro j hj g1 l1 c1 g2 l2 c2 e
              have := hoth j hj _ _ _ _ _ _ e
              omega
            have HV0 : Hid (vs[0]? = some (.slice (some ⟨gA, 0, none⟩) la cA, .slice (some ⟨gB, 0, none⟩) b.length cB)) := hv0
            have HPE : Hid (ps[0] = (a, b)) := hpe
            have hgA2 := hAb.2
            have HOL : Hid (a.length = la) := hla
            clear hP hcc HFS hoA hPx hoth hv0 hp0 hpe hve x0 x1 hBx hoAx hx hla hsa
            go_wp2_with (at_builtin; refine wpList_append2 _ rfl (.tmp 123) (.tmp 125) 27 rfl w.heap.size 40 i0 _ 5 48 Tryz.underlying27 hi hz0 hz1 hz2 rfl (by decide) gA la cA _ rfl hoAx2 ⟨_, 0, none⟩ 1 1 (⟨11, 0, ⟨#[97]⟩, 0, 0⟩ : Nd).row rfl rfl hnx (nd_row_one _) ?a3 ?a4 ?a5 ?_)
            case a3 => unfold maxLen; omega
            case a4 => omega
            case a5 => have := hbr.size; simp; omega
            intro g2 c2 w8 hown8 hgrow8 hwh8
            have hO8 := OwnN.push hown8 HOL.out rfl
            obtain ⟨q1, q2, hb8, hg8⟩ := hFR.out w8 hgrow8
            have hg2 : g2 ≠ g := by
              rcases hwh8 with h9 | h9
              · omega
              · omega
            have HFIN : Hid (∃ ps' : List (List Nd × List Nd), ps'.length = k ∧ Pairs (w8.setCell ⟨g, 0, none⟩ (.slice (some ⟨g2, 0, none⟩) (la + 1) c2)) (some ⟨g, 0, none⟩) ps' ∧ PairOk2 ps') := by
              have hbut : But (· = gA) (wr.alloc (.cells #[.int .i64 11, .int .i64 0, .string ⟨#[97]⟩, .int .i64 0, .int .i64 0] 40)) w8 := (But.refl (· = gA) _).grown hgrow8 (fun _ => rfl)
              have h9 := HPX.out.first hpl HV0.out hAg hBA HOTH.out hbut (c2 := c2) hO8.row.2 hg2
              have hal : (a ++ [(⟨11, 0, ⟨#[97]⟩, 0, 0⟩ : Nd)]).length = la + 1 := by rw [List.length_append, HOL.out]; rfl
              rw [hal] at h9
              refine ⟨_, by rw [List.length_set]; exact HPL.out, h9, ?_⟩
              intro p hp
              rcases List.mem_or_eq_of_mem_set hp with hp | hp
              · exact HPO.out.two p hp
              · subst hp
                have hab := HPO.out ps[0] (List.getElem_mem hpl)
                rw [HPE.out] at hab
                refine ⟨⟨?_, ?_⟩, by rw [HPE.out]; exact hab.2.two⟩
                · show (a ++ [(⟨11, 0, ⟨#[97]⟩, 0, 0⟩ : Nd)]).length ≤ 101
                  rw [hal]; omega
                · intro z hz
                  rcases List.mem_append.1 hz with hz | hz
                  · exact hab.1.2 z hz
                  · simp at hz; subst hz; simp
            have hbf : Below w.heap.size w (w8.setCell ⟨g, 0, none⟩ (.slice (some ⟨g2, 0, none⟩) (la + 1) c2)) := hb8.setCell (p := ⟨g, 0, none⟩) hgb.1 _
            have hk9 : k ≤ 10001 := by omega
            clear hown8 hgrow8 hwh8 hO8 hoAx2 HPX HPL HPO HOTH HV0 HPE hFR hc0 hfz
            subst hkN
            go_wp2
            go_ret
            obtain ⟨ps, h1, h2, h3⟩ := HFIN.out
            exact ⟨g, c, k0 + 1, ps, rfl, h1, hk9, hkc, h2, h3, hbf⟩
          · have t27 : ((how : Int) == 27) = false := by simp; omega
            have HPP : Hid (∃ ps : List (List Nd × List Nd), ps.length = k ∧ Pairs wr (some ⟨g, 0, none⟩) ps ∧ PairOk ps) := ⟨ps, HPL.out, hP.pairs, HPO.out⟩
            have hk9 : k ≤ 10001 := by omega
            clear hP hcc HFS HPL HPO
            go_wp2
            go_ret
            obtain ⟨ps, h1, h2, h3⟩ := HPP.out
            exact ⟨g, c, k, ps, rfl, h1, hk9, hkc, h2, h3.two, hbr⟩

end Go.Proofs.YthioecjcnajmgaaGreatDoor

import Derived.Test.YtahdmflbdmlfhaaGreatDoorWAD
import Derived.Test.YtahdmflbdmlfhaaGreatDoorWAK
import Derived.Test.YtahdmflbdmlfhaaGreatDoorWAC
import Derived.Test.YtahdmflbdmlfhaaGreatDoorWAL
import Derived.Deep.OwnRows
import Derived.Deep.RegionWith
import Derived.Test.YtahdmflbdmlfhaaGreatDoorWAG
import Derived.BigQuiet
import Derived.Deep.Cut
import Derived.Deep.CutRange
namespace Go.Proofs.YtahdmflbdmlfhaaGreatDoor

open Go.RowKit



/-- Cells two by two. -/
def cells2 (ps : List (Value × Value)) : List Value := ps.flatMap fun p => [p.1, p.2]

theorem cells2_length (ps : List (Value × Value)) : (cells2 ps).length = ps.length * 2 := by
  induction ps with
  | nil => rfl
  | cons m ms ih => simp only [cells2, List.flatMap_cons, List.length_append, List.length_cons, List.length_nil] at *; omega

theorem cells2_append (a b : List (Value × Value)) : cells2 (a ++ b) = cells2 a ++ cells2 b := by simp [cells2]

theorem cells2_get (ps : List (Value × Value)) (i : Nat) (h : i < ps.length) : (cells2 ps)[i * 2]? = some ps[i].1 ∧ (cells2 ps)[i * 2 + 1]? = some ps[i].2 := by
  induction ps generalizing i with
  | nil => simp at h
  | cons m ms ih =>
    cases i with
    | zero => simp [cells2]
    | succ i =>
      have e1 : (i + 1) * 2 = i * 2 + 1 + 1 := by omega
      have h9 := ih i (by simpa using h)
      rw [e1]
      simpa [cells2] using h9

theorem cells2_set (ps : List (Value × Value)) (j : Nat) (p : Value × Value) : ((cells2 ps).set (j * 2) p.1).set (j * 2 + 1) p.2 = cells2 (ps.set j p) := by
  induction ps generalizing j with
  | nil => simp [cells2]
  | cons m ms ih =>
    cases j with
    | zero => simp [cells2]
    | succ j =>
      have e1 : (j + 1) * 2 = j * 2 + 1 + 1 := by omega
      have h9 := ih j
      rw [e1]
      simp only [cells2, List.flatMap_cons, List.cons_append, List.nil_append, List.set_cons_succ] at h9 ⊢
      rw [h9]

/-- A slice of Binds. -/
def Binds (w : World) (ao : Option Addr) (bs : List (Int × List Nd)) : Prop :=
  ∀ i (h : i < bs.length), ∃ b o ai ci, ao = some ⟨b, o, none⟩ ∧ w.cell? ⟨b, o + i * 2, none⟩ = some (.int .i64 bs[i].1) ∧ w.cell? ⟨b, o + i * 2 + 1, none⟩ = some (.slice ai bs[i].2.length ci) ∧ Nodes w ai bs[i].2

theorem Binds.below {w w' : World} {ao : Option Addr} {bs : List (Int × List Nd)} (h : Binds w ao bs) (hb : Below w.heap.size w w') : Binds w' ao bs := by
  intro i hi
  obtain ⟨b, o, ai, ci, e, h0, hc, hn⟩ := h i hi
  exact ⟨b, o, ai, ci, e, (hb.cell (p := ⟨b, o + i * 2, none⟩) (lt_of_cell h0)).trans h0, (hb.cell (p := ⟨b, o + i * 2 + 1, none⟩) (lt_of_cell hc)).trans hc, hn.below hb⟩

/-- The types of Binds. -/
def tys (bs : List (Int × List Nd)) : List (List Nd) := bs.map Prod.snd

theorem tys_get (bs : List (Int × List Nd)) (k : Nat) (h : k < bs.length) : (tys bs)[k]'(by simpa [tys] using h) = bs[k].2 := by simp [tys]

theorem Tryz.infoB : (Tryz.prog.info? 91).map (fun i => (i.zero, i.size, i.bytes)) = some (some (.agg #[.int .i64 0, .slice none 0 0]), 2, 32) := by kernel_rfl

/-- The Binds that lead to the rows gs. -/
def leadP (gs : List Nat) (bs : List (Int × List Nd)) : List (Value × Value) := List.zipWith (fun h b => (.int .i64 b.1, .slice (some ⟨h, 0, none⟩) b.2.length b.2.length)) gs bs

/-- Block g is a row of Binds of the call's own. -/
def OwnB (w : World) (g : Nat) (ps : List (Value × Value)) : Prop := OwnT 91 w g (cells2 ps)

theorem OwnB.ne {w : World} {g h : Nat} {ps : List (Value × Value)} {ds : List Value} (a : OwnB w g ps) (b : Own w h ds) : h ≠ g := by
  rintro rfl
  obtain ⟨cur, _, hg, _⟩ := a
  obtain ⟨cur', _, hg', _⟩ := b
  rw [hg] at hg'
  simp at hg'

theorem OwnB.at {w : World} {g : Nat} {ps : List (Value × Value)} (h : OwnB w g ps) (i : Nat) (hi : i < ps.length) : w.cell? ⟨g, i * 2, none⟩ = some ps[i].1 ∧ w.cell? ⟨g, i * 2 + 1, none⟩ = some ps[i].2 := by
  have hl := cells2_length ps
  obtain ⟨h1, h2⟩ := cells2_get ps i hi
  exact ⟨(OwnT.at h _ (by omega)).trans h1, (OwnT.at h _ (by omega)).trans h2⟩

theorem OwnB.put {w : World} {g : Nat} {ps : List (Value × Value)} (h : OwnB w g ps) (j : Nat) (hj : j < ps.length) (a b : Value) : OwnB ((w.setCell ⟨g, j * 2, none⟩ a).setCell ⟨g, j * 2 + 1, none⟩ b) g (ps.set j (a, b)) := by
  have hl := cells2_length ps
  have h9 := OwnT.set (OwnT.set h (j * 2) a (by omega)) (j * 2 + 1) b (by simp; omega)
  rw [cells2_set ps j (a, b)] at h9
  exact h9

/-- All of it: the row g of Binds, the rows gs of nodes, no two of them one. -/
structure TwoB (w : World) (g : Nat) (gs : List Nat) (bs : List (Int × List Nd)) : Prop where
  lead : OwnB w g (leadP gs bs)
  rows : RowsAt w gs (tys bs)
  nodup : gs.Nodup

theorem TwoB.below {w w' : World} {g : Nat} {gs : List Nat} {bs : List (Int × List Nd)} (h : TwoB w g gs bs) (hb : Below w.heap.size w w') : TwoB w' g gs bs :=
  ⟨OwnT.below h.lead hb, h.rows.below hb, h.nodup⟩

theorem TwoB.get {w : World} {g : Nat} {gs : List Nat} {bs : List (Int × List Nd)} (h : TwoB w g gs bs) (i : Nat) (hi : i < bs.length) (hi' : i < gs.length) :
    w.cell? ⟨g, i * 2, none⟩ = some (.int .i64 bs[i].1) ∧ w.cell? ⟨g, i * 2 + 1, none⟩ = some (.slice (some ⟨gs[i], 0, none⟩) bs[i].2.length bs[i].2.length) ∧ Row w gs[i] bs[i].2 := by
  obtain ⟨h1, h2⟩ := h.lead.at i (by simp [leadP]; omega)
  have hr := h.rows.2 i hi' (by simpa [tys] using hi)
  rw [tys_get bs i hi] at hr
  refine ⟨?_, ?_, hr⟩
  · rw [h1]; simp [leadP]
  · rw [h2]; simp [leadP]

theorem TwoB.binds {w : World} {g : Nat} {gs : List Nat} {bs : List (Int × List Nd)} (h : TwoB w g gs bs) : Binds w (some ⟨g, 0, none⟩) bs := by
  intro i hi
  have hi' : i < gs.length := by have h9 := h.rows.1; simp [tys] at h9; omega
  obtain ⟨h0, hc, hr⟩ := h.get i hi hi'
  exact ⟨g, 0, _, _, rfl, by rw [Nat.zero_add]; exact h0, by rw [Nat.zero_add]; exact hc, hr.nodes⟩

theorem But.cell {S : Nat → Prop} {w w' : World} (h : But S w w') {b o : Nat} (hlt : b < w.heap.size) (hn : ¬ S b) : w'.cell? ⟨b, o, none⟩ = w.cell? ⟨b, o, none⟩ :=
  World.cell?_of_block (a := ⟨b, o, none⟩) (h.block b hlt hn)

theorem Nodes.but {S : Nat → Prop} {w w' : World} {ao : Option Addr} {xs : List Nd} (h : Nodes w ao xs) (hb : But S w w') (hd : ∀ b o, ao = some ⟨b, o, none⟩ → ¬ S b) : Nodes w' ao xs := by
  intro i hi
  obtain ⟨b, o, e, c0, c1, c2, c3, c4⟩ := h i hi
  have hlt : b < w.heap.size := lt_of_cell c0
  have hn := hd b o e
  exact ⟨b, o, e, (hb.cell hlt hn).trans c0, (hb.cell hlt hn).trans c1, (hb.cell hlt hn).trans c2, (hb.cell hlt hn).trans c3, (hb.cell hlt hn).trans c4⟩

theorem But.grown {S : Nat → Prop} {w a b : World} {g : Nat} (h : But S w a) (hg : a.grownBy b (some g)) (hs : g < w.heap.size → S g) : But S w b :=
  ⟨hg.os.trans h.os, hg.tape.trans h.tape, hg.output.trans h.output, Nat.le_trans h.size hg.size, fun i hi hn => (hg.block i (Nat.lt_of_lt_of_le hi h.size) (by
    intro e
    simp only [Option.some.injEq] at e
    subst e
    exact hn (hs hi))).trans (h.block i hi hn)⟩

theorem But.alloc {S : Nat → Prop} {w a : World} (h : But S w a) (o : Obj) : But S w (a.alloc o) := h.trans (But.ofBelow ((Below.refl _ _).alloc (Nat.le_refl _) _))

/-- What Put lays in the place of a node. -/
def putSub (bs : List (Int × List Nd)) (n : Nd) : List Nd := if n.kind = 61 then ((bs[placeIn (bs.map Prod.fst) n.num]?).map Prod.snd).getD [n] else [n]

def putAll (bs : List (Int × List Nd)) (t : List Nd) : List Nd := t.flatMap (putSub bs)

/-- What Put answers. -/
def putOf (bs : List (Int × List Nd)) (t : List Nd) : List Nd := if typeb t = true ∧ (∀ b ∈ bs, typeb b.2 = true) ∧ (putAll bs t).length ≤ 300 then putAll bs t else []

theorem putAll_take (bs : List (Int × List Nd)) (t : List Nd) (k : Nat) (h : k < t.length) : putAll bs (t.take (k + 1)) = putAll bs (t.take k) ++ putSub bs t[k] := by
  rw [List.take_succ_eq_append_getElem h]
  simp only [putAll, List.flatMap_append, List.flatMap_cons, List.flatMap_nil, List.append_nil]

theorem putAll_le (bs : List (Int × List Nd)) (t : List Nd) (k : Nat) : (putAll bs (t.take k)).length ≤ (putAll bs t).length := by
  have e : putAll bs t = putAll bs (t.take k) ++ putAll bs (t.drop k) := by
    conv => lhs; rw [← List.take_append_drop k t]
    simp only [putAll, List.flatMap_append]
  rw [e]
  simp

theorem typeb_pos {t : List Nd} (h : typeb t = true) : 0 < t.length := by
  simp only [typeb, Bool.and_eq_true, decide_eq_true_eq] at h
  by_cases h0 : t.length = 0
  · have := deepOf_nil h0
    omega
  · omega

theorem typeb_len {t : List Nd} (h : typeb t = true) : t.length ≤ 300 := by
  simp only [typeb, Bool.and_eq_true, decide_eq_true_eq] at h
  exact h.1.1



/-- The Binds that lead to rows with capacities. -/
def leadR (rs : List (Nat × Nat)) (bs : List (Int × List Nd)) : List (Value × Value) := List.zipWith (fun r b => (.int .i64 b.1, .slice (some ⟨r.1, 0, none⟩) b.2.length r.2)) rs bs

/-- A row of Binds, the rows of nodes to which they lead, no two of them one. -/
structure TwoR (w : World) (g : Nat) (rs : List (Nat × Nat)) (bs : List (Int × List Nd)) : Prop where
  len : rs.length = bs.length
  lead : OwnB w g (leadR rs bs)
  rows : ∀ i (h : i < rs.length) (h' : i < bs.length), Row w rs[i].1 bs[i].2
  nodup : (rs.map Prod.fst).Nodup

theorem TwoR.below {w w' : World} {g : Nat} {rs : List (Nat × Nat)} {bs : List (Int × List Nd)} (h : TwoR w g rs bs) (hb : Below w.heap.size w w') : TwoR w' g rs bs :=
  ⟨h.len, OwnT.below h.lead hb, fun i hi hi' => (h.rows i hi hi').below hb, h.nodup⟩

theorem TwoR.but {S : Nat → Prop} {w w' : World} {g : Nat} {rs : List (Nat × Nat)} {bs : List (Int × List Nd)} (h : TwoR w g rs bs) (hb : But S w w') (hg : ¬ S g) (hr : ∀ r ∈ rs, ¬ S r.1) : TwoR w' g rs bs :=
  ⟨h.len, OwnT.but h.lead hb hg, fun i hi hi' => hb.row (h.rows i hi hi') (hr _ (List.getElem_mem hi)), h.nodup⟩

theorem TwoR.lt {w : World} {g : Nat} {rs : List (Nat × Nat)} {bs : List (Int × List Nd)} (h : TwoR w g rs bs) : g < w.heap.size := OwnT.lt h.lead

theorem TwoR.mem_lt {w : World} {g : Nat} {rs : List (Nat × Nat)} {bs : List (Int × List Nd)} (h : TwoR w g rs bs) : ∀ r ∈ rs, r.1 < w.heap.size ∧ r.1 ≠ g := by
  intro r hr
  obtain ⟨i, hi, rfl⟩ := List.getElem_of_mem hr
  have hrow := h.rows i hi (by have := h.len; omega)
  exact ⟨hrow.lt, OwnB.ne h.lead hrow⟩

theorem leadR_get (rs : List (Nat × Nat)) (bs : List (Int × List Nd)) (i : Nat) (hr : i < rs.length) (hb : i < bs.length) : (leadR rs bs)[i]'(by simp [leadR]; omega) = (.int .i64 bs[i].1, .slice (some ⟨rs[i].1, 0, none⟩) bs[i].2.length rs[i].2) := by simp [leadR]

theorem leadR_length (rs : List (Nat × Nat)) (bs : List (Int × List Nd)) (h : rs.length = bs.length) : (leadR rs bs).length = bs.length := by simp [leadR, h]

theorem TwoR.get {w : World} {g : Nat} {rs : List (Nat × Nat)} {bs : List (Int × List Nd)} (h : TwoR w g rs bs) (i : Nat) (hi : i < bs.length) (hi' : i < rs.length) :
    w.cell? ⟨g, i * 2, none⟩ = some (.int .i64 bs[i].1) ∧ w.cell? ⟨g, i * 2 + 1, none⟩ = some (.slice (some ⟨rs[i].1, 0, none⟩) bs[i].2.length rs[i].2) ∧ Row w rs[i].1 bs[i].2 := by
  obtain ⟨h1, h2⟩ := h.lead.at i (by rw [leadR_length rs bs h.len]; exact hi)
  rw [leadR_get rs bs i hi' hi] at h1 h2
  exact ⟨h1, h2, h.rows i hi' hi⟩

theorem TwoR.binds {w : World} {g : Nat} {rs : List (Nat × Nat)} {bs : List (Int × List Nd)} (h : TwoR w g rs bs) : Binds w (some ⟨g, 0, none⟩) bs := by
  intro i hi
  obtain ⟨h0, hc, hr⟩ := h.get i hi (by have := h.len; omega)
  exact ⟨g, 0, _, _, rfl, by rw [Nat.zero_add]; exact h0, by rw [Nat.zero_add]; exact hc, hr.nodes⟩

/-- What stands there when Binds have been marked from k on. -/
def mB : Nat → List (Int × List Nd) → List (Int × List Nd)
  | _, [] => []
  | k, b :: bs => ((k : Int), marks (k + 1) b.2.length) :: mB (k + 1 + 5 * b.2.length) bs

/-- An answer: a slice of Binds that is empty, or rows of the call's own, from block B on. -/
def BAns (w : World) (B : Nat) (ao : Option Addr) (bs : List (Int × List Nd)) : Prop := bs = [] ∨ ∃ g rs, ao = some ⟨g, 0, none⟩ ∧ B ≤ g ∧ (∀ r ∈ rs, B ≤ r.1) ∧ TwoR w g rs bs

theorem BAns.binds {w : World} {B : Nat} {ao : Option Addr} {bs : List (Int × List Nd)} (h : BAns w B ao bs) : Binds w ao bs := by
  rcases h with rfl | ⟨g, rs, rfl, _, _, hr⟩
  · exact fun i hi => by simp at hi
  · exact hr.binds

theorem BAns.below {w w' : World} {B : Nat} {ao : Option Addr} {bs : List (Int × List Nd)} (h : BAns w B ao bs) (hb : Below w.heap.size w w') : BAns w' B ao bs := by
  rcases h with rfl | ⟨g, rs, rfl, h1, h2, hr⟩
  · exact Or.inl rfl
  · exact Or.inr ⟨g, rs, rfl, h1, h2, hr.below hb⟩

theorem BAns.but {S : Nat → Prop} {w w' : World} {B : Nat} {ao : Option Addr} {bs : List (Int × List Nd)} (h : BAns w B ao bs) (hb : But S w w') (hS : ∀ q, B ≤ q → ¬ S q) : BAns w' B ao bs := by
  rcases h with rfl | ⟨g, rs, rfl, h1, h2, hr⟩
  · exact Or.inl rfl
  · exact Or.inr ⟨g, rs, rfl, h1, h2, hr.but hb (hS g h1) (fun r hr => hS r.1 (h2 r hr))⟩

/-- A slice of Binds of the call's own, to be appended to. -/
def OwnBs (w : World) (B g c l : Nat) (ps : List (Value × Value)) : Prop := ps.length = l ∧ w.ownsRow B 91 2 (.slice (some ⟨g, 0, none⟩) l c) l (cells2 ps)

theorem OwnBs.row {w : World} {B g c l : Nat} {ps : List (Value × Value)} (h : OwnBs w B g c l ps) : B ≤ g ∧ OwnB w g ps := by
  obtain ⟨hl, ho⟩ := h
  rcases ho.2 with ⟨h', _⟩ | ⟨g2, cap2, cur, he, hb, hh, _, _, _, htake⟩
  · cases h'
  · simp only [Value.slice.injEq, Option.some.injEq, Addr.mk.injEq, and_true, true_and] at he
    obtain ⟨rfl, rfl⟩ := he
    exact ⟨hb, cur, cur.toList.drop (l * 2), hh, by rw [← htake, List.take_append_drop]⟩

theorem OwnBs.empty {w : World} {B : Nat} (hB : B ≤ w.heap.size) : OwnBs (w.alloc (.cells #[] 91)) B w.heap.size 0 0 [] :=
  ⟨rfl, rfl, Or.inr ⟨_, 0, #[], rfl, hB, heap_alloc_new _ _, Nat.le_refl _, by simp [maxLen], rfl, rfl⟩⟩

theorem OwnBs.alloc {w : World} {B g c l : Nat} {ps : List (Value × Value)} (h : OwnBs w B g c l ps) (o : Obj) : OwnBs (w.alloc o) B g c l ps := ⟨h.1, h.2.alloc o⟩

theorem OwnBs.but {S : Nat → Prop} {w w' : World} {B g c l : Nat} {ps : List (Value × Value)} (h : OwnBs w B g c l ps) (hb : But S w w') (hn : ¬ S g) : OwnBs w' B g c l ps := ⟨h.1, owns_but h.2 hb hn⟩

theorem OwnBs.below {w w' : World} {B g c l : Nat} {ps : List (Value × Value)} (h : OwnBs w B g c l ps) (hb : Below w.heap.size w w') : OwnBs w' B g c l ps := h.but (S := fun _ => False) (But.ofBelow hb) (fun h => h)

theorem OwnBs.kept {w w' : World} {B g c l k : Nat} {ps : List (Value × Value)} (h : OwnBs w B g c l ps) (hg : w.grownBy w' (some k)) (hne : g ≠ k) : OwnBs w' B g c l ps := ⟨h.1, owns_kept h.2 hg hne⟩

theorem OwnBs.push {w : World} {B g c l m : Nat} {ps : List (Value × Value)} {x : Value × Value} (h : w.ownsRow B 91 2 (.slice (some ⟨g, 0, none⟩) m c) m (cells2 ps ++ [x.1, x.2])) (hl : ps.length = l) (hm : m = l + 1) : OwnBs w B g c (l + 1) (ps ++ [x]) := by
  subst hm
  refine ⟨by simp [hl], ?_⟩
  rw [cells2_append]
  exact h

theorem bind_cells (w : World) (a : Int) (v : Value) : ∀ j u, [Value.int .i64 a, v][j]? = some u → (w.alloc (.cells #[.int .i64 a, v] 91)).cell? (Addr.add ⟨w.heap.size, 0, none⟩ j) = some u := by
  intro j u hj
  have ad : Addr.add ⟨w.heap.size, 0, none⟩ j = ⟨w.heap.size, j, none⟩ := by
    unfold Addr.add
    split
    · simp_all
    · simp
  rw [ad, cell_of_row _ w.heap.size j _ 91 (0, 0) (heap_alloc_new _ _), ← hj]
  simp

theorem bind_one (a : Int) (ao : Option Addr) (l c : Nat) : ∀ u ∈ [Value.int .i64 a, .slice ao l c], u.oneCell' = true := by
  intro u hu
  simp at hu
  rcases hu with rfl | rfl <;> rfl

theorem Row.kept {w w' : World} {g k : Nat} {ys : List Nd} (h : Row w g ys) (hg : w.grownBy w' (some k)) (hne : g ≠ k) : Row w' g ys := by
  have hlt := h.lt
  obtain ⟨cur, rest, hc, he⟩ := h
  exact ⟨cur, rest, (hg.block g hlt (by simpa using hne)).trans hc, he⟩

theorem TwoR.snoc {w w' : World} {g g' gp cp : Nat} {rs : List (Nat × Nat)} {bs : List (Int × List Nd)} {x : Int} {Y : List Nd} (h : TwoR w g rs bs) (ho : OwnB w' g' (leadR rs bs ++ [(.int .i64 x, .slice (some ⟨gp, 0, none⟩) Y.length cp)]))
    (hr : ∀ i (h : i < rs.length) (h' : i < bs.length), Row w' rs[i].1 bs[i].2) (hy : Row w' gp Y) (hne : ∀ r ∈ rs, r.1 ≠ gp) : TwoR w' g' (rs ++ [(gp, cp)]) (bs ++ [(x, Y)]) := by
  refine ⟨by simp [h.len], ?_, ?_, ?_⟩
  · have e : leadR (rs ++ [(gp, cp)]) (bs ++ [(x, Y)]) = leadR rs bs ++ [(.int .i64 x, .slice (some ⟨gp, 0, none⟩) Y.length cp)] := by
      unfold leadR
      rw [List.zipWith_append h.len]
      rfl
    rw [e]
    exact ho
  · intro i h1 h2
    by_cases hi : i < rs.length
    · have hi' : i < bs.length := by have := h.len; omega
      rw [List.getElem_append_left hi, List.getElem_append_left hi']
      exact hr i hi hi'
    · have hl := h.len
      have e : i = rs.length := by simp at h1; omega
      subst e
      rw [List.getElem_append_right (Nat.le_refl _), List.getElem_append_right (by omega)]
      simpa using hy
  · rw [List.map_append, List.nodup_append]
    refine ⟨h.nodup, by simp, ?_⟩
    intro a ha b hb
    simp at hb
    subst hb
    obtain ⟨r, hr1, rfl⟩ := List.mem_map.1 ha
    exact hne r hr1

theorem insM_mem' (out : List (Int × Int)) (x z : Int × Int) : z ∈ insM out x → z = x ∨ z ∈ out := by
  have hR : ∀ l : List (Int × Int), z ∈ insR x l → z = x ∨ z ∈ l := by
    intro l
    induction l with
    | nil => simp [insR]
    | cons y ys ih =>
      unfold insR
      split
      · intro h
        rcases List.mem_cons.1 h with h | h
        · exact Or.inr (by simp [h])
        · rcases ih h with h | h
          · exact Or.inl h
          · exact Or.inr (List.mem_cons_of_mem _ h)
      · intro h
        rcases List.mem_cons.1 h with h | h
        · exact Or.inl h
        · exact Or.inr h
  intro h
  rcases hR _ (List.mem_reverse.1 h) with h | h
  · exact Or.inl h
  · exact Or.inr (List.mem_reverse.1 h)

theorem sortedM_mem (ms : List (Int × Int)) (z : Int × Int) : z ∈ sortedM ms → z ∈ ms := by
  have : ∀ out, z ∈ ms.foldl insM out → z ∈ out ∨ z ∈ ms := by
    induction ms with
    | nil => intro out h; exact Or.inl h
    | cons m ms ih =>
      intro out h
      rw [List.foldl_cons] at h
      rcases ih _ h with h | h
      · rcases insM_mem' _ _ _ h with h | h
        · exact Or.inr (by simp [h])
        · exact Or.inl h
      · exact Or.inr (List.mem_cons_of_mem _ h)
  intro h
  rcases this [] h with h | h
  · simp at h
  · exact h

/-- Binds of the call's own, to be appended to, and the rows to which they lead. -/
structure Bst (w : World) (B q c l : Nat) (rs : List (Nat × Nat)) (bs : List (Int × List Nd)) : Prop where
  own : OwnBs w B q c l (leadR rs bs)
  two : TwoR w q rs bs
  far : ∀ r ∈ rs, B ≤ r.1

theorem Bst.len {w : World} {B q c l : Nat} {rs : List (Nat × Nat)} {bs : List (Int × List Nd)} (h : Bst w B q c l rs bs) : bs.length = l := by
  have := h.own.1
  rw [leadR_length _ _ h.two.len] at this
  exact this

theorem Bst.below {w w' : World} {B q c l : Nat} {rs : List (Nat × Nat)} {bs : List (Int × List Nd)} (h : Bst w B q c l rs bs) (hb : Below w.heap.size w w') : Bst w' B q c l rs bs :=
  ⟨h.own.below hb, h.two.below hb, h.far⟩

theorem Bst.block {w : World} {B q c l : Nat} {rs : List (Nat × Nat)} {bs : List (Int × List Nd)} (h : Bst w B q c l rs bs) : B ≤ q ∧ q < w.heap.size := owns_block h.own.2

/-- Types, as far as their nodes go. -/
def PB (bs : List (Int × List Nd)) : Prop := ∀ p ∈ bs, p.2.length ≤ 300 ∧ p.2.all Nd.plainb = true

/-- What l8Match leaves. -/
def MRes (B q : Nat) (w : World) (bs : List (Int × List Nd)) (G T : List Nd) (v : Value) (b : Bool) (w' : World) : Prop :=
  But (· = q) w w' ∧ (b = true → ∃ q' c' l' rs' bs', v = .slice (some ⟨q', 0, none⟩) l' c' ∧ Bst w' B q' c' l' rs' bs' ∧ MatchOk bs G T bs' ∧ PB bs' ∧ (q' = q ∨ w.heap.size ≤ q')) ∧ (b = false → MatchNo bs G T)

/-- A type of at most 300 nodes, and its run. -/
structure Side (t : List Nd) (m : Nat) (S ys : List Sp) : Prop where
  len : t.length = m
  m300 : m ≤ 300
  run : after t m = some (S, ys)
  plain : t.all Nd.plainb = true

theorem plain_place {n : Nd} (h : n.plainb = true) : n.place = 0 := by
  unfold Nd.plainb at h
  simp only [Bool.and_eq_true, beq_iff_eq] at h
  exact h.1

/-- One Bind more. -/
theorem Bst.snoc {w2 w3 : World} {B q c l q3 c3 g1 k1 lt : Nat} {rs : List (Nat × Nat)} {bs : List (Int × List Nd)} {nm : Int} {T : List Nd} (h : Bst w2 B q c l rs bs) (hrow : Row w2 g1 T) (hlt : T.length = lt) (hg1 : B ≤ g1) (hne : g1 ≠ q) (hfr : ∀ r ∈ rs, r.1 ≠ g1)
    (hown : w3.ownsRow B 91 2 (.slice (some ⟨q3, 0, none⟩) (l + 1) c3) (l + 1) (cells2 (leadR rs bs) ++ [.int .i64 nm, .slice (some ⟨g1, 0, none⟩) lt k1])) (hgrow : (w2.alloc (.cells #[.int .i64 nm, .slice (some ⟨g1, 0, none⟩) lt k1] 91)).grownBy w3 (some q)) :
    Bst w3 B q3 c3 (l + 1) (rs ++ [(g1, k1)]) (bs ++ [(nm, T)]) := by
  have hO := OwnBs.push (x := (.int .i64 nm, .slice (some ⟨g1, 0, none⟩) lt k1)) hown h.own.1 rfl
  have hal : Below w2.heap.size w2 (w2.alloc (.cells #[.int .i64 nm, .slice (some ⟨g1, 0, none⟩) lt k1] 91)) := (Below.refl _ w2).alloc (Nat.le_refl _) _
  refine ⟨?_, ?_, ?_⟩
  · have e : leadR (rs ++ [(g1, k1)]) (bs ++ [(nm, T)]) = leadR rs bs ++ [(.int .i64 nm, .slice (some ⟨g1, 0, none⟩) lt k1)] := by
      unfold leadR
      rw [List.zipWith_append h.two.len, ← hlt]
      rfl
    rw [e]
    exact hO
  · refine TwoR.snoc h.two (by rw [hlt]; exact hO.row.2) ?_ ((hrow.below hal).kept hgrow hne) hfr
    intro i h1 h2
    exact ((h.two.rows i h1 h2).below hal).kept hgrow (h.two.mem_lt _ (List.getElem_mem h1)).2
  · intro r hr
    rcases List.mem_append.1 hr with h9 | h9
    · exact h.far r h9
    · simp at h9
      subst h9
      exact hg1

theorem nodup_len {xs ys : List Int} (hd : xs.Nodup) (h : ∀ x ∈ xs, x ∈ ys) : xs.length ≤ ys.length := by
  induction xs generalizing ys with
  | nil => simp
  | cons x xs ih =>
    rw [List.nodup_cons] at hd
    have hx := h x (by simp)
    have h1 := ih (ys := ys.erase x) hd.2 (fun z hz => (List.mem_erase_of_ne (fun e => hd.1 (by rw [← e]; exact hz))).2 (h z (by simp [hz])))
    have h2 := List.length_erase_of_mem hx
    have h3 := List.length_pos_of_mem hx
    simp only [List.length_cons]
    omega

theorem metas_len (g : List Nd) : (metas g).length ≤ g.length := by
  unfold metas
  rw [List.length_map]
  exact List.length_filter_le _ _

theorem plain_leafy {t : List Nd} (h : t.all Nd.plainb = true) : Leafy t := by
  intro n hn h61
  have := List.all_eq_true.1 h n hn
  unfold Nd.plainb at this
  simp [h61] at this
  exact this.2.1.1

theorem MRes.back {B q : Nat} {w W w' : World} {bs : List (Int × List Nd)} {G T : List Nd} {v : Value} {b : Bool} (h : MRes B q W bs G T v b w') (hb : Below w.heap.size w W) : MRes B q w bs G T v b w' := by
  obtain ⟨h1, h2, h3⟩ := h
  refine ⟨(But.ofBelow hb).trans h1, ?_, h3⟩
  intro e
  obtain ⟨q', c', l', rs', bs', a1, a2, a3, a4, a5⟩ := h2 e
  exact ⟨q', c', l', rs', bs', a1, a2, a3, a4, by have := hb.size; omega⟩

theorem Ints.but {S : Nat → Prop} {w w' : World} {B g cap n : Nat} {xs : List Int} (h : Ints w B g cap n xs) (hb : But S w w') (hn : ¬ S g) : Ints w' B g cap n xs := ⟨h.1, owns_but h.2 hb hn⟩

theorem kidsIn_get (t : List Nd) (K : List Sp) (k : Nat) (h : k < K.length) : (kidsIn t K)[k]'(by simpa [kidsIn] using h) = span t K[k].fr K[k].rt := by simp [kidsIn]

theorem take_flat (A : List (List Nd)) (k : Nat) (h : k < A.length) : (A.take (k + 1)).flatten = (A.take k).flatten ++ A[k] := by
  rw [List.take_succ_eq_append_getElem h, flatten_snoc]

/-- A Bind, and where its row is: its number, block and capacity, its nodes. -/
abbrev It := Int × ((Nat × Nat) × List Nd)

def It.cells (p : It) : Value × Value := (.int .i64 p.1, .slice (some ⟨p.2.1.1, 0, none⟩) p.2.2.length p.2.1.2)

theorem OwnBs.put {w : World} {B g c l : Nat} {ps : List (Value × Value)} (h : OwnBs w B g c l ps) (j : Nat) (a b : Value) : OwnBs ((w.setCell ⟨g, j * 2, none⟩ a).setCell ⟨g, j * 2 + 1, none⟩ b) B g c l (ps.set j (a, b)) := by
  refine ⟨by simp [h.1], ?_⟩
  have h9 := owns_setOne (v := b) (owns_setOne (v := a) h.2 (i := j * 2)) (i := j * 2 + 1)
  rw [cells2_set ps j (a, b)] at h9
  exact h9

theorem type_side {t : List Nd} {m : Nat} (hm : t.length = m) (h : typeb t = true) : ∃ S ys s, Side t m S ys ∧ 0 < m ∧ ys[m - 1]? = some s ∧ s.fr = 0 ∧ span t s.fr (m - 1) = t ∧ sizesOf t = ys.map szOf := by
  unfold typeb at h
  simp only [Bool.and_eq_true, decide_eq_true_eq] at h
  obtain ⟨⟨h1, h2⟩, h3⟩ := h
  obtain ⟨h0, h6, S, ys, hA, hyl⟩ := deep_after hm h2
  obtain ⟨s, hs, hd, hr, _⟩ := deepOf_some hm h6 h0 hA
  have hf : s.fr = 0 := by
    by_cases hc : s.fr = 0 ∧ s.dp ≤ 300
    · exact hc.1
    · rw [if_neg hc] at hd; omega
  refine ⟨S, ys, s, ⟨hm, by omega, hA, h3⟩, h0, hs, hf, ?_, ?_⟩
  · unfold span
    rw [hf, List.drop_zero, List.take_of_length_le (by omega)]
  · unfold sizesOf
    rw [hm, hA]

end Go.Proofs.YtahdmflbdmlfhaaGreatDoor

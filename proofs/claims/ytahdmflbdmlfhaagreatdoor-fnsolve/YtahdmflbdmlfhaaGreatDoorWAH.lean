import Derived.Test.YtahdmflbdmlfhaaGreatDoorWAD
import Derived.Test.YtahdmflbdmlfhaaGreatDoorWAF
import Derived.Test.YtahdmflbdmlfhaaGreatDoorWAG
import Derived.BigQuiet
import Derived.Deep.Cut
import Derived.Deep.CutRange
import Derived.Test.YtahdmflbdmlfhaaGreatDoorWAA
import Derived.WalkKit
namespace Go.Proofs.YtahdmflbdmlfhaaGreatDoor

open Go.RowKit



theorem But.cell {S : Nat → Prop} {w w' : World} (h : But S w w') {b o : Nat} (hlt : b < w.heap.size) (hn : ¬ S b) : w'.cell? ⟨b, o, none⟩ = w.cell? ⟨b, o, none⟩ :=
  World.cell?_of_block (a := ⟨b, o, none⟩) (h.block b hlt hn)

theorem Nodes.but {S : Nat → Prop} {w w' : World} {ao : Option Addr} {xs : List Nd} (h : Nodes w ao xs) (hb : But S w w') (hd : ∀ b o, ao = some ⟨b, o, none⟩ → ¬ S b) : Nodes w' ao xs := by
  intro i hi
  obtain ⟨b, o, e, c0, c1, c2, c3, c4⟩ := h i hi
  have hlt : b < w.heap.size := lt_of_cell c0
  have hn := hd b o e
  exact ⟨b, o, e, (hb.cell hlt hn).trans c0, (hb.cell hlt hn).trans c1, (hb.cell hlt hn).trans c2, (hb.cell hlt hn).trans c3, (hb.cell hlt hn).trans c4⟩

theorem But.grown {S : Nat → Prop} {w a b : World} {g : Nat} (h : But S w a) (hg : a.grownBy b (some g)) (hs : g < w.heap.size → S g) : But S w b :=
  ⟨hg.os.trans h.os, hg.tape.trans h.tape, hg.output.trans h.output, Nat.le_trans h.size hg.size, fun i hi hn => (hg.block i (Nat.lt_of_lt_of_le hi h.size) (by
    intro e
    simp only [Option.some.injEq] at e
    subst e
    exact hn (hs hi))).trans (h.block i hi hn)⟩

theorem But.alloc {S : Nat → Prop} {w a : World} (h : But S w a) (o : Obj) : But S w (a.alloc o) := h.trans (But.ofBelow ((Below.refl _ _).alloc (Nat.le_refl _) _))

/-- What Put lays in the place of a node. -/
def putSub (bs : List (Int × List Nd)) (n : Nd) : List Nd := if n.kind = 61 then ((bs[placeIn (bs.map Prod.fst) n.num]?).map Prod.snd).getD [n] else [n]

def putAll (bs : List (Int × List Nd)) (t : List Nd) : List Nd := t.flatMap (putSub bs)

/-- What Put answers. -/
def putOf (bs : List (Int × List Nd)) (t : List Nd) : List Nd := if typeb t = true ∧ (∀ b ∈ bs, typeb b.2 = true) ∧ (putAll bs t).length ≤ 300 then putAll bs t else []

theorem putAll_take (bs : List (Int × List Nd)) (t : List Nd) (k : Nat) (h : k < t.length) : putAll bs (t.take (k + 1)) = putAll bs (t.take k) ++ putSub bs t[k] := by
  rw [List.take_succ_eq_append_getElem h]
  simp only [putAll, List.flatMap_append, List.flatMap_cons, List.flatMap_nil, List.append_nil]

theorem putAll_le (bs : List (Int × List Nd)) (t : List Nd) (k : Nat) : (putAll bs (t.take k)).length ≤ (putAll bs t).length := by
  have e : putAll bs t = putAll bs (t.take k) ++ putAll bs (t.drop k) := by
    conv => lhs; rw [← List.take_append_drop k t]
    simp only [putAll, List.flatMap_append]
  rw [e]
  simp

theorem typeb_pos {t : List Nd} (h : typeb t = true) : 0 < t.length := by
  simp only [typeb, Bool.and_eq_true, decide_eq_true_eq] at h
  by_cases h0 : t.length = 0
  · have := deepOf_nil h0
    omega
  · omega

theorem typeb_len {t : List Nd} (h : typeb t = true) : t.length ≤ 300 := by
  simp only [typeb, Bool.and_eq_true, decide_eq_true_eq] at h
  exact h.1.1



/-- The Binds that lead to rows with capacities. -/
def leadR (rs : List (Nat × Nat)) (bs : List (Int × List Nd)) : List (Value × Value) := List.zipWith (fun r b => (.int .i64 b.1, .slice (some ⟨r.1, 0, none⟩) b.2.length r.2)) rs bs

/-- A row of Binds, the rows of nodes to which they lead, no two of them one. -/
structure TwoR (w : World) (g : Nat) (rs : List (Nat × Nat)) (bs : List (Int × List Nd)) : Prop where
  len : rs.length = bs.length
  lead : OwnB w g (leadR rs bs)
  rows : ∀ i (h : i < rs.length) (h' : i < bs.length), Row w rs[i].1 bs[i].2
  nodup : (rs.map Prod.fst).Nodup

theorem TwoR.below {w w' : World} {g : Nat} {rs : List (Nat × Nat)} {bs : List (Int × List Nd)} (h : TwoR w g rs bs) (hb : Below w.heap.size w w') : TwoR w' g rs bs :=
  ⟨h.len, OwnT.below h.lead hb, fun i hi hi' => (h.rows i hi hi').below hb, h.nodup⟩

theorem TwoR.but {S : Nat → Prop} {w w' : World} {g : Nat} {rs : List (Nat × Nat)} {bs : List (Int × List Nd)} (h : TwoR w g rs bs) (hb : But S w w') (hg : ¬ S g) (hr : ∀ r ∈ rs, ¬ S r.1) : TwoR w' g rs bs :=
  ⟨h.len, OwnT.but h.lead hb hg, fun i hi hi' => hb.row (h.rows i hi hi') (hr _ (List.getElem_mem hi)), h.nodup⟩

theorem TwoR.lt {w : World} {g : Nat} {rs : List (Nat × Nat)} {bs : List (Int × List Nd)} (h : TwoR w g rs bs) : g < w.heap.size := OwnT.lt h.lead

theorem TwoR.mem_lt {w : World} {g : Nat} {rs : List (Nat × Nat)} {bs : List (Int × List Nd)} (h : TwoR w g rs bs) : ∀ r ∈ rs, r.1 < w.heap.size ∧ r.1 ≠ g := by
  intro r hr
  obtain ⟨i, hi, rfl⟩ := List.getElem_of_mem hr
  have hrow := h.rows i hi (by have := h.len; omega)
  exact ⟨hrow.lt, OwnB.ne h.lead hrow⟩

theorem leadR_get (rs : List (Nat × Nat)) (bs : List (Int × List Nd)) (i : Nat) (hr : i < rs.length) (hb : i < bs.length) : (leadR rs bs)[i]'(by simp [leadR]; omega) = (.int .i64 bs[i].1, .slice (some ⟨rs[i].1, 0, none⟩) bs[i].2.length rs[i].2) := by simp [leadR]

theorem leadR_length (rs : List (Nat × Nat)) (bs : List (Int × List Nd)) (h : rs.length = bs.length) : (leadR rs bs).length = bs.length := by simp [leadR, h]

theorem TwoR.get {w : World} {g : Nat} {rs : List (Nat × Nat)} {bs : List (Int × List Nd)} (h : TwoR w g rs bs) (i : Nat) (hi : i < bs.length) (hi' : i < rs.length) :
    w.cell? ⟨g, i * 2, none⟩ = some (.int .i64 bs[i].1) ∧ w.cell? ⟨g, i * 2 + 1, none⟩ = some (.slice (some ⟨rs[i].1, 0, none⟩) bs[i].2.length rs[i].2) ∧ Row w rs[i].1 bs[i].2 := by
  obtain ⟨h1, h2⟩ := h.lead.at i (by rw [leadR_length rs bs h.len]; exact hi)
  rw [leadR_get rs bs i hi' hi] at h1 h2
  exact ⟨h1, h2, h.rows i hi' hi⟩

theorem TwoR.binds {w : World} {g : Nat} {rs : List (Nat × Nat)} {bs : List (Int × List Nd)} (h : TwoR w g rs bs) : Binds w (some ⟨g, 0, none⟩) bs := by
  intro i hi
  obtain ⟨h0, hc, hr⟩ := h.get i hi (by have := h.len; omega)
  exact ⟨g, 0, _, _, rfl, by rw [Nat.zero_add]; exact h0, by rw [Nat.zero_add]; exact hc, hr.nodes⟩

/-- What stands there when Binds have been marked from k on. -/
def mB : Nat → List (Int × List Nd) → List (Int × List Nd)
  | _, [] => []
  | k, b :: bs => ((k : Int), marks (k + 1) b.2.length) :: mB (k + 1 + 5 * b.2.length) bs

/-- An answer: a slice of Binds that is empty, or rows of the call's own, from block B on. -/
def BAns (w : World) (B : Nat) (ao : Option Addr) (bs : List (Int × List Nd)) : Prop := bs = [] ∨ ∃ g rs, ao = some ⟨g, 0, none⟩ ∧ B ≤ g ∧ (∀ r ∈ rs, B ≤ r.1) ∧ TwoR w g rs bs

theorem BAns.binds {w : World} {B : Nat} {ao : Option Addr} {bs : List (Int × List Nd)} (h : BAns w B ao bs) : Binds w ao bs := by
  rcases h with rfl | ⟨g, rs, rfl, _, _, hr⟩
  · exact fun i hi => by simp at hi
  · exact hr.binds

theorem BAns.below {w w' : World} {B : Nat} {ao : Option Addr} {bs : List (Int × List Nd)} (h : BAns w B ao bs) (hb : Below w.heap.size w w') : BAns w' B ao bs := by
  rcases h with rfl | ⟨g, rs, rfl, h1, h2, hr⟩
  · exact Or.inl rfl
  · exact Or.inr ⟨g, rs, rfl, h1, h2, hr.below hb⟩

theorem BAns.but {S : Nat → Prop} {w w' : World} {B : Nat} {ao : Option Addr} {bs : List (Int × List Nd)} (h : BAns w B ao bs) (hb : But S w w') (hS : ∀ q, B ≤ q → ¬ S q) : BAns w' B ao bs := by
  rcases h with rfl | ⟨g, rs, rfl, h1, h2, hr⟩
  · exact Or.inl rfl
  · exact Or.inr ⟨g, rs, rfl, h1, h2, hr.but hb (hS g h1) (fun r hr => hS r.1 (h2 r hr))⟩

/-- A slice of Binds of the call's own, to be appended to. -/
def OwnBs (w : World) (B g c l : Nat) (ps : List (Value × Value)) : Prop := ps.length = l ∧ w.ownsRow B 91 2 (.slice (some ⟨g, 0, none⟩) l c) l (cells2 ps)

theorem OwnBs.row {w : World} {B g c l : Nat} {ps : List (Value × Value)} (h : OwnBs w B g c l ps) : B ≤ g ∧ OwnB w g ps := by
  obtain ⟨hl, ho⟩ := h
  rcases ho.2 with ⟨h', _⟩ | ⟨g2, cap2, cur, he, hb, hh, _, _, _, htake⟩
  · cases h'
  · simp only [Value.slice.injEq, Option.some.injEq, Addr.mk.injEq, and_true, true_and] at he
    obtain ⟨rfl, rfl⟩ := he
    exact ⟨hb, cur, cur.toList.drop (l * 2), hh, by rw [← htake, List.take_append_drop]⟩

theorem OwnBs.empty {w : World} {B : Nat} (hB : B ≤ w.heap.size) : OwnBs (w.alloc (.cells #[] 91)) B w.heap.size 0 0 [] :=
  ⟨rfl, rfl, Or.inr ⟨_, 0, #[], rfl, hB, heap_alloc_new _ _, Nat.le_refl _, by simp [maxLen], rfl, rfl⟩⟩

theorem OwnBs.alloc {w : World} {B g c l : Nat} {ps : List (Value × Value)} (h : OwnBs w B g c l ps) (o : Obj) : OwnBs (w.alloc o) B g c l ps := ⟨h.1, h.2.alloc o⟩

theorem OwnBs.but {S : Nat → Prop} {w w' : World} {B g c l : Nat} {ps : List (Value × Value)} (h : OwnBs w B g c l ps) (hb : But S w w') (hn : ¬ S g) : OwnBs w' B g c l ps := ⟨h.1, owns_but h.2 hb hn⟩

theorem OwnBs.below {w w' : World} {B g c l : Nat} {ps : List (Value × Value)} (h : OwnBs w B g c l ps) (hb : Below w.heap.size w w') : OwnBs w' B g c l ps := h.but (S := fun _ => False) (But.ofBelow hb) (fun h => h)

theorem OwnBs.kept {w w' : World} {B g c l k : Nat} {ps : List (Value × Value)} (h : OwnBs w B g c l ps) (hg : w.grownBy w' (some k)) (hne : g ≠ k) : OwnBs w' B g c l ps := ⟨h.1, owns_kept h.2 hg hne⟩

theorem OwnBs.push {w : World} {B g c l m : Nat} {ps : List (Value × Value)} {x : Value × Value} (h : w.ownsRow B 91 2 (.slice (some ⟨g, 0, none⟩) m c) m (cells2 ps ++ [x.1, x.2])) (hl : ps.length = l) (hm : m = l + 1) : OwnBs w B g c (l + 1) (ps ++ [x]) := by
  subst hm
  refine ⟨by simp [hl], ?_⟩
  rw [cells2_append]
  exact h

theorem bind_cells (w : World) (a : Int) (v : Value) : ∀ j u, [Value.int .i64 a, v][j]? = some u → (w.alloc (.cells #[.int .i64 a, v] 91)).cell? (Addr.add ⟨w.heap.size, 0, none⟩ j) = some u := by
  intro j u hj
  have ad : Addr.add ⟨w.heap.size, 0, none⟩ j = ⟨w.heap.size, j, none⟩ := by
    unfold Addr.add
    split
    · simp_all
    · simp
  rw [ad, cell_of_row _ w.heap.size j _ 91 (0, 0) (heap_alloc_new _ _), ← hj]
  simp

theorem bind_one (a : Int) (ao : Option Addr) (l c : Nat) : ∀ u ∈ [Value.int .i64 a, .slice ao l c], u.oneCell' = true := by
  intro u hu
  simp at hu
  rcases hu with rfl | rfl <;> rfl

theorem Row.kept {w w' : World} {g k : Nat} {ys : List Nd} (h : Row w g ys) (hg : w.grownBy w' (some k)) (hne : g ≠ k) : Row w' g ys := by
  have hlt := h.lt
  obtain ⟨cur, rest, hc, he⟩ := h
  exact ⟨cur, rest, (hg.block g hlt (by simpa using hne)).trans hc, he⟩

theorem TwoR.snoc {w w' : World} {g g' gp cp : Nat} {rs : List (Nat × Nat)} {bs : List (Int × List Nd)} {x : Int} {Y : List Nd} (h : TwoR w g rs bs) (ho : OwnB w' g' (leadR rs bs ++ [(.int .i64 x, .slice (some ⟨gp, 0, none⟩) Y.length cp)]))
    (hr : ∀ i (h : i < rs.length) (h' : i < bs.length), Row w' rs[i].1 bs[i].2) (hy : Row w' gp Y) (hne : ∀ r ∈ rs, r.1 ≠ gp) : TwoR w' g' (rs ++ [(gp, cp)]) (bs ++ [(x, Y)]) := by
  refine ⟨by simp [h.len], ?_, ?_, ?_⟩
  · have e : leadR (rs ++ [(gp, cp)]) (bs ++ [(x, Y)]) = leadR rs bs ++ [(.int .i64 x, .slice (some ⟨gp, 0, none⟩) Y.length cp)] := by
      unfold leadR
      rw [List.zipWith_append h.len]
      rfl
    rw [e]
    exact ho
  · intro i h1 h2
    by_cases hi : i < rs.length
    · have hi' : i < bs.length := by have := h.len; omega
      rw [List.getElem_append_left hi, List.getElem_append_left hi']
      exact hr i hi hi'
    · have hl := h.len
      have e : i = rs.length := by simp at h1; omega
      subst e
      rw [List.getElem_append_right (Nat.le_refl _), List.getElem_append_right (by omega)]
      simpa using hy
  · rw [List.map_append, List.nodup_append]
    refine ⟨h.nodup, by simp, ?_⟩
    intro a ha b hb
    simp at hb
    subst hb
    obtain ⟨r, hr1, rfl⟩ := List.mem_map.1 ha
    exact hne r hr1

theorem insM_mem' (out : List (Int × Int)) (x z : Int × Int) : z ∈ insM out x → z = x ∨ z ∈ out := by
  have hR : ∀ l : List (Int × Int), z ∈ insR x l → z = x ∨ z ∈ l := by
    intro l
    induction l with
    | nil => simp [insR]
    | cons y ys ih =>
      unfold insR
      split
      · intro h
        rcases List.mem_cons.1 h with h | h
        · exact Or.inr (by simp [h])
        · rcases ih h with h | h
          · exact Or.inl h
          · exact Or.inr (List.mem_cons_of_mem _ h)
      · intro h
        rcases List.mem_cons.1 h with h | h
        · exact Or.inl h
        · exact Or.inr h
  intro h
  rcases hR _ (List.mem_reverse.1 h) with h | h
  · exact Or.inl h
  · exact Or.inr (List.mem_reverse.1 h)

theorem sortedM_mem (ms : List (Int × Int)) (z : Int × Int) : z ∈ sortedM ms → z ∈ ms := by
  have : ∀ out, z ∈ ms.foldl insM out → z ∈ out ∨ z ∈ ms := by
    induction ms with
    | nil => intro out h; exact Or.inl h
    | cons m ms ih =>
      intro out h
      rw [List.foldl_cons] at h
      rcases ih _ h with h | h
      · rcases insM_mem' _ _ _ h with h | h
        · exact Or.inr (by simp [h])
        · exact Or.inl h
      · exact Or.inr (List.mem_cons_of_mem _ h)
  intro h
  rcases this [] h with h | h
  · simp at h
  · exact h

/-- Binds of the call's own, to be appended to, and the rows to which they lead. -/
structure Bst (w : World) (B q c l : Nat) (rs : List (Nat × Nat)) (bs : List (Int × List Nd)) : Prop where
  own : OwnBs w B q c l (leadR rs bs)
  two : TwoR w q rs bs
  far : ∀ r ∈ rs, B ≤ r.1

theorem Bst.len {w : World} {B q c l : Nat} {rs : List (Nat × Nat)} {bs : List (Int × List Nd)} (h : Bst w B q c l rs bs) : bs.length = l := by
  have := h.own.1
  rw [leadR_length _ _ h.two.len] at this
  exact this

theorem Bst.below {w w' : World} {B q c l : Nat} {rs : List (Nat × Nat)} {bs : List (Int × List Nd)} (h : Bst w B q c l rs bs) (hb : Below w.heap.size w w') : Bst w' B q c l rs bs :=
  ⟨h.own.below hb, h.two.below hb, h.far⟩

theorem Bst.block {w : World} {B q c l : Nat} {rs : List (Nat × Nat)} {bs : List (Int × List Nd)} (h : Bst w B q c l rs bs) : B ≤ q ∧ q < w.heap.size := owns_block h.own.2

/-- Types, as far as their nodes go. -/
def PB (bs : List (Int × List Nd)) : Prop := ∀ p ∈ bs, p.2.length ≤ 300 ∧ p.2.all Nd.plainb = true

/-- What l8Match leaves. -/
def MRes (B q : Nat) (w : World) (bs : List (Int × List Nd)) (G T : List Nd) (v : Value) (b : Bool) (w' : World) : Prop :=
  But (· = q) w w' ∧ (b = true → ∃ q' c' l' rs' bs', v = .slice (some ⟨q', 0, none⟩) l' c' ∧ Bst w' B q' c' l' rs' bs' ∧ MatchOk bs G T bs' ∧ PB bs' ∧ (q' = q ∨ w.heap.size ≤ q')) ∧ (b = false → MatchNo bs G T)

/-- A type of at most 300 nodes, and its run. -/
structure Side (t : List Nd) (m : Nat) (S ys : List Sp) : Prop where
  len : t.length = m
  m300 : m ≤ 300
  run : after t m = some (S, ys)
  plain : t.all Nd.plainb = true

theorem plain_place {n : Nd} (h : n.plainb = true) : n.place = 0 := by
  unfold Nd.plainb at h
  simp only [Bool.and_eq_true, beq_iff_eq] at h
  exact h.1

/-- One Bind more. -/
theorem Bst.snoc {w2 w3 : World} {B q c l q3 c3 g1 k1 lt : Nat} {rs : List (Nat × Nat)} {bs : List (Int × List Nd)} {nm : Int} {T : List Nd} (h : Bst w2 B q c l rs bs) (hrow : Row w2 g1 T) (hlt : T.length = lt) (hg1 : B ≤ g1) (hne : g1 ≠ q) (hfr : ∀ r ∈ rs, r.1 ≠ g1)
    (hown : w3.ownsRow B 91 2 (.slice (some ⟨q3, 0, none⟩) (l + 1) c3) (l + 1) (cells2 (leadR rs bs) ++ [.int .i64 nm, .slice (some ⟨g1, 0, none⟩) lt k1])) (hgrow : (w2.alloc (.cells #[.int .i64 nm, .slice (some ⟨g1, 0, none⟩) lt k1] 91)).grownBy w3 (some q)) :
    Bst w3 B q3 c3 (l + 1) (rs ++ [(g1, k1)]) (bs ++ [(nm, T)]) := by
  have hO := OwnBs.push (x := (.int .i64 nm, .slice (some ⟨g1, 0, none⟩) lt k1)) hown h.own.1 rfl
  have hal : Below w2.heap.size w2 (w2.alloc (.cells #[.int .i64 nm, .slice (some ⟨g1, 0, none⟩) lt k1] 91)) := (Below.refl _ w2).alloc (Nat.le_refl _) _
  refine ⟨?_, ?_, ?_⟩
  · have e : leadR (rs ++ [(g1, k1)]) (bs ++ [(nm, T)]) = leadR rs bs ++ [(.int .i64 nm, .slice (some ⟨g1, 0, none⟩) lt k1)] := by
      unfold leadR
      rw [List.zipWith_append h.two.len, ← hlt]
      rfl
    rw [e]
    exact hO
  · refine TwoR.snoc h.two (by rw [hlt]; exact hO.row.2) ?_ ((hrow.below hal).kept hgrow hne) hfr
    intro i h1 h2
    exact ((h.two.rows i h1 h2).below hal).kept hgrow (h.two.mem_lt _ (List.getElem_mem h1)).2
  · intro r hr
    rcases List.mem_append.1 hr with h9 | h9
    · exact h.far r h9
    · simp at h9
      subst h9
      exact hg1

theorem nodup_len {xs ys : List Int} (hd : xs.Nodup) (h : ∀ x ∈ xs, x ∈ ys) : xs.length ≤ ys.length := by
  induction xs generalizing ys with
  | nil => simp
  | cons x xs ih =>
    rw [List.nodup_cons] at hd
    have hx := h x (by simp)
    have h1 := ih (ys := ys.erase x) hd.2 (fun z hz => (List.mem_erase_of_ne (fun e => hd.1 (by rw [← e]; exact hz))).2 (h z (by simp [hz])))
    have h2 := List.length_erase_of_mem hx
    have h3 := List.length_pos_of_mem hx
    simp only [List.length_cons]
    omega

theorem metas_len (g : List Nd) : (metas g).length ≤ g.length := by
  unfold metas
  rw [List.length_map]
  exact List.length_filter_le _ _

theorem plain_leafy {t : List Nd} (h : t.all Nd.plainb = true) : Leafy t := by
  intro n hn h61
  have := List.all_eq_true.1 h n hn
  unfold Nd.plainb at this
  simp [h61] at this
  exact this.2.1.1

theorem MRes.back {B q : Nat} {w W w' : World} {bs : List (Int × List Nd)} {G T : List Nd} {v : Value} {b : Bool} (h : MRes B q W bs G T v b w') (hb : Below w.heap.size w W) : MRes B q w bs G T v b w' := by
  obtain ⟨h1, h2, h3⟩ := h
  refine ⟨(But.ofBelow hb).trans h1, ?_, h3⟩
  intro e
  obtain ⟨q', c', l', rs', bs', a1, a2, a3, a4, a5⟩ := h2 e
  exact ⟨q', c', l', rs', bs', a1, a2, a3, a4, by have := hb.size; omega⟩

theorem Ints.but {S : Nat → Prop} {w w' : World} {B g cap n : Nat} {xs : List Int} (h : Ints w B g cap n xs) (hb : But S w w') (hn : ¬ S g) : Ints w' B g cap n xs := ⟨h.1, owns_but h.2 hb hn⟩

theorem kidsIn_get (t : List Nd) (K : List Sp) (k : Nat) (h : k < K.length) : (kidsIn t K)[k]'(by simpa [kidsIn] using h) = span t K[k].fr K[k].rt := by simp [kidsIn]

theorem take_flat (A : List (List Nd)) (k : Nat) (h : k < A.length) : (A.take (k + 1)).flatten = (A.take k).flatten ++ A[k] := by
  rw [List.take_succ_eq_append_getElem h, flatten_snoc]

/-- What l8Vary answers: one term, of at most so many nodes. -/
def DrewV (w : World) (L p : Nat) (e : Ending) (w' : World) : Prop := ∃ (g c l p' : Nat) (zs : List Nd), e = .returned (.tuple #[.slice (some ⟨g, 0, none⟩) l c, .int .i64 (p' : Int)]) ∧ zs.length = l ∧ 0 < l ∧ l ≤ L ∧ w.heap.size ≤ g ∧ OwnN w' w.heap.size g c l zs ∧ NumD zs ∧ p' ≤ p + 2 * L ∧ Below w.heap.size w w' ∧ One zs

set_option maxRecDepth 100000 in
set_option maxHeartbeats 4000000 in
theorem vary_any (n : Nat) (hn : n ≤ 1048576) (ao : Option Addr) (cap : Nat) (metas : Nat) (hm0 : 1 ≤ metas) (hm1 : metas ≤ 16) (t : List Nd) (S ys : List Sp) (m : Nat) (HL : Hid (t.length = m)) (hm : m ≤ 100) (HR : Hid (after t m = some (S, ys))) (HN : Hid (NumD t)) :
    ∀ (i : Nat) (si : Sp) (p gb cb gz cz Bz : Nat) (w : World), i < m → Hid (ys[i]? = some si) → Code w ao n → Row w gb t → Ints w Bz gz cz m (ys.map szOf) → p + 2 * (span t si.fr i).length ≤ 1000 →
      Calls Tryz.prog 13 #[.slice ao n cap, .int .i64 (p : Int), .slice (some ⟨gb, 0, none⟩) m cb, .slice (some ⟨gz, 0, none⟩) m cz, .int .i64 (i : Int), .int .i64 (metas : Int)] w fun e w' => DrewV w (span t si.fr i).length p e w' := by
  intro i
  induction i using Nat.strongRecOn with
  | ind i ih =>
    intro si p gb cb gz cz Bz w hi HSI hc hG hgz hp
    have hit : i < t.length := by have := HL.out; omega
    obtain ⟨K, hK, hsp, hO⟩ := span_kids HR.out hi HSI.out hit
    obtain ⟨L, hL⟩ : ∃ L, (span t si.fr i).length = L := ⟨_, rfl⟩
    have hLk : L = (kidsIn t K).flatten.length + 1 := by rw [← hL, hsp]; simp
    rw [hL] at hp ⊢
    have HIH := ih
    have HK : Hid (KidsAt t ys i K) := hK
    have HYL : Hid (ys.length = m) := (after_fine HR.out).len
    obtain ⟨x, hx⟩ : ∃ x, t[i] = x := ⟨_, rfl⟩
    have hxi := hG.node i hit
    rw [hx] at hxi
    have HX : Hid (t[i] = x) := hx
    have hnx := HN.out x (by rw [← hx]; exact List.getElem_mem hit)
    have HKN : Hid (x.kids = (K.length : Int)) := by
      obtain ⟨_, h9⟩ := hK.num
      rw [hx] at h9
      exact h9
    obtain ⟨nk, hnk⟩ : ∃ nk, K.length = nk := ⟨_, rfl⟩
    have HNK : Hid (K.length = nk) := hnk
    have hnk1 : nk ≤ 100 := by have := hK.len; omega
    have HFL : Hid (L = (kidsIn t K).flatten.length + 1) := hLk
    have hL1 : 1 ≤ L := by omega
    clear ih hK hsp hO hnk hx hLk hL HSI
    obtain ⟨i1, hj1, hy0, hy1, hy2⟩ := info_parts Tryz.infoV
    go_enter Tryz.func13, Tryz.ntmps13
    go_wp2_with fail
    refine (takeB_any n hn ao cap w hc p 8 (by omega) (by omega) (by omega)).mono ?_
    rintro e w1 ⟨⟨a, ha, rfl⟩, hb1⟩
    go_wp2_with fail
    refine (takeB_any n hn ao cap w1 (hc.below hb1) (p + 1) 16 (by omega) (by omega) (by omega)).mono ?_
    rintro e w2 ⟨⟨b, hb, rfl⟩, hb2⟩
    have hbb := Below.step hb1 hb2
    clear hb1 hb2
    by_cases ha2 : a < 2
    · have ha2i : decide ((a : Int) < 2) = true := decide_eq_true (by omega)
      obtain ⟨v, hv, hv0, hv1⟩ : ∃ v : Int, (b : Int) % (metas : Int) = v ∧ 0 ≤ v ∧ v < 16 := by
        obtain ⟨q0, q1⟩ := rem_in (x := (b : Int)) (k := metas) (by omega) hm0
        exact ⟨_, rfl, q0, by omega⟩
      have hmz : ((metas : Int) == 0) = false := by simp; omega
      clear HIH hc hG hgz hxi
      go_wp2_with fail
      refine (leaf_any 61 _ w2).mono ?_
      rintro e w3 ⟨rfl, hr, hb3⟩
      have hg := hbb.size
      have hb4 := Below.step hbb hb3
      clear hbb hb3
      go_wp2
      go_ret2
      exact ⟨w2.heap.size, 1, 1, p + 1 + 1, _, by simp, rfl, by omega, hL1, hg, hr.base hg, NumD.one (by simp; omega) (by simp; omega), by omega, hb4, leafO _ rfl⟩
    · have ha2i : decide ((a : Int) < 2) = false := decide_eq_false (by omega)
      have hG2 := hG.below hbb
      have hgz2 := hgz.below hbb
      have hc2 := hc.below hbb
      go_wp2_with fail
      refine (roots_any t ys K m i nk HL (by omega) HK HNK hi HYL _ cb gz cz Bz w2 hG2.nodes hgz2).mono ?_
      rintro e w3 ⟨Ga, rfl, hia, hb3⟩
      have hb4 := Below.step hbb hb3
      have hK0 := Kds.empty (w := w3) (B := w.heap.size) hb4.size
      have hbc : Below w3.heap.size w3 (w3.alloc (.cells #[] 29)) := (Below.refl _ _).alloc (Nat.le_refl _) _
      have hia0 := hia.below hbc
      have hb5 := Below.step hb4 hbc
      have hgal := hia.block
      have hz2 := hbb.size
      clear hbb hb3 hG2 hgz2 hc2 hia hbc
      go_wp2
      go_loopw [1, 17, 18] (fun pv kv iv wr => ∃ (k q g c : Nat) (kss : List (List Nd)) (vs : List Value), k ≤ nk ∧ iv = .int .i64 (k : Int) ∧ pv = .int .i64 (q : Int) ∧ kv = .slice (some ⟨g, 0, none⟩) k c ∧ Kds wr w.heap.size g c k kss vs ∧ Hid (∀ ks ∈ kss, NumD ks ∧ One ks) ∧ Hid (kss.flatten.length ≤ ((kidsIn t K).take k).flatten.length) ∧ Hid (q ≤ p + 2 + 2 * ((kidsIn t K).take k).flatten.length) ∧ Below w.heap.size w wr ∧ Ints wr w2.heap.size Ga nk nk (rts K) ∧ Ga ≠ g) (fun _ _ iv _ => nk - (intOf iv).toNat)
      case atStart => exact ⟨0, p + 1 + 1, w3.heap.size, 0, [], [], Nat.zero_le _, rfl, by simp, rfl, hK0, fun ks hk => by simp at hk, by simp [Hid], by simp [Hid], hb5, hia0, by omega⟩
      case round =>
        clear hK0 hb5 hia0
        obtain ⟨k, q, g, c, kss, vs, hk, rfl, rfl, rfl, hKd, HKS, HFK, HQ, hbr, hir, hne⟩ := hrel
        have hgar := hir.block
        by_cases hlt : k < nk
        · have hkK : k < K.length := by have := HNK.out; omega
          have hmem := HK.out.mem k hkK
          have ca := hir.at k (by rw [hir.1]; exact hlt)
          have ea : (rts K)[k]'(by rw [hir.1]; exact hlt) = ((K[k]).rt : Int) := by simp [rts]
          rw [ea] at ca
          obtain ⟨s, hs⟩ : ∃ s, K[k] = s := ⟨_, rfl⟩
          rw [hs] at ca hmem
          have htf : ((kidsIn t K).take (k + 1)).flatten.length = ((kidsIn t K).take k).flatten.length + (span t s.fr s.rt).length := by
            rw [take_flat _ k (by simpa [kidsIn] using hkK), kidsIn_get t K k hkK, hs, List.length_append]
          have hall : ((kidsIn t K).take (k + 1)).flatten.length ≤ (kidsIn t K).flatten.length := by
            have e9 : (kidsIn t K).flatten = ((kidsIn t K).take (k + 1)).flatten ++ ((kidsIn t K).drop (k + 1)).flatten := by rw [← List.flatten_append, List.take_append_drop]
            rw [e9, List.length_append]
            omega
          have hfl := HFL.out
          have hq9 := HQ.out
          obtain ⟨F, hF⟩ : ∃ F, ((kidsIn t K).take k).flatten.length = F := ⟨_, rfl⟩
          obtain ⟨F1, hF1⟩ : ∃ F1, ((kidsIn t K).take (k + 1)).flatten.length = F1 := ⟨_, rfl⟩
          obtain ⟨L1, hL1'⟩ : ∃ L1, (span t s.fr s.rt).length = L1 := ⟨_, rfl⟩
          have HF : Hid (((kidsIn t K).take k).flatten.length = F) := hF
          have HF1 : Hid (((kidsIn t K).take (k + 1)).flatten.length = F1) := hF1
          rw [hF] at hq9 htf
          rw [hF1, hL1'] at htf
          rw [hF1] at hall
          have HD := HIH s.rt hmem.2.2 s q gb cb gz cz Bz wr (by omega) hmem.1 (hc.below hbr) (hG.below hbr) (hgz.below hbr) (by rw [hL1']; omega)
          rw [hL1'] at HD
          have hsrt := hmem.2.2
          clear HIH hmem hs hF hF1 hL1' ea
          go_wp2_with fail
          refine HD.mono ?_
          rintro e w7 ⟨gn, cn, ln, pn, ks, rfl, hln, _, hlm, hgn, hon, hnn, hpn, hb7, hon9⟩
          have hrn := hon.row.2
          clear hon
          have hK7 := hKd.below hb7
          have hbw7 := Below.step hbr hb7
          have hs7 := hb7.size
          have hKb := hK7.block
          have hir7 := hir.below hb7
          have HLN : Hid (ks.length = ln) := hln
          have hone := one_cellT 29 w7 (.slice (some ⟨gn, 0, none⟩) ln cn)
          have hB8 : Below w7.heap.size w7 (w7.alloc (.cells #[.slice (some ⟨gn, 0, none⟩) ln cn] 29)) := (Below.refl _ w7).alloc (Nat.le_refl _) _
          have hK8 := hK7.below hB8
          have hr8 := hrn.below hB8
          have hir8 := hir7.below hB8
          clear HD hKd hbr hb7 hln hir hir7 hB8
          go_wp2_with (at_builtin; refine wpList_append2 _ rfl (.tmp 66) (.tmp 68) 41 rfl w.heap.size 29 i1 _ 1 24 Tryz.underlying41 hj1 hy0 hy1 hy2 rfl (by decide) g k c _ rfl hK8.own ⟨_, 0, none⟩ 1 1 [.slice (some ⟨gn, 0, none⟩) ln cn] rfl rfl hone (slice_one _ _ _) ?b3 ?b4 ?b5 ?_)
          case b3 => unfold maxLen; omega
          case b4 => omega
          case b5 => have := hbw7.size; simp; omega
          intro g2 c2 w8 hown8 hgrow8 hwh8
          have hK9 := hK8.push (cn := cn) hgrow8 hr8 (by rw [HLN.out]; exact hown8)
          have hb8 : Below w.heap.size w w8 := (hbw7.alloc hbw7.size _).grown hgrow8 (hbw7.alloc hbw7.size _).size (fun j hj => by cases hj; exact hKb.1)
          have hir9 := hir8.kept hgrow8 hne
          have HK9 : Hid (∀ k ∈ kss ++ [ks], NumD k ∧ One k) := by
            intro k hk
            rcases List.mem_append.1 hk with hk | hk
            · exact HKS.out k hk
            · simp at hk
              subst hk
              exact ⟨hnn, hon9⟩
          have HFK9 : Hid ((kss ++ [ks]).flatten.length ≤ ((kidsIn t K).take (k + 1)).flatten.length) := by
            have h1 := HFK.out
            rw [HF.out] at h1
            have h2 := HLN.out
            rw [Hid, HF1.out, flatten_snoc, List.length_append]
            omega
          have HQ9 : Hid (pn ≤ p + 2 + 2 * ((kidsIn t K).take (k + 1)).flatten.length) := by
            rw [Hid, HF1.out]
            omega
          have hne9 : Ga ≠ g2 := by
            rcases hwh8 with h9 | h9
            · omega
            · omega
          clear hown8 hgrow8 hwh8 hK8 hr8 hone hrn hK7 hbw7 hnn hon9 hir8 HFK HQ HF HF1 HKS
          go_wp2
          go_roundw
          case rel => exact ⟨k + 1, pn, g2, c2, _, _, by omega, by go_num, rfl, rfl, hK9, HK9, HFK9, HQ9, hb8, hir9, hne9⟩
          case measure => simp [intOf]; omega
        · have hik : k = nk := by omega
          subst hik
          have hkl := hKd.len
          have hfl := HFK.out
          rw [List.take_of_length_le (by simp [kidsIn, HNK.out])] at hfl
          have hq9 := HQ.out
          rw [List.take_of_length_le (by simp [kidsIn, HNK.out])] at hq9
          have hFL := HFL.out
          have hL100 : L ≤ 500 := by omega
          obtain ⟨kd, nm, tx, kk, pl⟩ := x
          have HJ := specJoin_any ⟨kd, nm, tx, kk, pl⟩ kss k hkl (some ⟨g, 0, none⟩) c wr hKd.lists (by rw [total_flat9]; omega) (by omega)
          have HNKd : Hid (NumD (kss.flatten ++ [⟨kd, nm, tx, (k : Int), pl⟩])) := (NumD.flatten (fun ks hk => (HKS.out ks hk).1)).append (NumD.one hnx.1 hnx.2)
          have HON : Hid (One (kss.flatten ++ [⟨kd, nm, tx, (k : Int), pl⟩])) := One.join (fun ks hk => (HKS.out ks hk).2) (by simp [hkl])
          obtain ⟨c0, c1, c2, c3, c4⟩ := (hG.below hbr).node i hit
          have hgl : gb < wr.heap.size := lt_of_cell c0
          have hs6 := hbr.size
          have hxe : t[i] = ⟨kd, nm, tx, kk, pl⟩ := HX.out
          rw [hxe] at c0 c1 c2 c3 c4
          simp only at c0 c1 c2 c3 c4
          clear hKd HKS HIH hc hG hgz hxe HFK HQ hir
          go_wp2_with fail
          refine HJ.mono ?_
          rintro e w9 ⟨v, rfl, hH, hb9⟩
          obtain ⟨g9, c9, rfl, hg9, _⟩ := hH.row (by simp)
          have hO8 : OwnN w9 wr.heap.size g9 c9 (kss.flatten ++ [(⟨kd, nm, tx, (k : Int), pl⟩ : Nd)]).length (kss.flatten ++ [(⟨kd, nm, tx, (k : Int), pl⟩ : Nd)]) := ⟨rfl, hH⟩
          have hO9 := hO8.base hs6
          have hbf := Below.step hbr hb9
          clear HJ hH hbr hb9 c0 c1 c2 c3 c4
          go_wp2
          go_ret2
          refine ⟨g9, c9, _, q, _, rfl, by simp, by simp, ?_, by omega, by simpa using hO9, HNKd.out, by omega, hbf, HON.out⟩
          have hsum : (kss.map List.length).sum = kss.flatten.length := List.length_flatten.symm
          rw [hsum]
          omega

/-- Pairs in memory. -/
def Pairs (w : World) (ao : Option Addr) (ps : List (List Nd × List Nd)) : Prop := ∀ i (h : i < ps.length), ∃ b o a1 c1 a2 c2, ao = some ⟨b, o, none⟩ ∧ w.cell? ⟨b, o + i * 2, none⟩ = some (.slice a1 ps[i].1.length c1) ∧ w.cell? ⟨b, o + i * 2 + 1, none⟩ = some (.slice a2 ps[i].2.length c2) ∧ Nodes w a1 ps[i].1 ∧ Nodes w a2 ps[i].2

theorem Pairs.below {w w' : World} {ao : Option Addr} {ps : List (List Nd × List Nd)} (h : Pairs w ao ps) (hb : Below w.heap.size w w') : Pairs w' ao ps := by
  intro i hi
  obtain ⟨b, o, a1, c1, a2, c2, e, h1, h2, h3, h4⟩ := h i hi
  exact ⟨b, o, a1, c1, a2, c2, e, (hb.cell (lt_of_cell h1)).trans h1, (hb.cell (lt_of_cell h2)).trans h2, h3.below hb, h4.below hb⟩

def pairSum (ps : List (List Nd × List Nd)) (i : Nat) : Nat := ((ps.take i).map fun p => p.1.length + p.2.length).sum

theorem pairSum_succ {ps : List (List Nd × List Nd)} {i : Nat} (h : i < ps.length) : pairSum ps (i + 1) = pairSum ps i + ps[i].1.length + ps[i].2.length := by
  unfold pairSum
  rw [List.take_succ_eq_append_getElem h, List.map_append, List.sum_append]
  simp
  omega

theorem pairSum_le (ps : List (List Nd × List Nd)) (i : Nat) : pairSum ps i ≤ (ps.map fun p => p.1.length + p.2.length).sum := by
  unfold pairSum
  have h9 : ps.map (fun p => p.1.length + p.2.length) = (ps.take i).map (fun p => p.1.length + p.2.length) ++ (ps.drop i).map (fun p => p.1.length + p.2.length) := by rw [← List.map_append, List.take_append_drop]
  rw [h9, List.sum_append]
  omega

theorem rbox3 {w : World} {z : Nat} {a b c a' b' c' : Value} (h : w.heap[z]? = some (.cells #[a, b, c] 27 (0, 0))) : w.cell? ⟨z, 0, none⟩ = some a ∧ w.cell? ⟨z, 1, none⟩ = some b ∧ w.cell? ⟨z, 2, none⟩ = some c ∧ w.frozen? ⟨z, 0, none⟩ = false ∧ w.frozen? ⟨z, 1, none⟩ = false ∧ w.frozen? ⟨z, 2, none⟩ = false ∧ z < w.heap.size ∧ But (fun i => i = z) w (((w.setCell ⟨z, 0, none⟩ a').setCell ⟨z, 1, none⟩ b').setCell ⟨z, 2, none⟩ c') := by
  refine ⟨?_, ?_, ?_, frozen_of_row w z 0 _ 27 h, frozen_of_row w z 1 _ 27 h, frozen_of_row w z 2 _ 27 h, (Array.getElem?_eq_some_iff.1 h).1, (((But.refl (fun i => i = z) w).setCell (p := ⟨z, 0, none⟩) rfl _).setCell (p := ⟨z, 1, none⟩) rfl _).setCell (p := ⟨z, 2, none⟩) rfl _⟩ <;> (rw [cell_of_row _ _ _ _ _ _ h]; rfl)

end Go.Proofs.YtahdmflbdmlfhaaGreatDoor

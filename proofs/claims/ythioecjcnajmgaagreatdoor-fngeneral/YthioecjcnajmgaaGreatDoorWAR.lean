import Derived.Test.YthioecjcnajmgaaGreatDoorWAM
import Derived.Test.YthioecjcnajmgaaGreatDoorSUnk
import Derived.Test.YthioecjcnajmgaaGreatDoorWAQ
import Derived.Test.YthioecjcnajmgaaGreatDoorWAE
import Derived.Test.YthioecjcnajmgaaGreatDoorWAH
import Derived.BigQuiet
import Derived.Deep.Cut
import Derived.Deep.CutRange
import Derived.Test.YthioecjcnajmgaaGreatDoorWAA
namespace Go.Proofs.YthioecjcnajmgaaGreatDoor

open Go.RowKit

/-- A slice of Binds of the call's own, to be appended to. -/
def OwnBs (w : World) (B g c l : Nat) (ps : List (Value × Value)) : Prop := ps.length = l ∧ w.ownsRow B 37 2 (.slice (some ⟨g, 0, none⟩) l c) l (cells2 ps)

theorem OwnBs.row {w : World} {B g c l : Nat} {ps : List (Value × Value)} (h : OwnBs w B g c l ps) : B ≤ g ∧ OwnB w g ps := by
  obtain ⟨hl, ho⟩ := h
  rcases ho.2 with ⟨h', _⟩ | ⟨g2, cap2, cur, he, hb, hh, _, _, _, htake⟩
  · cases h'
  · simp only [Value.slice.injEq, Option.some.injEq, Addr.mk.injEq, and_true, true_and] at he
    obtain ⟨rfl, rfl⟩ := he
    exact ⟨hb, cur, cur.toList.drop (l * 2), hh, by rw [← htake, List.take_append_drop]⟩

theorem OwnBs.empty {w : World} {B : Nat} (hB : B ≤ w.heap.size) : OwnBs (w.alloc (.cells #[] 37)) B w.heap.size 0 0 [] :=
  ⟨rfl, rfl, Or.inr ⟨_, 0, #[], rfl, hB, heap_alloc_new _ _, Nat.le_refl _, by simp [maxLen], rfl, rfl⟩⟩

theorem OwnBs.alloc {w : World} {B g c l : Nat} {ps : List (Value × Value)} (h : OwnBs w B g c l ps) (o : Obj) : OwnBs (w.alloc o) B g c l ps := ⟨h.1, h.2.alloc o⟩

theorem OwnBs.but {S : Nat → Prop} {w w' : World} {B g c l : Nat} {ps : List (Value × Value)} (h : OwnBs w B g c l ps) (hb : But S w w') (hn : ¬ S g) : OwnBs w' B g c l ps := ⟨h.1, owns_but h.2 hb hn⟩

theorem OwnBs.below {w w' : World} {B g c l : Nat} {ps : List (Value × Value)} (h : OwnBs w B g c l ps) (hb : Below w.heap.size w w') : OwnBs w' B g c l ps := h.but (S := fun _ => False) (But.ofBelow hb) (fun h => h)

theorem OwnBs.kept {w w' : World} {B g c l k : Nat} {ps : List (Value × Value)} (h : OwnBs w B g c l ps) (hg : w.grownBy w' (some k)) (hne : g ≠ k) : OwnBs w' B g c l ps := ⟨h.1, owns_kept h.2 hg hne⟩

theorem OwnBs.push {w : World} {B g c l m : Nat} {ps : List (Value × Value)} {x : Value × Value} (h : w.ownsRow B 37 2 (.slice (some ⟨g, 0, none⟩) m c) m (cells2 ps ++ [x.1, x.2])) (hl : ps.length = l) (hm : m = l + 1) : OwnBs w B g c (l + 1) (ps ++ [x]) := by
  subst hm
  refine ⟨by simp [hl], ?_⟩
  rw [cells2_append]
  exact h

theorem bind_cells (w : World) (a : Int) (v : Value) : ∀ j u, [Value.int .i64 a, v][j]? = some u → (w.alloc (.cells #[.int .i64 a, v] 37)).cell? (Addr.add ⟨w.heap.size, 0, none⟩ j) = some u := by
  intro j u hj
  have ad : Addr.add ⟨w.heap.size, 0, none⟩ j = ⟨w.heap.size, j, none⟩ := by
    unfold Addr.add
    split
    · simp_all
    · simp
  rw [ad, cell_of_row _ w.heap.size j _ 37 (0, 0) (heap_alloc_new _ _), ← hj]
  simp

theorem bind_one (a : Int) (ao : Option Addr) (l c : Nat) : ∀ u ∈ [Value.int .i64 a, .slice ao l c], u.oneCell' = true := by
  intro u hu
  simp at hu
  rcases hu with rfl | rfl <;> rfl

theorem Row.kept {w w' : World} {g k : Nat} {ys : List Nd} (h : Row w g ys) (hg : w.grownBy w' (some k)) (hne : g ≠ k) : Row w' g ys := by
  have hlt := h.lt
  obtain ⟨cur, rest, hc, he⟩ := h
  exact ⟨cur, rest, (hg.block g hlt (by simpa using hne)).trans hc, he⟩

theorem TwoR.snoc {w w' : World} {g g' gp cp : Nat} {rs : List (Nat × Nat)} {bs : List (Int × List Nd)} {x : Int} {Y : List Nd} (h : TwoR w g rs bs) (ho : OwnB w' g' (leadR rs bs ++ [(.int .i64 x, .slice (some ⟨gp, 0, none⟩) Y.length cp)]))
    (hr : ∀ i (h : i < rs.length) (h' : i < bs.length), Row w' rs[i].1 bs[i].2) (hy : Row w' gp Y) (hne : ∀ r ∈ rs, r.1 ≠ gp) : TwoR w' g' (rs ++ [(gp, cp)]) (bs ++ [(x, Y)]) := by
  refine ⟨by simp [h.len], ?_, ?_, ?_⟩
  · have e : leadR (rs ++ [(gp, cp)]) (bs ++ [(x, Y)]) = leadR rs bs ++ [(.int .i64 x, .slice (some ⟨gp, 0, none⟩) Y.length cp)] := by
      unfold leadR
      rw [List.zipWith_append h.len]
      rfl
    rw [e]
    exact ho
  · intro i h1 h2
    by_cases hi : i < rs.length
    · have hi' : i < bs.length := by have := h.len; omega
      rw [List.getElem_append_left hi, List.getElem_append_left hi']
      exact hr i hi hi'
    · have hl := h.len
      have e : i = rs.length := by simp at h1; omega
      subst e
      rw [List.getElem_append_right (Nat.le_refl _), List.getElem_append_right (by omega)]
      simpa using hy
  · rw [List.map_append, List.nodup_append]
    refine ⟨h.nodup, by simp, ?_⟩
    intro a ha b hb
    simp at hb
    subst hb
    obtain ⟨r, hr1, rfl⟩ := List.mem_map.1 ha
    exact hne r hr1



/-- Binds of the call's own, to be appended to, and the rows to which they lead. -/
structure Bst (w : World) (B q c l : Nat) (rs : List (Nat × Nat)) (bs : List (Int × List Nd)) : Prop where
  own : OwnBs w B q c l (leadR rs bs)
  two : TwoR w q rs bs
  far : ∀ r ∈ rs, B ≤ r.1

theorem Bst.len {w : World} {B q c l : Nat} {rs : List (Nat × Nat)} {bs : List (Int × List Nd)} (h : Bst w B q c l rs bs) : bs.length = l := by
  have := h.own.1
  rw [leadR_length _ _ h.two.len] at this
  exact this

theorem Bst.below {w w' : World} {B q c l : Nat} {rs : List (Nat × Nat)} {bs : List (Int × List Nd)} (h : Bst w B q c l rs bs) (hb : Below w.heap.size w w') : Bst w' B q c l rs bs :=
  ⟨h.own.below hb, h.two.below hb, h.far⟩

theorem Bst.block {w : World} {B q c l : Nat} {rs : List (Nat × Nat)} {bs : List (Int × List Nd)} (h : Bst w B q c l rs bs) : B ≤ q ∧ q < w.heap.size := owns_block h.own.2

/-- Types, as far as their nodes go. -/
def PB (bs : List (Int × List Nd)) : Prop := ∀ p ∈ bs, p.2.length ≤ 300 ∧ p.2.all Nd.plainb = true

/-- What l8Match leaves. -/
def MRes (B q : Nat) (w : World) (bs : List (Int × List Nd)) (G T : List Nd) (v : Value) (b : Bool) (w' : World) : Prop :=
  But (· = q) w w' ∧ (b = true → ∃ q' c' l' rs' bs', v = .slice (some ⟨q', 0, none⟩) l' c' ∧ Bst w' B q' c' l' rs' bs' ∧ MatchOk bs G T bs' ∧ PB bs' ∧ (q' = q ∨ w.heap.size ≤ q')) ∧ (b = false → MatchNo bs G T)

/-- A type of at most 300 nodes, and its run. -/
structure Side (t : List Nd) (m : Nat) (S ys : List Sp) : Prop where
  len : t.length = m
  m300 : m ≤ 300
  run : after t m = some (S, ys)
  plain : t.all Nd.plainb = true

/-- One Bind more. -/
theorem Bst.snoc {w2 w3 : World} {B q c l q3 c3 g1 k1 lt : Nat} {rs : List (Nat × Nat)} {bs : List (Int × List Nd)} {nm : Int} {T : List Nd} (h : Bst w2 B q c l rs bs) (hrow : Row w2 g1 T) (hlt : T.length = lt) (hg1 : B ≤ g1) (hne : g1 ≠ q) (hfr : ∀ r ∈ rs, r.1 ≠ g1)
    (hown : w3.ownsRow B 37 2 (.slice (some ⟨q3, 0, none⟩) (l + 1) c3) (l + 1) (cells2 (leadR rs bs) ++ [.int .i64 nm, .slice (some ⟨g1, 0, none⟩) lt k1])) (hgrow : (w2.alloc (.cells #[.int .i64 nm, .slice (some ⟨g1, 0, none⟩) lt k1] 37)).grownBy w3 (some q)) :
    Bst w3 B q3 c3 (l + 1) (rs ++ [(g1, k1)]) (bs ++ [(nm, T)]) := by
  have hO := OwnBs.push (x := (.int .i64 nm, .slice (some ⟨g1, 0, none⟩) lt k1)) hown h.own.1 rfl
  have hal : Below w2.heap.size w2 (w2.alloc (.cells #[.int .i64 nm, .slice (some ⟨g1, 0, none⟩) lt k1] 37)) := (Below.refl _ w2).alloc (Nat.le_refl _) _
  refine ⟨?_, ?_, ?_⟩
  · have e : leadR (rs ++ [(g1, k1)]) (bs ++ [(nm, T)]) = leadR rs bs ++ [(.int .i64 nm, .slice (some ⟨g1, 0, none⟩) lt k1)] := by
      unfold leadR
      rw [List.zipWith_append h.two.len, ← hlt]
      rfl
    rw [e]
    exact hO
  · refine TwoR.snoc h.two (by rw [hlt]; exact hO.row.2) ?_ ((hrow.below hal).kept hgrow hne) hfr
    intro i h1 h2
    exact ((h.two.rows i h1 h2).below hal).kept hgrow (h.two.mem_lt _ (List.getElem_mem h1)).2
  · intro r hr
    rcases List.mem_append.1 hr with h9 | h9
    · exact h.far r h9
    · simp at h9
      subst h9
      exact hg1

theorem nodup_len {xs ys : List Int} (hd : xs.Nodup) (h : ∀ x ∈ xs, x ∈ ys) : xs.length ≤ ys.length := by
  induction xs generalizing ys with
  | nil => simp
  | cons x xs ih =>
    rw [List.nodup_cons] at hd
    have hx := h x (by simp)
    have h1 := ih (ys := ys.erase x) hd.2 (fun z hz => (List.mem_erase_of_ne (fun e => hd.1 (by rw [← e]; exact hz))).2 (h z (by simp [hz])))
    have h2 := List.length_erase_of_mem hx
    have h3 := List.length_pos_of_mem hx
    simp only [List.length_cons]
    omega

theorem metas_len (g : List Nd) : (metas g).length ≤ g.length := by
  unfold metas
  rw [List.length_map]
  exact List.length_filter_le _ _

theorem plain_leafy {t : List Nd} (h : t.all Nd.plainb = true) : Leafy t := by
  intro n hn h61
  have := List.all_eq_true.1 h n hn
  unfold Nd.plainb at this
  simp [h61] at this
  exact this.2.1.1

theorem MRes.back {B q : Nat} {w W w' : World} {bs : List (Int × List Nd)} {G T : List Nd} {v : Value} {b : Bool} (h : MRes B q W bs G T v b w') (hb : Below w.heap.size w W) : MRes B q w bs G T v b w' := by
  obtain ⟨h1, h2, h3⟩ := h
  refine ⟨(But.ofBelow hb).trans h1, ?_, h3⟩
  intro e
  obtain ⟨q', c', l', rs', bs', a1, a2, a3, a4, a5⟩ := h2 e
  exact ⟨q', c', l', rs', bs', a1, a2, a3, a4, by have := hb.size; omega⟩

theorem Ints.but {S : Nat → Prop} {w w' : World} {B g cap n : Nat} {xs : List Int} (h : Ints w B g cap n xs) (hb : But S w w') (hn : ¬ S g) : Ints w' B g cap n xs := ⟨h.1, owns_but h.2 hb hn⟩

theorem kidsIn_get (t : List Nd) (K : List Sp) (k : Nat) (h : k < K.length) : (kidsIn t K)[k]'(by simpa [kidsIn] using h) = span t K[k].fr K[k].rt := by simp [kidsIn]

theorem take_flat (A : List (List Nd)) (k : Nat) (h : k < A.length) : (A.take (k + 1)).flatten = (A.take k).flatten ++ A[k] := by
  rw [List.take_succ_eq_append_getElem h, flatten_snoc]

/-- A Bind, and where its row is: its number, block and capacity, its nodes. -/
abbrev It := Int × ((Nat × Nat) × List Nd)

def It.cells (p : It) : Value × Value := (.int .i64 p.1, .slice (some ⟨p.2.1.1, 0, none⟩) p.2.2.length p.2.1.2)

theorem OwnBs.put {w : World} {B g c l : Nat} {ps : List (Value × Value)} (h : OwnBs w B g c l ps) (j : Nat) (a b : Value) : OwnBs ((w.setCell ⟨g, j * 2, none⟩ a).setCell ⟨g, j * 2 + 1, none⟩ b) B g c l (ps.set j (a, b)) := by
  refine ⟨by simp [h.1], ?_⟩
  have h9 := owns_setOne (v := b) (owns_setOne (v := a) h.2 (i := j * 2)) (i := j * 2 + 1)
  rw [cells2_set ps j (a, b)] at h9
  exact h9

/-- What Instance answers. -/
def InstRes (g t : List Nd) (bs : List (Int × List Nd)) (b : Bool) : Prop :=
  (b = true → typeb g = true ∧ typeb t = true ∧ InstOk g t bs) ∧ (b = false → bs = [] ∧ (typeb g = false ∨ typeb t = false ∨ InstNo g t))

theorem type_side {t : List Nd} {m : Nat} (hm : t.length = m) (h : typeb t = true) : ∃ S ys s, Side t m S ys ∧ 0 < m ∧ ys[m - 1]? = some s ∧ s.fr = 0 ∧ span t s.fr (m - 1) = t ∧ sizesOf t = ys.map szOf := by
  unfold typeb at h
  simp only [Bool.and_eq_true, decide_eq_true_eq] at h
  obtain ⟨⟨h1, h2⟩, h3⟩ := h
  obtain ⟨h0, h6, S, ys, hA, hyl⟩ := deep_after hm h2
  obtain ⟨s, hs, hd, hr, _⟩ := deepOf_some hm h6 h0 hA
  have hf : s.fr = 0 := by
    by_cases hc : s.fr = 0 ∧ s.dp ≤ 300
    · exact hc.1
    · rw [if_neg hc] at hd; omega
  refine ⟨S, ys, s, ⟨hm, by omega, hA, h3⟩, h0, hs, hf, ?_, ?_⟩
  · unfold span
    rw [hf, List.drop_zero, List.take_of_length_le (by omega)]
  · unfold sizesOf
    rw [hm, hA]

end Go.Proofs.YthioecjcnajmgaaGreatDoor

namespace Go.Proofs.YthioecjcnajmgaaGreatDoor

/-- What is asked of things with smaller numbers can be answered for all. -/
theorem wf_val {α : Type} (d : α) (r : Nat → Nat) (G : Nat → (Nat → α) → α) (hG : ∀ i v v', (∀ j, r j < r i → v j = v' j) → G i v = G i v') : ∃ v : Nat → α, ∀ i, v i = G i v := by
  let val : Nat → Nat → α := fun f => Nat.rec (motive := fun _ => Nat → α) (fun _ => d) (fun _ p i => G i p) f
  have hs : ∀ f i, val (f + 1) i = G i (val f) := fun f i => rfl
  have key : ∀ n i, r i = n → ∀ f, r i < f → val f i = val (r i + 1) i := by
    intro n
    induction n using Nat.strongRecOn with
    | ind n ih =>
      intro i hi f hf
      cases f with
      | zero => omega
      | succ f =>
        rw [hs, hs]
        apply hG
        intro j hj
        rw [ih (r j) (by omega) j rfl f (by omega), ih (r j) (by omega) j rfl (r i) (by omega)]
  refine ⟨fun i => val (r i + 1) i, fun i => ?_⟩
  show val (r i + 1) i = _
  rw [hs]
  apply hG
  intro j hj
  exact key (r j) j rfl (r i) hj

/-- A type in a store, without links. -/
structure SK where
  kind : Int
  num : Int
  text : ByteArray
  kids : List Nat

def SK.none : SK := ⟨0, 0, ByteArray.empty, []⟩

def sk (st : List SK) (i : Nat) : SK := st[i]?.getD SK.none

def SK.node (x : SK) : Nd := ⟨x.kind, x.num, x.text, (x.kids.length : Int), 0⟩

/-- Kids stand ahead; unknowns have none. -/
structure Sts (st : List SK) : Prop where
  kids : ∀ i, ∀ k ∈ (sk st i).kids, k < i
  leaf : ∀ i, (sk st i).kind = 61 → (sk st i).kids = []
  one : ∀ i j, i < st.length → j < st.length → (sk st i).kind = 61 → (sk st j).kind = 61 → (sk st i).num = (sk st j).num → i = j
  plain : ∀ i, i < st.length → (sk st i).node.plainb = true
  few : ∀ i, (sk st i).kids.length ≤ 6000

/-- The tree of a node, unknowns filled. -/
def IsT (θ : Int → List Nd) (st : List SK) (v : Nat → List Nd) : Prop := ∀ i, v i = if (sk st i).kind = 61 then θ (sk st i).num else (sk st i).kids.flatMap v ++ [(sk st i).node]

theorem flatMap_congr {α β : Type} {l : List α} {f g : α → List β} (h : ∀ x ∈ l, f x = g x) : l.flatMap f = l.flatMap g := by
  induction l with
  | nil => rfl
  | cons a l ih => simp only [List.flatMap_cons]; rw [h a (by simp), ih (fun x hx => h x (by simp [hx]))]

theorem exists_T (θ : Int → List Nd) {st : List SK} (hk : ∀ i, ∀ k ∈ (sk st i).kids, k < i) : ∃ v, IsT θ st v := by
  refine wf_val [] id _ ?_
  intro i v v' h
  by_cases h61 : (sk st i).kind = 61
  · rw [if_pos h61, if_pos h61]
  · rw [if_neg h61, if_neg h61]
    rw [flatMap_congr (fun k hk2 => h k (hk i k hk2))]

def T (ep : ((Nat → List Nd) → Prop) → Nat → List Nd) (th : Int → List Nd) (st : List SK) : Nat → List Nd := ep (IsT th st)

theorem T_is (θ : Int → List Nd) {st : List SK} (hs : Sts st) : IsT θ st (T Classical.epsilon θ st) := by
  have h := exists_T θ hs.kids
  unfold T
  exact Classical.epsilon_spec h

theorem T_meta (θ : Int → List Nd) {st : List SK} (hs : Sts st) {i : Nat} (h : (sk st i).kind = 61) : T Classical.epsilon θ st i = θ (sk st i).num := by
  rw [T_is θ hs i, if_pos h]

theorem T_node (θ : Int → List Nd) {st : List SK} (hs : Sts st) {i : Nat} (h : (sk st i).kind ≠ 61) : T Classical.epsilon θ st i = (sk st i).kids.flatMap (T Classical.epsilon θ st) ++ [(sk st i).node] := by
  have := T_is θ hs i
  rw [if_neg h] at this
  exact this

theorem T_one {θ : Int → List Nd} (hθ : ∀ x, One (θ x)) {st : List SK} (hs : Sts st) : ∀ i, One (T Classical.epsilon θ st i) := by
  intro i
  induction i using Nat.strongRecOn with
  | ind i ih =>
    by_cases h : (sk st i).kind = 61
    · rw [T_meta θ hs h]; exact hθ _
    · rw [T_node θ hs h, List.flatMap_def]
      refine One.join ?_ ?_
      · intro x hx
        obtain ⟨k, hk, rfl⟩ := List.mem_map.1 hx
        exact ih k (hs.kids i k hk)
      · simp [SK.node]

/-- A filling for which links say what is so. -/
def Sat (θ : Int → List Nd) (st : List SK) (lk : Nat → Option Nat) : Prop := ∀ i j, lk i = some j → T Classical.epsilon θ st i = T Classical.epsilon θ st j

/-- Where the links from a node end. -/
def RtF (lk : Nat → Option Nat) (R : Nat × Nat → Prop) (x : Nat × Nat) : Prop :=
  (∃ (i : Nat), x = (i, i) ∧ (lk i = none)) ∨
  (∃ (i j r : Nat), x = (i, r) ∧ (lk i = some j) ∧ (R (j, r)))

structure Rt (lk : Nat → Option Nat) (i : Nat) (r : Nat) : Prop where
  of ::
  lfp : Lfp (RtF lk) (i, r)

theorem Rt.grows (lk : Nat → Option Nat) : Grows (RtF lk) := by
  rintro R R' x h0 (⟨i, e0, h⟩ | ⟨i, j, r, e0, h, k⟩)
  · exact .inl ⟨i, e0, h⟩
  · exact .inr (⟨i, j, r, e0, h, h0 _ k⟩)

theorem Rt.root {lk : Nat → Option Nat} {i : Nat} (h : lk i = none) : Rt lk i i :=
  ⟨Lfp.fold (Rt.grows lk) (.inl ⟨i, rfl, h⟩)⟩

theorem Rt.step {lk : Nat → Option Nat} {i j r : Nat} (h : lk i = some j) (k : Rt lk j r) : Rt lk i r :=
  ⟨Lfp.fold (Rt.grows lk) (.inr (⟨i, j, r, rfl, h, k.lfp⟩))⟩

theorem Rt.elim {lk : Nat → Option Nat} {motive : ∀ i r, Rt lk i r → Prop}
    (root : ∀ {i : Nat} (h : lk i = none), motive i i (Rt.root (i := i) h))
    (step : ∀ {i j r : Nat} (h : lk i = some j) (k : Rt lk j r), motive j r (k) → motive i r (Rt.step (i := i) (j := j) (r := r) h k))
    {i : Nat} {r : Nat} (h : Rt lk i r) : motive i r h := by
  have key : ∀ h, motive (i, r).1 (i, r).2 h := Lfp.ind (Rt.grows lk) (p := fun x => ∀ h, motive x.1 x.2 h) (by
    rintro x (⟨i, e0, h⟩ | ⟨i, j, r, e0, h, k⟩) h9
    · subst e0; exact root (i := i) h
    · subst e0; exact step (i := i) (j := j) (r := r) h ⟨k.1⟩ (k.2 _)) h.lfp
  exact key h

theorem Rt.inv {lk : Nat → Option Nat} {motive : ∀ i r, Rt lk i r → Prop}
    (root : ∀ {i : Nat} (h : lk i = none), motive i i (Rt.root (i := i) h))
    (step : ∀ {i j r : Nat} (h : lk i = some j) (k : Rt lk j r), motive i r (Rt.step (i := i) (j := j) (r := r) h k))
    {i : Nat} {r : Nat} (h : Rt lk i r) : motive i r h := by
  induction h using Rt.elim with
  | root h => exact root h
  | step h k _ => exact step h k

theorem Rt.is_root {lk : Nat → Option Nat} {i r : Nat} (h : Rt lk i r) : lk r = none := by
  induction h using Rt.elim with
  | root h => exact h
  | step _ _ ih => exact ih

theorem Rt.fun {lk : Nat → Option Nat} {i r r' : Nat} (h : Rt lk i r) (h' : Rt lk i r') : r = r' := by
  induction h using Rt.elim with
  | root h =>
    cases h' using Rt.inv with
    | root _ => rfl
    | step h2 _ => rw [h] at h2; cases h2
  | step h1 _ ih =>
    cases h' using Rt.inv with
    | root h2 => rw [h2] at h1; cases h1
    | step h2 h3 =>
      rw [h1] at h2
      cases h2
      exact ih h3

theorem Rt.sat {θ : Int → List Nd} {st : List SK} {lk : Nat → Option Nat} {i r : Nat} (h : Rt lk i r) (hs : Sat θ st lk) : T Classical.epsilon θ st i = T Classical.epsilon θ st r := by
  induction h using Rt.elim with
  | root _ => rfl
  | step h1 _ ih => rw [hs _ _ h1, ih]

/-- Links and kids go down. -/
structure Ranked (st : List SK) (lk : Nat → Option Nat) (r : Nat → Nat) : Prop where
  link : ∀ i j, lk i = some j → r j < r i
  kid : ∀ i, lk i = none → ∀ k ∈ (sk st i).kids, r k < r i

theorem Ranked.rt {st : List SK} {lk : Nat → Option Nat} {r : Nat → Nat} (h : Ranked st lk r) : ∀ i, ∃ q, Rt lk i q := by
  intro i
  induction hn : r i using Nat.strongRecOn generalizing i with
  | ind n ih =>
    cases hl : lk i with
    | none => exact ⟨i, .root hl⟩
    | some j =>
      obtain ⟨q, hq⟩ := ih (r j) (by have := h.link i j hl; omega) j rfl
      exact ⟨q, .step hl hq⟩

/-- The type that a store says of a node. -/
def IsD (st : List SK) (lk : Nat → Option Nat) (D : Nat → List Nd) : Prop := ∀ i, D i = match lk i with
  | some j => D j
  | none => (sk st i).kids.flatMap D ++ [(sk st i).node]

theorem IsD.link {st : List SK} {lk : Nat → Option Nat} {D : Nat → List Nd} (h : IsD st lk D) {i j : Nat} (hl : lk i = some j) : D i = D j := by
  have := h i
  rw [hl] at this
  exact this

theorem IsD.node {st : List SK} {lk : Nat → Option Nat} {D : Nat → List Nd} (h : IsD st lk D) {i : Nat} (hl : lk i = none) : D i = (sk st i).kids.flatMap D ++ [(sk st i).node] := by
  have := h i
  rw [hl] at this
  exact this

theorem IsD.rt {st : List SK} {lk : Nat → Option Nat} {D : Nat → List Nd} (h : IsD st lk D) {i r : Nat} (hr : Rt lk i r) : D i = D r := by
  induction hr using Rt.elim with
  | root _ => rfl
  | step h1 _ ih => rw [h.link h1, ih]

/-- All that is held of a store's links. -/
structure Inv (st : List SK) (lk : Nat → Option Nat) : Prop where
  rank : ∃ r, Ranked st lk r
  rng : ∀ i j, lk i = some j → i < st.length ∧ j < st.length
  cong : ∀ i j, lk i = some j → (sk st i).kind ≠ 61 → (sk st j).kind ≠ 61 ∧ (sk st i).node = (sk st j).node ∧ ∀ k (h : k < (sk st i).kids.length) (h' : k < (sk st j).kids.length), ∃ r, Rt lk (sk st i).kids[k] r ∧ Rt lk (sk st j).kids[k] r
  low : ∀ i j, lk i = some j → (sk st i).kind = 61 → (sk st j).kind = 61 → (sk st j).num < (sk st i).num

theorem node_kids {x y : SK} (h : x.node = y.node) : x.kids.length = y.kids.length := by
  have := congrArg Nd.kids h
  simp only [SK.node] at this
  omega

theorem flatMap_pair {l l' : List Nat} {v : Nat → List Nd} (hl : l.length = l'.length) (h : ∀ k (h : k < l.length) (h' : k < l'.length), v l[k] = v l'[k]) : l.flatMap v = l'.flatMap v := by
  rw [List.flatMap_def, List.flatMap_def]
  congr 1
  apply List.ext_getElem
  · simpa using hl
  · intro i h1 h2
    simp only [List.getElem_map]
    exact h i (by simpa using h1) (by simpa using h2)

theorem leaf_one (n : Nd) (h : n.kids = 0) : One [n] := One.join (A := []) (by simp) (by simp [h])

end Go.Proofs.YthioecjcnajmgaaGreatDoor

import Derived.Test.YtdcnejhlmdkecaaGreatDoorWAK
import Derived.Test.YtdcnejhlmdkecaaGreatDoorWAR
namespace Go.Proofs.YtdcnejhlmdkecaaGreatDoor

open Go.RowKit

/-- append to a slice of the call's own, nil or not, in a row of operations. -/
theorem wpList_append3 {P : Program} {w : World} {ops : Array Oper} {rest : List Oper} {o : Oper} {a : Act} {Q : Exit → Act → World → Prop} (hgd : o.guard = none) (s x : Operand) (t : TypeId)
    (ho : o.op = .call { callee := .builtin .append, args := #[s, x], argTypes := #[t, t] })
    (base : Nat) (e : TypeId) (i : TypeInfo) (z : Value) (size bytes : Nat) (ht : P.underlying t = some (.slice e)) (hi : P.info? e = some i) (hz : i.zero = some z)
    (hsize : i.size = size) (hby : i.bytes = bytes) (hzs : z.cells.size = size) (hsz : 0 < size) (v : Value) (n : Nat) (xs : List Value) (hs : a.eval s = v) (hown : w.ownsRow base e size v n xs)
    (ad : Addr) (m c : Nat) (news : List Value) (hx : a.eval x = .slice (some ad) m c) (hl : news.length = m * size) (hnews : ∀ j u, news[j]? = some u → w.cell? (ad.add j) = some u) (h1 : ∀ u ∈ news, u.oneCell' = true)
    (hm : 0 < m) (h63 : n + m ≤ maxLen) (hbytes : (n + m) * bytes ≤ 140737488355328) (hbase : base ≤ w.heap.size)
    (h : ∀ g' cap' w', w'.ownsRow base e size (.slice (some ⟨g', 0, none⟩) (n + m) cap') (n + m) (xs ++ news) → w.grownBy w' v.ownBlock → (v.ownBlock = some g' ∨ w.heap.size ≤ g') → wpList P ops Q rest (a.put o.dst (.slice (some ⟨g', 0, none⟩) (n + m) cap')) w') : wpList P ops Q (o :: rest) a w := by
  refine wpList_plain hgd fun K hK => ?_
  obtain ⟨g', cap', w', hrun, r1, r2, r3⟩ := run_append3 (P := P) w base t o.type e i z size bytes ht hi hz hsize hby hzs hsz v n xs hown ad m c news hl hnews h1 hm h63 hbytes hbase
  unfold Oper.wp execOp
  simp only [ho, resolve, invoke, builtin, Sem.run_bind, Sem.run_pure, Result.andThen_ok, List.map_toArray, List.map_cons, List.map_nil, hs, hx, hrun]
  exact hK _ _ (h g' cap' w' r1 r2 r3)

/-- A list made of rows of six. -/
theorem six_length (f : Nat → List Value) (h6 : ∀ i, (f i).length = 6) (n : Nat) : ((List.range n).flatMap f).length = n * 6 := by
  induction n with
  | zero => rfl
  | succ n ih => rw [List.range_succ, List.flatMap_append, List.length_append, ih]; simp [h6]; omega

theorem six_get (f : Nat → List Value) (h6 : ∀ i, (f i).length = 6) (n i t : Nat) (hi : i < n) (ht : t < 6) : ((List.range n).flatMap f)[i * 6 + t]? = (f i)[t]? := by
  induction n with
  | zero => omega
  | succ n ih =>
    rw [List.range_succ, List.flatMap_append]
    by_cases e : i < n
    · rw [List.getElem?_append_left (by rw [six_length f h6]; omega)]
      exact ih e
    · have e2 : i = n := by omega
      subst e2
      rw [List.getElem?_append_right (by rw [six_length f h6]; omega), six_length f h6]
      have e3 : i * 6 + t - i * 6 = t := by omega
      rw [e3]
      simp

theorem six_set (f g : Nat → List Value) (h6 : ∀ i, (f i).length = 6) (g6 : ∀ i, (g i).length = 6) (n i t : Nat) (v : Value) (hi : i < n) (ht : t < 6) (hg : g i = (f i).set t v) (ho : ∀ j, j ≠ i → g j = f j) : ((List.range n).flatMap f).set (i * 6 + t) v = (List.range n).flatMap g := by
  apply List.ext_getElem?
  intro j
  by_cases hj : j < n * 6
  · have e : j = (j / 6) * 6 + j % 6 := by omega
    have hq : j / 6 < n := by omega
    have hr : j % 6 < 6 := by omega
    generalize j / 6 = q at *
    generalize j % 6 = r at *
    subst e
    rw [six_get g g6 n q r hq hr, List.getElem?_set, six_length f h6]
    by_cases hqi : q = i
    · subst hqi
      rw [hg, List.getElem?_set]
      by_cases hrt : t = r
      · subst hrt
        rw [if_pos rfl, if_pos (by omega), if_pos rfl, if_pos (by rw [h6]; exact hr)]
      · rw [if_neg (by omega), if_neg hrt]
        exact six_get f h6 n q r hq hr
    · rw [if_neg (by omega), ho q hqi]
      exact six_get f h6 n q r hq hr
  · rw [List.getElem?_eq_none (by rw [List.length_set, six_length f h6]; omega), List.getElem?_eq_none (by rw [six_length g g6]; omega)]

/-- A link as a number. -/
def lkv (l : Option Nat) : Int := match l with
  | some j => (j : Int)
  | none => -1

/-- The six cells of a node of a store. -/
def snode (x : SK) (k : Option Addr × Nat) (l : Option Nat) (m : Int) : List Value := [.int .i64 x.kind, .int .i64 x.num, .string x.text, .slice k.1 x.kids.length k.2, .int .i64 (lkv l), .int .i64 m]

def scells (st : List SK) (ka : Nat → Option Addr × Nat) (lk : Nat → Option Nat) (mk : Nat → Int) : List Value := (List.range st.length).flatMap fun i => snode (sk st i) (ka i) (lk i) (mk i)

theorem scells_get (st : List SK) (ka : Nat → Option Addr × Nat) (lk : Nat → Option Nat) (mk : Nat → Int) (i t : Nat) (hi : i < st.length) (ht : t < 6) : (scells st ka lk mk)[i * 6 + t]? = (snode (sk st i) (ka i) (lk i) (mk i))[t]? := six_get _ (fun _ => rfl) _ i t hi ht

theorem scells_link (st : List SK) (ka : Nat → Option Addr × Nat) (lk : Nat → Option Nat) (mk : Nat → Int) (a b : Nat) (ha : a < st.length) : (scells st ka lk mk).set (a * 6 + 4) (.int .i64 (b : Int)) = scells st ka (upd lk a b) mk := by
  refine six_set _ _ (fun _ => rfl) (fun _ => rfl) _ a 4 _ ha (by omega) ?_ ?_
  · simp [snode, upd_same, lkv]
  · intro j hj
    rw [upd_other hj]

def updM (mk : Nat → Int) (a : Nat) (m : Int) : Nat → Int := fun i => if i = a then m else mk i

theorem scells_mark (st : List SK) (ka : Nat → Option Addr × Nat) (lk : Nat → Option Nat) (mk : Nat → Int) (a : Nat) (m : Int) (ha : a < st.length) : (scells st ka lk mk).set (a * 6 + 5) (.int .i64 m) = scells st ka lk (updM mk a m) := by
  refine six_set _ _ (fun _ => rfl) (fun _ => rfl) _ a 5 _ ha (by omega) ?_ ?_
  · simp [snode, updM]
  · intro j hj
    simp [updM, hj]

/-- A store in memory: its nodes in block g, their kids in other blocks. -/
structure Sto (w : World) (B g c : Nat) (st : List SK) (ka : Nat → Option Addr × Nat) (lk : Nat → Option Nat) (mk : Nat → Int) : Prop where
  own : w.ownsRow B 92 6 (.slice (some ⟨g, 0, none⟩) st.length c) st.length (scells st ka lk mk)
  kids : ∀ i, ∀ k (h : k < (sk st i).kids.length), ∃ b o, (ka i).1 = some ⟨b, o, none⟩ ∧ b ≠ g ∧ w.cell? ⟨b, o + k, none⟩ = some (.int .i64 ((sk st i).kids[k] : Int))

theorem Sto.block {w : World} {B g c : Nat} {st : List SK} {ka : Nat → Option Addr × Nat} {lk : Nat → Option Nat} {mk : Nat → Int} (h : Sto w B g c st ka lk mk) : B ≤ g ∧ g < w.heap.size := owns_block h.own

theorem Sto.but {S : Nat → Prop} {w w' : World} {B g c : Nat} {st : List SK} {ka : Nat → Option Addr × Nat} {lk : Nat → Option Nat} {mk : Nat → Int} (h : Sto w B g c st ka lk mk) (hb : But S w w') (hg : ¬ S g) (hk : ∀ q, S q → q = g) : Sto w' B g c st ka lk mk := by
  refine ⟨owns_but h.own hb hg, ?_⟩
  intro i k hk1
  obtain ⟨b, o, e1, e2, e3⟩ := h.kids i k hk1
  refine ⟨b, o, e1, e2, ?_⟩
  have hlt : b < w.heap.size := lt_of_cell e3
  have h9 := hb.block b hlt (fun hs => e2 (hk b hs))
  unfold World.cell? at e3 ⊢
  rw [h9]
  exact e3

theorem Sto.below {w w' : World} {B g c : Nat} {st : List SK} {ka : Nat → Option Addr × Nat} {lk : Nat → Option Nat} {mk : Nat → Int} (h : Sto w B g c st ka lk mk) (hb : Below w.heap.size w w') : Sto w' B g c st ka lk mk :=
  h.but (S := fun _ => False) (But.ofBelow hb) (fun h => h) (fun _ h => h.elim)

theorem Sto.cell {w : World} {B g c : Nat} {st : List SK} {ka : Nat → Option Addr × Nat} {lk : Nat → Option Nat} {mk : Nat → Int} (h : Sto w B g c st ka lk mk) (i t : Nat) (hi : i < st.length) (ht : t < 6) : w.cell? ⟨g, i * 6 + t, none⟩ = (snode (sk st i) (ka i) (lk i) (mk i))[t]? := by
  rw [owns_at h.own _ (by omega), scells_get st ka lk mk i t hi ht]

theorem Sto.frozen {w : World} {B g c : Nat} {st : List SK} {ka : Nat → Option Addr × Nat} {lk : Nat → Option Nat} {mk : Nat → Int} (h : Sto w B g c st ka lk mk) (j : Nat) : w.frozen? ⟨g, j, none⟩ = false := h.own.frozenAt j

theorem Sto.setLink {w : World} {B g c : Nat} {st : List SK} {ka : Nat → Option Addr × Nat} {lk : Nat → Option Nat} {mk : Nat → Int} (h : Sto w B g c st ka lk mk) (a b : Nat) (ha : a < st.length) : Sto (w.setCell ⟨g, a * 6 + 4, none⟩ (.int .i64 (b : Int))) B g c st ka (upd lk a b) mk := by
  refine ⟨?_, ?_⟩
  · have h9 := owns_setOne (v := .int .i64 (b : Int)) h.own (i := a * 6 + 4)
    rw [scells_link st ka lk mk a b ha] at h9
    exact h9
  · intro i k hk
    obtain ⟨b2, o, e1, e2, e3⟩ := h.kids i k hk
    have hb : But (· = g) w (w.setCell ⟨g, a * 6 + 4, none⟩ (.int .i64 (b : Int))) := (But.refl (· = g) w).setCell (p := ⟨g, a * 6 + 4, none⟩) rfl _
    have hlt : b2 < w.heap.size := lt_of_cell e3
    have h9 := hb.block b2 hlt e2
    refine ⟨b2, o, e1, e2, ?_⟩
    unfold World.cell? at e3 ⊢
    rw [h9]
    exact e3

theorem Sto.setMark {w : World} {B g c : Nat} {st : List SK} {ka : Nat → Option Addr × Nat} {lk : Nat → Option Nat} {mk : Nat → Int} (h : Sto w B g c st ka lk mk) (a : Nat) (m : Int) (ha : a < st.length) : Sto (w.setCell ⟨g, a * 6 + 5, none⟩ (.int .i64 m)) B g c st ka lk (updM mk a m) := by
  refine ⟨?_, ?_⟩
  · have h9 := owns_setOne (v := .int .i64 m) h.own (i := a * 6 + 5)
    rw [scells_mark st ka lk mk a m ha] at h9
    exact h9
  · intro i k hk
    obtain ⟨b2, o, e1, e2, e3⟩ := h.kids i k hk
    have hb : But (· = g) w (w.setCell ⟨g, a * 6 + 5, none⟩ (.int .i64 m)) := (But.refl (· = g) w).setCell (p := ⟨g, a * 6 + 5, none⟩) rfl _
    have hlt : b2 < w.heap.size := lt_of_cell e3
    have h9 := hb.block b2 hlt e2
    refine ⟨b2, o, e1, e2, ?_⟩
    unfold World.cell? at e3 ⊢
    rw [h9]
    exact e3

end Go.Proofs.YtdcnejhlmdkecaaGreatDoor

namespace Go.Proofs.YtdcnejhlmdkecaaGreatDoor

/-! A store grows by a node; what it says of the old ones stays. -/

theorem sk_push_old {st : List SK} {x : SK} {i : Nat} (h : i < st.length) : sk (st ++ [x]) i = sk st i := by
  unfold sk
  rw [List.getElem?_append_left h]

theorem sk_push_new (st : List SK) (x : SK) : sk (st ++ [x]) st.length = x := by
  unfold sk
  simp

theorem sk_push (st : List SK) (x : SK) (i : Nat) : (i < st.length ∧ sk (st ++ [x]) i = sk st i) ∨ (i = st.length ∧ sk (st ++ [x]) i = x) ∨ (st.length < i ∧ sk (st ++ [x]) i = SK.none) := by
  rcases Nat.lt_trichotomy i st.length with h | h | h
  · exact .inl ⟨h, sk_push_old h⟩
  · subst h
    exact .inr (.inl ⟨rfl, sk_push_new _ _⟩)
  · exact .inr (.inr ⟨h, sk_out (by simp; omega)⟩)

/-- A node that may be put behind a store. -/
structure FitsIn (st : List SK) (x : SK) : Prop where
  kids : ∀ k ∈ x.kids, k < st.length
  leaf : x.kind = 61 → x.kids = []
  one : x.kind = 61 → ∀ i, i < st.length → (sk st i).kind = 61 → (sk st i).num ≠ x.num
  plain : x.node.plainb = true
  few : x.kids.length ≤ 6000

theorem Sts.push {st : List SK} {x : SK} (hs : Sts st) (hx : FitsIn st x) : Sts (st ++ [x]) := by
  refine ⟨fun i k hk => ?_, fun i h => ?_, fun i j hi hj h1 h2 h3 => ?_, fun i hi => ?_, fun i => ?_⟩
  · rcases sk_push st x i with ⟨_, e⟩ | ⟨e1, e⟩ | ⟨_, e⟩
    · rw [e] at hk; exact hs.kids i k hk
    · rw [e] at hk; rw [e1]; exact hx.kids k hk
    · rw [e] at hk; simp [SK.none] at hk
  · rcases sk_push st x i with ⟨_, e⟩ | ⟨_, e⟩ | ⟨_, e⟩
    · rw [e] at h ⊢; exact hs.leaf i h
    · rw [e] at h ⊢; exact hx.leaf h
    · rw [e]; rfl
  · simp only [List.length_append, List.length_singleton] at hi hj
    rcases sk_push st x i with ⟨a1, e⟩ | ⟨a1, e⟩ | ⟨a1, e⟩ <;> rcases sk_push st x j with ⟨b1, e'⟩ | ⟨b1, e'⟩ | ⟨b1, e'⟩ <;> rw [e] at h1 h3 <;> rw [e'] at h2 h3
    · exact hs.one i j a1 b1 h1 h2 h3
    · exact absurd h3 (hx.one h2 i a1 h1)
    · omega
    · exact absurd h3.symm (hx.one h1 j b1 h2)
    · omega
    all_goals omega
  · simp only [List.length_append, List.length_singleton] at hi
    rcases sk_push st x i with ⟨a1, e⟩ | ⟨a1, e⟩ | ⟨a1, e⟩
    · rw [e]; exact hs.plain i a1
    · rw [e]; exact hx.plain
    · omega
  · rcases sk_push st x i with ⟨a1, e⟩ | ⟨a1, e⟩ | ⟨a1, e⟩
    · rw [e]; exact hs.few i
    · rw [e]; exact hx.few
    · rw [e]; simp [SK.none]

theorem T_push {st : List SK} {x : SK} (hs : Sts st) (hx : FitsIn st x) (θ : Int → List Nd) : ∀ i, i < st.length → T Classical.epsilon θ (st ++ [x]) i = T Classical.epsilon θ st i := by
  intro i
  induction i using Nat.strongRecOn with
  | ind i ih =>
    intro hi
    have e := sk_push_old (x := x) hi
    by_cases h : (sk st i).kind = 61
    · rw [T_meta θ hs h, T_meta θ (hs.push hx) (by rw [e]; exact h), e]
    · rw [T_node θ hs h, T_node θ (hs.push hx) (by rw [e]; exact h), e]
      congr 1
      exact flatMap_congr (fun k hk => ih k (hs.kids i k hk) (Nat.lt_trans (hs.kids i k hk) hi))

theorem le_sum (r : Nat → Nat) {l : List Nat} {k : Nat} (h : k ∈ l) : r k ≤ (l.map r).sum := by
  induction l with
  | nil => simp at h
  | cons a l ih =>
    simp only [List.map_cons, List.sum_cons]
    rcases List.mem_cons.1 h with rfl | h
    · omega
    · have := ih h
      omega

theorem Inv.push {st : List SK} {x : SK} {lk : Nat → Option Nat} (hs : Sts st) (hx : FitsIn st x) (h : Inv st lk) : Inv (st ++ [x]) lk := by
  refine ⟨?_, fun i j e => ?_, fun i j e => ?_, fun i j e => ?_⟩
  · obtain ⟨r, hr⟩ := h.rank
    refine ⟨fun i => if i = st.length then 1 + (x.kids.map r).sum else r i, fun i j e => ?_, fun i hi k hk => ?_⟩
    · obtain ⟨h1, h2⟩ := h.rng i j e
      simp only [show i ≠ st.length by omega, show j ≠ st.length by omega, if_false]
      exact hr.link i j e
    · rcases sk_push st x i with ⟨a1, e⟩ | ⟨a1, e⟩ | ⟨a1, e⟩
      · rw [e] at hk
        have h1 := hs.kids i k hk
        simp only [show i ≠ st.length by omega, show k ≠ st.length by omega, if_false]
        exact hr.kid i hi k hk
      · rw [e] at hk
        have h1 := hx.kids k hk
        simp only [a1, show k ≠ st.length by omega, if_false, if_true]
        have := le_sum r hk
        omega
      · rw [e] at hk
        simp [SK.none] at hk
  · obtain ⟨h1, h2⟩ := h.rng i j e
    simp only [List.length_append, List.length_singleton]
    omega
  · obtain ⟨h1, h2⟩ := h.rng i j e
    rw [sk_push_old h1, sk_push_old h2]
    exact h.cong i j e
  · obtain ⟨h1, h2⟩ := h.rng i j e
    rw [sk_push_old h1, sk_push_old h2]
    exact h.low i j e

theorem unl_push (st : List SK) (x : SK) (lk : Nat → Option Nat) : unl (st ++ [x]) lk ≤ unl st lk + 1 := by
  unfold unl
  rw [List.length_append, List.length_singleton, List.range_succ, List.filter_append, List.length_append]
  have h1 : (List.range st.length).filter (fun i => (sk (st ++ [x]) i).kind == 61 && (lk i).isNone) = (List.range st.length).filter (fun i => (sk st i).kind == 61 && (lk i).isNone) := by
    apply List.filter_congr
    intro i hi
    rw [sk_push_old (List.mem_range.1 hi)]
  rw [h1]
  have h2 := List.length_filter_le (fun i => (sk (st ++ [x]) i).kind == 61 && (lk i).isNone) [st.length]
  simp only [List.length_singleton] at h2
  omega

/-- A store that has grown. -/
structure Grown (st st' : List SK) : Prop where
  le : st.length ≤ st'.length
  same : ∀ i, i < st.length → sk st' i = sk st i
  t : ∀ θ i, i < st.length → T Classical.epsilon θ st' i = T Classical.epsilon θ st i
  inv : ∀ lk, Inv st lk → Inv st' lk
  unl : ∀ lk, unl st' lk ≤ unl st lk + (st'.length - st.length)

theorem Grown.refl (st : List SK) : Grown st st := ⟨Nat.le_refl _, fun _ _ => rfl, fun _ _ _ => rfl, fun _ h => h, fun _ => by omega⟩

theorem Grown.trans {a b c : List SK} (h : Grown a b) (h' : Grown b c) : Grown a c :=
  ⟨Nat.le_trans h.le h'.le, fun i hi => (h'.same i (Nat.lt_of_lt_of_le hi h.le)).trans (h.same i hi), fun θ i hi => (h'.t θ i (Nat.lt_of_lt_of_le hi h.le)).trans (h.t θ i hi), fun lk hI => h'.inv lk (h.inv lk hI), fun lk => by have := h.unl lk; have := h'.unl lk; have := h.le; have := h'.le; omega⟩

theorem Grown.push {st : List SK} {x : SK} (hs : Sts st) (hx : FitsIn st x) : Grown st (st ++ [x]) :=
  ⟨by simp, fun i hi => sk_push_old hi, fun θ i hi => T_push hs hx θ i hi, fun lk h => h.push hs hx, fun lk => by have := unl_push st x lk; simp only [List.length_append, List.length_singleton]; omega⟩

theorem Grown.sat {st st' : List SK} (h : Grown st st') {lk : Nat → Option Nat} (hr : ∀ i j, lk i = some j → i < st.length ∧ j < st.length) (θ : Int → List Nd) : Sat θ st' lk ↔ Sat θ st lk := by
  constructor
  · intro hs i j e
    obtain ⟨h1, h2⟩ := hr i j e
    rw [← h.t θ i h1, ← h.t θ j h2]
    exact hs i j e
  · intro hs i j e
    obtain ⟨h1, h2⟩ := hr i j e
    rw [h.t θ i h1, h.t θ j h2]
    exact hs i j e

/-- The list of unknowns of a store. -/
structure MsOk (st : List SK) (ms : List (Int × Nat)) : Prop where
  at' : ∀ p ∈ ms, p.2 < st.length ∧ (sk st p.2).kind = 61 ∧ (sk st p.2).num = p.1
  all : ∀ i, i < st.length → (sk st i).kind = 61 → ((sk st i).num, i) ∈ ms
  nd : (ms.map Prod.fst).Nodup

/-- What l8Put has made of the first k nodes of a type. -/
structure PutS (st0 : List SK) (ms0 : List (Int × Nat)) (ty : List Nd) (ys : List Sp) (k : Nat) (st : List SK) (at' : List Nat) (ms : List (Int × Nat)) : Prop where
  grown : Grown st0 st
  few : st.length ≤ st0.length + k
  sts : Sts st
  msok : MsOk st ms
  len : at'.length = k
  mean : ∀ i s a, i < k → ys[i]? = some s → at'[i]? = some a → a < st.length ∧ ∀ θ, T Classical.epsilon θ st a = fill θ (span ty s.fr i)
  occ : ∀ x, x ∈ ms.map Prod.fst ↔ x ∈ ms0.map Prod.fst ∨ x ∈ metas (ty.take k)

theorem PutS.start {st0 : List SK} {ms0 : List (Int × Nat)} (hs : Sts st0) (hm : MsOk st0 ms0) (ty : List Nd) (ys : List Sp) : PutS st0 ms0 ty ys 0 st0 [] ms0 :=
  ⟨Grown.refl _, by omega, hs, hm, rfl, fun i s a h => by omega, fun x => by simp [metas]⟩

theorem MsOk.grown {st st' : List SK} {ms : List (Int × Nat)} {x : SK} (h : MsOk st ms) (e : st' = st ++ [x]) (hx : x.kind ≠ 61) : MsOk st' ms := by
  subst e
  refine ⟨fun p hp => ?_, fun i hi hk => ?_, h.nd⟩
  · obtain ⟨h1, h2, h3⟩ := h.at' p hp
    rw [sk_push_old h1]
    exact ⟨by simp; omega, h2, h3⟩
  · rcases sk_push st x i with ⟨a1, e⟩ | ⟨a1, e⟩ | ⟨a1, e⟩
    · rw [e] at hk ⊢; exact h.all i a1 hk
    · rw [e] at hk; exact absurd hk hx
    · rw [e] at hk; simp [SK.none] at hk

theorem span_leaf {ty : List Nd} {S ys : List Sp} {m k : Nat} (h : after ty m = some (S, ys)) (hk : k < m) (hkl : k < ty.length) (h0 : ty[k].kids = 0) {s : Sp} (hs : ys[k]? = some s) : span ty s.fr k = [ty[k]] := by
  obtain ⟨K, hK, hy⟩ := kids_at2 h k hk
  obtain ⟨_, hn⟩ := hK.num
  have hK0 : K = [] := List.eq_nil_of_length_eq_zero (by omega)
  subst hK0
  rw [hs] at hy
  simp only [Option.some.injEq] at hy
  subst hy
  rw [span_snoc ty _ k hkl (by simp [over, frOf])]
  simp [over, frOf]

theorem metas_snoc (ty : List Nd) (k : Nat) (hk : k < ty.length) (x : Int) : x ∈ metas (ty.take (k + 1)) ↔ x ∈ metas (ty.take k) ∨ (ty[k].kind = 61 ∧ x = ty[k].num) := by
  rw [List.take_succ_eq_append_getElem hk, metas_append, List.mem_append]
  by_cases h : ty[k].kind = 61
  · simp [metas, h]
  · simp [metas, h]

section
variable {st0 st : List SK} {ms0 ms : List (Int × Nat)} {ty : List Nd} {ys S : List Sp} {k m : Nat} {at' : List Nat}

theorem PutS.known (h : PutS st0 ms0 ty ys k st at' ms) (ha : after ty m = some (S, ys)) (hk : k < m) (hkl : k < ty.length) (h61 : ty[k].kind = 61) (h0 : ty[k].kids = 0) {j : Nat} (hj : (ty[k].num, j) ∈ ms) : PutS st0 ms0 ty ys (k + 1) st (at' ++ [j]) ms := by
  obtain ⟨j1, j2, j3⟩ := h.msok.at' _ hj
  simp only at j1 j2 j3
  refine ⟨h.grown, by have := h.few; omega, h.sts, h.msok, by simp [h.len], fun i s a hi hs e => ?_, fun x => ?_⟩
  · by_cases hik : i < k
    · rw [List.getElem?_append_left (by rw [h.len]; exact hik)] at e
      exact h.mean i s a hik hs e
    · obtain rfl : i = k := by omega
      rw [List.getElem?_append_right (by rw [h.len]; omega), h.len, Nat.sub_self] at e
      simp only [List.getElem?_cons_zero, Option.some.injEq] at e
      subst e
      refine ⟨j1, fun θ => ?_⟩
      rw [T_meta θ h.sts j2, j3, span_leaf ha hk hkl h0 hs]
      simp [fill, fillN, h61]
  · rw [h.occ x, metas_snoc ty k hkl]
    have hx : ty[k].num ∈ ms.map Prod.fst := List.mem_map.2 ⟨_, hj, rfl⟩
    rw [h.occ] at hx
    constructor
    · rintro (h1 | h1)
      · exact .inl h1
      · exact .inr (.inl h1)
    · rintro (h1 | h1 | ⟨_, rfl⟩)
      · exact .inl h1
      · exact .inr h1
      · exact hx

theorem PutS.mean_old (h : PutS st0 ms0 ty ys k st at' ms) {x : SK} (hx : FitsIn st x) {i a : Nat} {s : Sp} (hik : i < k) (hs : ys[i]? = some s) (e : at'[i]? = some a) : a < (st ++ [x]).length ∧ ∀ θ, T Classical.epsilon θ (st ++ [x]) a = fill θ (span ty s.fr i) := by
  obtain ⟨h1, h2⟩ := h.mean i s a hik hs e
  refine ⟨by simp; omega, fun θ => ?_⟩
  rw [T_push h.sts hx θ a h1]
  exact h2 θ

theorem PutS.fresh (h : PutS st0 ms0 ty ys k st at' ms) (ha : after ty m = some (S, ys)) (hk : k < m) (hkl : k < ty.length) (hp : ty[k].plainb = true) (h61 : ty[k].kind = 61) (h0 : ty[k].kids = 0) (hj : ∀ p ∈ ms, p.1 ≠ ty[k].num) : PutS st0 ms0 ty ys (k + 1) (st ++ [⟨61, ty[k].num, ByteArray.empty, []⟩]) (at' ++ [st.length]) (ms ++ [(ty[k].num, st.length)]) := by
  have hx : FitsIn st ⟨61, ty[k].num, ByteArray.empty, []⟩ := by
    refine ⟨fun k hk => by simp at hk, fun _ => rfl, fun _ i hi hki e => ?_, ?_, by simp⟩
    · exact hj _ (h.msok.all i hi hki) e
    · have e := plain_meta hp h61
      rw [e] at hp
      exact hp
  have hnew := sk_push_new st ⟨61, ty[k].num, ByteArray.empty, []⟩
  refine ⟨h.grown.trans (Grown.push h.sts hx), by have := h.few; simp; omega, h.sts.push hx, ⟨fun p hp => ?_, fun i hi hki => ?_, ?_⟩, by simp [h.len], fun i s a hi hs e => ?_, fun x => ?_⟩
  · rcases List.mem_append.1 hp with hp | hp
    · obtain ⟨h1, h2, h3⟩ := h.msok.at' p hp
      rw [sk_push_old h1]
      exact ⟨by simp; omega, h2, h3⟩
    · simp only [List.mem_singleton] at hp
      subst hp
      simp only
      rw [hnew]
      exact ⟨by simp, rfl, rfl⟩
  · rcases sk_push st ⟨61, ty[k].num, ByteArray.empty, []⟩ i with ⟨a1, e⟩ | ⟨a1, e⟩ | ⟨a1, e⟩
    · rw [e] at hki ⊢
      exact List.mem_append_left _ (h.msok.all i a1 hki)
    · rw [e]
      simp [a1]
    · rw [e] at hki
      simp [SK.none] at hki
  · rw [List.map_append, List.nodup_append]
    refine ⟨h.msok.nd, by simp, fun a ha b hb => ?_⟩
    simp only [List.map_cons, List.map_nil, List.mem_singleton] at hb
    obtain ⟨p, hp, rfl⟩ := List.mem_map.1 ha
    rw [hb]
    exact hj p hp
  · by_cases hik : i < k
    · rw [List.getElem?_append_left (by rw [h.len]; exact hik)] at e
      exact h.mean_old hx hik hs e
    · obtain rfl : i = k := by omega
      rw [List.getElem?_append_right (by rw [h.len]; omega), h.len, Nat.sub_self] at e
      simp only [List.getElem?_cons_zero, Option.some.injEq] at e
      subst e
      refine ⟨by simp, fun θ => ?_⟩
      rw [T_meta θ (h.sts.push hx) (by rw [hnew]), hnew, span_leaf ha hk hkl h0 hs]
      simp [fill, fillN, h61]
  · rw [metas_snoc ty k hkl, List.map_append, List.mem_append, h.occ x]
    simp only [List.map_cons, List.map_nil, List.mem_singleton, h61, true_and]
    constructor
    · rintro ((h1 | h1) | h1)
      · exact .inl h1
      · exact .inr (.inl h1)
      · exact .inr (.inr h1)
    · rintro (h1 | h1 | h1)
      · exact .inl (.inl h1)
      · exact .inl (.inr h1)
      · exact .inr h1

theorem PutS.node (h : PutS st0 ms0 ty ys k st at' ms) (hkl : k < ty.length) (hp : ty[k].plainb = true) (h61 : ty[k].kind ≠ 61) (h6 : k ≤ 6000) {K : List Sp} (hK : KidsAt ty ys k K) (hy : ys[k]? = some (over K k)) {ks : List Nat} (hks : ks.length = K.length) (hka : ∀ r (h1 : r < K.length) (h2 : r < ks.length), at'[K[r].rt]? = some ks[r]) :
    PutS st0 ms0 ty ys (k + 1) (st ++ [⟨ty[k].kind, ty[k].num, ty[k].text, ks⟩]) (at' ++ [st.length]) ms := by
  obtain ⟨_, hn⟩ := hK.num
  have hnode : (⟨ty[k].kind, ty[k].num, ty[k].text, ks⟩ : SK).node = ty[k] := by
    have hpl := plain_place hp
    generalize ty[k] = q at *
    obtain ⟨kd, nm, tx, kc, pl⟩ := q
    simp only at hn hpl
    simp [SK.node, hpl, hn, hks]
  have hkm : ∀ r (h1 : r < K.length) (h2 : r < ks.length), ks[r] < st.length ∧ ∀ θ, T Classical.epsilon θ st ks[r] = fill θ (span ty K[r].fr K[r].rt) := by
    intro r h1 h2
    obtain ⟨m1, m2, m3⟩ := hK.mem r h1
    exact h.mean K[r].rt K[r] ks[r] m3 m1 (hka r h1 h2)
  have hx : FitsIn st ⟨ty[k].kind, ty[k].num, ty[k].text, ks⟩ := by
    refine ⟨fun q hq => ?_, fun e => absurd e h61, fun e => absurd e h61, by rw [hnode]; exact hp, by have := hK.len; simp only; omega⟩
    obtain ⟨r, hr, rfl⟩ := List.getElem_of_mem hq
    exact (hkm r (by simp only at hr; omega) hr).1
  have hnew := sk_push_new st ⟨ty[k].kind, ty[k].num, ty[k].text, ks⟩
  refine ⟨h.grown.trans (Grown.push h.sts hx), by have := h.few; simp; omega, h.sts.push hx, h.msok.grown rfl h61, by simp [h.len], fun i s a hi hs e => ?_, fun x => ?_⟩
  · by_cases hik : i < k
    · rw [List.getElem?_append_left (by rw [h.len]; exact hik)] at e
      exact h.mean_old hx hik hs e
    · obtain rfl : i = k := by omega
      rw [List.getElem?_append_right (by rw [h.len]; omega), h.len, Nat.sub_self] at e
      simp only [List.getElem?_cons_zero, Option.some.injEq] at e
      subst e
      refine ⟨by simp, fun θ => ?_⟩
      rw [hy] at hs
      simp only [Option.some.injEq] at hs
      subst hs
      have hcon := kids_con hK
      rw [T_node θ (h.sts.push hx) (by rw [hnew]; exact h61), hnew, hnode, span_snoc ty _ i hkl (by have := hcon.le; exact this), fill_append]
      have e1 : ks.flatMap (T Classical.epsilon θ (st ++ [⟨ty[i].kind, ty[i].num, ty[i].text, ks⟩])) = ((kidsIn ty K).map (fill θ)).flatten := by
        rw [List.flatMap_def]
        congr 1
        apply List.ext_getElem
        · simp [kidsIn, hks]
        · intro r r1 r2
          simp only [List.length_map] at r1
          have r3 : r < K.length := by omega
          simp only [List.getElem_map, kidsIn]
          obtain ⟨q1, q2⟩ := hkm r r3 r1
          rw [T_push h.sts hx θ _ q1, q2 θ]
      simp only
      rw [e1, ← fill_flatten, con_flat hcon (by omega)]
      congr 1
      simp [fill, fillN, h61]
  · rw [h.occ x, metas_snoc ty k hkl]
    simp [h61]

end

end Go.Proofs.YtdcnejhlmdkecaaGreatDoor

import Derived.Test.YtoiiibplkhedcaaGreatDoorGA
import Derived.OwnWalkIn
import Derived.Test.YtoiiibplkhedcaaGreatDoorGF
import Derived.Test.YtoiiibplkhedcaaGreatDoorGD
namespace Go.Proofs.YtoiiibplkhedcaaGreatDoor
open Go.RowKit
theorem run_append3 {P : Program} (w : World) (base : Nat) (t ty e : TypeId) (i : TypeInfo) (z : Value) (size bytes : Nat) (ht : P.underlying t = some (.slice e)) (hi : P.info? e = some i) (hz : i.zero = some z)
    (hsize : i.size = size) (hby : i.bytes = bytes) (hzs : z.cells.size = size) (hsz : 0 < size) (v : Value) (n : Nat) (xs : List Value) (hown : w.ownsRow base e size v n xs)
    (ad : Addr) (m c : Nat) (news : List Value) (hl : news.length = m * size) (hnews : ∀ j u, news[j]? = some u → w.cell? (ad.add j) = some u) (h1 : ∀ u ∈ news, u.oneCell' = true)
    (hm : 0 < m) (h63 : n + m ≤ maxLen) (hbytes : (n + m) * bytes ≤ 140737488355328) (hbase : base ≤ w.heap.size) :
    ∃ g' cap' w', (Builtin.append_ #[t, t] ty #[v, .slice (some ad) m c]).run P w = .ok (.slice (some ⟨g', 0, none⟩) (n + m) cap') w' ∧ w'.ownsRow base e size (.slice (some ⟨g', 0, none⟩) (n + m) cap') (n + m) (xs ++ news) ∧ w.grownBy w' v.ownBlock ∧ (v.ownBlock = some g' ∨ w.heap.size ≤ g') := by
  obtain ⟨v', w', hr, h2, h3, h4⟩ := run_append_own (P := P) w base t ty e i z size bytes ht hi hz hsize hby hzs hsz v n xs hown ad m c news hl hnews h1 h63 hbytes hbase
  rcases hown.2 with ⟨hv, hn⟩ | ⟨g2, cap2, cur, he, _⟩
  · subst hv
    have hown2 : w.ownsRow w.heap.size e size (.slice none 0 0) n xs := ⟨hown.1, Or.inl ⟨rfl, hn⟩⟩
    obtain ⟨v2, w2, hr2, h22, h23, h24⟩ := run_append_own (P := P) w w.heap.size t ty e i z size bytes ht hi hz hsize hby hzs hsz _ n xs hown2 ad m c news hl hnews h1 h63 hbytes (Nat.le_refl _)
    rw [hr] at hr2
    simp only [Result.ok.injEq] at hr2
    obtain ⟨rfl, rfl⟩ := hr2
    rcases h22.2 with ⟨hv2, hn2⟩ | ⟨g3, cap3, cur3, he3, hb3, _⟩
    · omega
    · subst he3
      exact ⟨g3, cap3, _, hr, h2, h3, Or.inr hb3⟩
  · subst he
    subst hsize
    obtain ⟨g', cap', rfl, hw⟩ := append_where w t ty e i z ht hi hz base g2 n cap2 xs hown ad m c news hl hnews h1 h63 (by rw [hby]; exact hbytes) hr
    exact ⟨g', cap', _, hr, h2, h3, hw.elim (fun e => Or.inl (by rw [e]; rfl)) (fun e => Or.inr (by omega))⟩
end Go.Proofs.YtoiiibplkhedcaaGreatDoor

namespace Go.Proofs.YtoiiibplkhedcaaGreatDoor
open Go.RowKit
theorem wpList_append3 {P : Program} {w : World} {ops : Array Oper} {rest : List Oper} {o : Oper} {a : Act} {Q : Exit → Act → World → Prop} (hgd : o.guard = none) (s x : Operand) (t : TypeId)
    (ho : o.op = .call { callee := .builtin .append, args := #[s, x], argTypes := #[t, t] })
    (base : Nat) (e : TypeId) (i : TypeInfo) (z : Value) (size bytes : Nat) (ht : P.underlying t = some (.slice e)) (hi : P.info? e = some i) (hz : i.zero = some z)
    (hsize : i.size = size) (hby : i.bytes = bytes) (hzs : z.cells.size = size) (hsz : 0 < size) (v : Value) (n : Nat) (xs : List Value) (hs : a.eval s = v) (hown : w.ownsRow base e size v n xs)
    (ad : Addr) (m c : Nat) (news : List Value) (hx : a.eval x = .slice (some ad) m c) (hl : news.length = m * size) (hnews : ∀ j u, news[j]? = some u → w.cell? (ad.add j) = some u) (h1 : ∀ u ∈ news, u.oneCell' = true)
    (hm : 0 < m) (h63 : n + m ≤ maxLen) (hbytes : (n + m) * bytes ≤ 140737488355328) (hbase : base ≤ w.heap.size)
    (h : ∀ g' cap' w', w'.ownsRow base e size (.slice (some ⟨g', 0, none⟩) (n + m) cap') (n + m) (xs ++ news) → w.grownBy w' v.ownBlock → (v.ownBlock = some g' ∨ w.heap.size ≤ g') → wpList P ops Q rest (a.put o.dst (.slice (some ⟨g', 0, none⟩) (n + m) cap')) w') : wpList P ops Q (o :: rest) a w := by
  refine wpList_plain hgd fun K hK => ?_
  obtain ⟨g', cap', w', hrun, r1, r2, r3⟩ := run_append3 (P := P) w base t o.type e i z size bytes ht hi hz hsize hby hzs hsz v n xs hown ad m c news hl hnews h1 hm h63 hbytes hbase
  unfold Oper.wp execOp
  simp only [ho, resolve, invoke, builtin, Sem.run_bind, Sem.run_pure, Result.andThen_ok, List.map_toArray, List.map_cons, List.map_nil, hs, hx, hrun]
  exact hK _ _ (h g' cap' w' r1 r2 r3)
theorem six_length (f : Nat → List Value) (h6 : ∀ i, (f i).length = 6) (n : Nat) : ((List.range n).flatMap f).length = n * 6 := by
  induction n with
  | zero => rfl
  | succ n ih => rw [List.range_succ, List.flatMap_append, List.length_append, ih]; simp [h6]; omega
theorem six_get (f : Nat → List Value) (h6 : ∀ i, (f i).length = 6) (n i t : Nat) (hi : i < n) (ht : t < 6) : ((List.range n).flatMap f)[i * 6 + t]? = (f i)[t]? := by
  induction n with
  | zero => omega
  | succ n ih =>
    rw [List.range_succ, List.flatMap_append]
    by_cases e : i < n
    · rw [List.getElem?_append_left (by rw [six_length f h6]; omega)]
      exact ih e
    · have e2 : i = n := by omega
      subst e2
      rw [List.getElem?_append_right (by rw [six_length f h6]; omega), six_length f h6]
      have e3 : i * 6 + t - i * 6 = t := by omega
      rw [e3]
      simp
theorem six_set (f g : Nat → List Value) (h6 : ∀ i, (f i).length = 6) (g6 : ∀ i, (g i).length = 6) (n i t : Nat) (v : Value) (hi : i < n) (ht : t < 6) (hg : g i = (f i).set t v) (ho : ∀ j, j ≠ i → g j = f j) : ((List.range n).flatMap f).set (i * 6 + t) v = (List.range n).flatMap g := by
  apply List.ext_getElem?
  intro j
  by_cases hj : j < n * 6
  · have e : j = (j / 6) * 6 + j % 6 := by omega
    have hq : j / 6 < n := by omega
    have hr : j % 6 < 6 := by omega
    generalize j / 6 = q at *
    generalize j % 6 = r at *
    subst e
    rw [six_get g g6 n q r hq hr, List.getElem?_set, six_length f h6]
    by_cases hqi : q = i
    · subst hqi
      rw [hg, List.getElem?_set]
      by_cases hrt : t = r
      · subst hrt
        rw [if_pos rfl, if_pos (by omega), if_pos rfl, if_pos (by rw [h6]; exact hr)]
      · rw [if_neg (by omega), if_neg hrt]
        exact six_get f h6 n q r hq hr
    · rw [if_neg (by omega), ho q hqi]
      exact six_get f h6 n q r hq hr
  · rw [List.getElem?_eq_none (by rw [List.length_set, six_length f h6]; omega), List.getElem?_eq_none (by rw [six_length g g6]; omega)]
def lkv (l : Option Nat) : Int := match l with
  | some j => (j : Int)
  | none => -1
def snode (x : SK) (k : Option Addr × Nat) (l : Option Nat) (m : Int) : List Value := [.int .i64 x.kind, .int .i64 x.num, .string x.text, .slice k.1 x.kids.length k.2, .int .i64 (lkv l), .int .i64 m]
def scells (st : List SK) (ka : Nat → Option Addr × Nat) (lk : Nat → Option Nat) (mk : Nat → Int) : List Value := (List.range st.length).flatMap fun i => snode (sk st i) (ka i) (lk i) (mk i)
theorem scells_get (st : List SK) (ka : Nat → Option Addr × Nat) (lk : Nat → Option Nat) (mk : Nat → Int) (i t : Nat) (hi : i < st.length) (ht : t < 6) : (scells st ka lk mk)[i * 6 + t]? = (snode (sk st i) (ka i) (lk i) (mk i))[t]? := six_get _ (fun _ => rfl) _ i t hi ht
theorem scells_link (st : List SK) (ka : Nat → Option Addr × Nat) (lk : Nat → Option Nat) (mk : Nat → Int) (a b : Nat) (ha : a < st.length) : (scells st ka lk mk).set (a * 6 + 4) (.int .i64 (b : Int)) = scells st ka (upd lk a b) mk := by
  refine six_set _ _ (fun _ => rfl) (fun _ => rfl) _ a 4 _ ha (by omega) ?_ ?_
  · simp [snode, upd_same, lkv]
  · intro j hj
    rw [upd_other hj]
def updM (mk : Nat → Int) (a : Nat) (m : Int) : Nat → Int := fun i => if i = a then m else mk i
theorem scells_mark (st : List SK) (ka : Nat → Option Addr × Nat) (lk : Nat → Option Nat) (mk : Nat → Int) (a : Nat) (m : Int) (ha : a < st.length) : (scells st ka lk mk).set (a * 6 + 5) (.int .i64 m) = scells st ka lk (updM mk a m) := by
  refine six_set _ _ (fun _ => rfl) (fun _ => rfl) _ a 5 _ ha (by omega) ?_ ?_
  · simp [snode, updM]
  · intro j hj
    simp [updM, hj]
structure Sto (w : World) (B g c : Nat) (st : List SK) (ka : Nat → Option Addr × Nat) (lk : Nat → Option Nat) (mk : Nat → Int) : Prop where
  own : w.ownsRow B 132 6 (.slice (some ⟨g, 0, none⟩) st.length c) st.length (scells st ka lk mk)
  kids : ∀ i, ∀ k (h : k < (sk st i).kids.length), ∃ b o, (ka i).1 = some ⟨b, o, none⟩ ∧ b ≠ g ∧ w.cell? ⟨b, o + k, none⟩ = some (.int .i64 ((sk st i).kids[k] : Int))
theorem Sto.block {w : World} {B g c : Nat} {st : List SK} {ka : Nat → Option Addr × Nat} {lk : Nat → Option Nat} {mk : Nat → Int} (h : Sto w B g c st ka lk mk) : B ≤ g ∧ g < w.heap.size := owns_block h.own
theorem Sto.but {S : Nat → Prop} {w w' : World} {B g c : Nat} {st : List SK} {ka : Nat → Option Addr × Nat} {lk : Nat → Option Nat} {mk : Nat → Int} (h : Sto w B g c st ka lk mk) (hb : But S w w') (hg : ¬ S g) (hk : ∀ q, S q → q = g) : Sto w' B g c st ka lk mk := by
  refine ⟨owns_but h.own hb hg, ?_⟩
  intro i k hk1
  obtain ⟨b, o, e1, e2, e3⟩ := h.kids i k hk1
  refine ⟨b, o, e1, e2, ?_⟩
  have hlt : b < w.heap.size := lt_of_cell e3
  have h9 := hb.block b hlt (fun hs => e2 (hk b hs))
  unfold World.cell? at e3 ⊢
  rw [h9]
  exact e3
theorem Sto.below {w w' : World} {B g c : Nat} {st : List SK} {ka : Nat → Option Addr × Nat} {lk : Nat → Option Nat} {mk : Nat → Int} (h : Sto w B g c st ka lk mk) (hb : Below w.heap.size w w') : Sto w' B g c st ka lk mk :=
  h.but (S := fun _ => False) (But.ofBelow hb) (fun h => h) (fun _ h => h.elim)
theorem Sto.cell {w : World} {B g c : Nat} {st : List SK} {ka : Nat → Option Addr × Nat} {lk : Nat → Option Nat} {mk : Nat → Int} (h : Sto w B g c st ka lk mk) (i t : Nat) (hi : i < st.length) (ht : t < 6) : w.cell? ⟨g, i * 6 + t, none⟩ = (snode (sk st i) (ka i) (lk i) (mk i))[t]? := by
  rw [owns_at h.own _ (by omega), scells_get st ka lk mk i t hi ht]
theorem Sto.frozen {w : World} {B g c : Nat} {st : List SK} {ka : Nat → Option Addr × Nat} {lk : Nat → Option Nat} {mk : Nat → Int} (h : Sto w B g c st ka lk mk) (j : Nat) : w.frozen? ⟨g, j, none⟩ = false := h.own.frozenAt j
theorem Sto.setLink {w : World} {B g c : Nat} {st : List SK} {ka : Nat → Option Addr × Nat} {lk : Nat → Option Nat} {mk : Nat → Int} (h : Sto w B g c st ka lk mk) (a b : Nat) (ha : a < st.length) : Sto (w.setCell ⟨g, a * 6 + 4, none⟩ (.int .i64 (b : Int))) B g c st ka (upd lk a b) mk := by
  refine ⟨?_, ?_⟩
  · have h9 := owns_setOne (v := .int .i64 (b : Int)) h.own (i := a * 6 + 4)
    rw [scells_link st ka lk mk a b ha] at h9
    exact h9
  · intro i k hk
    obtain ⟨b2, o, e1, e2, e3⟩ := h.kids i k hk
    have hb : But (· = g) w (w.setCell ⟨g, a * 6 + 4, none⟩ (.int .i64 (b : Int))) := (But.refl (· = g) w).setCell (p := ⟨g, a * 6 + 4, none⟩) rfl _
    have hlt : b2 < w.heap.size := lt_of_cell e3
    have h9 := hb.block b2 hlt e2
    refine ⟨b2, o, e1, e2, ?_⟩
    unfold World.cell? at e3 ⊢
    rw [h9]
    exact e3
theorem Sto.setMark {w : World} {B g c : Nat} {st : List SK} {ka : Nat → Option Addr × Nat} {lk : Nat → Option Nat} {mk : Nat → Int} (h : Sto w B g c st ka lk mk) (a : Nat) (m : Int) (ha : a < st.length) : Sto (w.setCell ⟨g, a * 6 + 5, none⟩ (.int .i64 m)) B g c st ka lk (updM mk a m) := by
  refine ⟨?_, ?_⟩
  · have h9 := owns_setOne (v := .int .i64 m) h.own (i := a * 6 + 5)
    rw [scells_mark st ka lk mk a m ha] at h9
    exact h9
  · intro i k hk
    obtain ⟨b2, o, e1, e2, e3⟩ := h.kids i k hk
    have hb : But (· = g) w (w.setCell ⟨g, a * 6 + 5, none⟩ (.int .i64 m)) := (But.refl (· = g) w).setCell (p := ⟨g, a * 6 + 5, none⟩) rfl _
    have hlt : b2 < w.heap.size := lt_of_cell e3
    have h9 := hb.block b2 hlt e2
    refine ⟨b2, o, e1, e2, ?_⟩
    unfold World.cell? at e3 ⊢
    rw [h9]
    exact e3
end Go.Proofs.YtoiiibplkhedcaaGreatDoor

namespace Go.Proofs.YtoiiibplkhedcaaGreatDoor
open Go.RowKit
theorem insR_mem (x z : Int × Int) (l : List (Int × Int)) : z ∈ insR x l ↔ z = x ∨ z ∈ l := by
  induction l with
  | nil => simp [insR]
  | cons y ys ih =>
    unfold insR
    split
    · simp only [List.mem_cons, ih]
      constructor
      · rintro (h | h | h)
        · exact Or.inr (Or.inl h)
        · exact Or.inl h
        · exact Or.inr (Or.inr h)
      · rintro (h | h | h)
        · exact Or.inr (Or.inl h)
        · exact Or.inl h
        · exact Or.inr (Or.inr h)
    · simp only [List.mem_cons]
theorem insR_down (x : Int × Int) (l : List (Int × Int)) (h : l.Pairwise (fun a b => b.1 < a.1)) (hx : ∀ y ∈ l, y.1 ≠ x.1) : (insR x l).Pairwise (fun a b => b.1 < a.1) := by
  induction l with
  | nil => simp [insR]
  | cons y ys ih =>
    obtain ⟨h1, h2⟩ := List.pairwise_cons.1 h
    unfold insR
    split
    · rename_i hlt
      refine List.pairwise_cons.2 ⟨?_, ih h2 (fun z hz => hx z (List.mem_cons_of_mem _ hz))⟩
      intro z hz
      rcases (insR_mem x z ys).1 hz with rfl | hz
      · exact hlt
      · exact h1 z hz
    · rename_i hge
      have hy := hx y (List.mem_cons_self ..)
      refine List.pairwise_cons.2 ⟨?_, h⟩
      intro z hz
      rcases List.mem_cons.1 hz with rfl | hz
      · omega
      · have := h1 z hz
        omega
theorem insM_mem (out : List (Int × Int)) (x z : Int × Int) : z ∈ insM out x ↔ z = x ∨ z ∈ out := by simp [insM, insR_mem]
theorem insM_up (out : List (Int × Int)) (x : Int × Int) (h : out.Pairwise (fun a b => a.1 < b.1)) (hx : ∀ y ∈ out, y.1 ≠ x.1) : (insM out x).Pairwise (fun a b => a.1 < b.1) := by
  unfold insM
  rw [List.pairwise_reverse]
  exact insR_down x _ (List.pairwise_reverse.2 h) (fun y hy => hx y (List.mem_reverse.1 hy))
theorem sorted_up (ms out : List (Int × Int)) (h : out.Pairwise (fun a b => a.1 < b.1)) (hd : ms.Pairwise (fun a b => a.1 ≠ b.1)) (hx : ∀ a ∈ out, ∀ b ∈ ms, a.1 ≠ b.1) :
    (ms.foldl insM out).Pairwise (fun a b => a.1 < b.1) ∧ ∀ z, z ∈ ms.foldl insM out ↔ z ∈ out ∨ z ∈ ms := by
  induction ms generalizing out with
  | nil => exact ⟨h, fun z => by simp⟩
  | cons m ms ih =>
    obtain ⟨h1, h2⟩ := List.pairwise_cons.1 hd
    rw [List.foldl_cons]
    obtain ⟨h3, h4⟩ := ih (insM out m) (insM_up out m h (fun y hy => hx y hy m (List.mem_cons_self ..))) h2 (by
      intro a ha b hb
      rcases (insM_mem out m a).1 ha with rfl | ha
      · exact h1 b hb
      · exact hx a ha b (List.mem_cons_of_mem _ hb))
    refine ⟨h3, fun z => ?_⟩
    rw [h4, insM_mem, List.mem_cons]
    constructor
    · rintro ((h | h) | h)
      · exact Or.inr (Or.inl h)
      · exact Or.inl h
      · exact Or.inr (Or.inr h)
    · rintro (h | h | h)
      · exact Or.inl (Or.inr h)
      · exact Or.inl (Or.inl h)
      · exact Or.inr h
theorem known_neg (ms : List (Int × Int)) (x : Int) : knownIn ms x < 0 ↔ ∀ p ∈ ms, p.1 ≠ x := by
  unfold knownIn
  constructor
  · intro h p hp e
    have h9 : placeIn (ms.map Prod.fst) x < ms.length := by
      have h8 : (ms.map Prod.fst).findIdx (· == x) < (ms.map Prod.fst).length := List.findIdx_lt_length_of_exists ⟨p.1, List.mem_map_of_mem hp, by simp [e]⟩
      simpa [placeIn] using h8
    rw [if_pos h9] at h
    omega
  · intro h
    have h9 := placeIn_none (met := ms.map Prod.fst) (x := x) (fun i hi => by
      rw [List.getElem_map]
      exact h _ (List.getElem_mem _))
    rw [h9, if_neg (by simp)]
    decide
end Go.Proofs.YtoiiibplkhedcaaGreatDoor

namespace Go.Proofs.YtoiiibplkhedcaaGreatDoor
/-! A store grows by a node; what it says of the old ones stays. -/
theorem sk_push_old {st : List SK} {x : SK} {i : Nat} (h : i < st.length) : sk (st ++ [x]) i = sk st i := by
  unfold sk
  rw [List.getElem?_append_left h]
theorem sk_push_new (st : List SK) (x : SK) : sk (st ++ [x]) st.length = x := by
  unfold sk
  simp
theorem sk_push (st : List SK) (x : SK) (i : Nat) : (i < st.length ∧ sk (st ++ [x]) i = sk st i) ∨ (i = st.length ∧ sk (st ++ [x]) i = x) ∨ (st.length < i ∧ sk (st ++ [x]) i = SK.none) := by
  rcases Nat.lt_trichotomy i st.length with h | h | h
  · exact .inl ⟨h, sk_push_old h⟩
  · subst h
    exact .inr (.inl ⟨rfl, sk_push_new _ _⟩)
  · exact .inr (.inr ⟨h, sk_out (by simp; omega)⟩)
structure FitsIn (st : List SK) (x : SK) : Prop where
  kids : ∀ k ∈ x.kids, k < st.length
  leaf : x.kind = 61 → x.kids = []
  one : x.kind = 61 → ∀ i, i < st.length → (sk st i).kind = 61 → (sk st i).num ≠ x.num
  plain : x.node.plainb = true
  few : x.kids.length ≤ 6000
theorem Sts.push {st : List SK} {x : SK} (hs : Sts st) (hx : FitsIn st x) : Sts (st ++ [x]) := by
  refine ⟨fun i k hk => ?_, fun i h => ?_, fun i j hi hj h1 h2 h3 => ?_, fun i hi => ?_, fun i => ?_⟩
  · rcases sk_push st x i with ⟨_, e⟩ | ⟨e1, e⟩ | ⟨_, e⟩
    · rw [e] at hk; exact hs.kids i k hk
    · rw [e] at hk; rw [e1]; exact hx.kids k hk
    · rw [e] at hk; simp [SK.none] at hk
  · rcases sk_push st x i with ⟨_, e⟩ | ⟨_, e⟩ | ⟨_, e⟩
    · rw [e] at h ⊢; exact hs.leaf i h
    · rw [e] at h ⊢; exact hx.leaf h
    · rw [e]; rfl
  · simp only [List.length_append, List.length_singleton] at hi hj
    rcases sk_push st x i with ⟨a1, e⟩ | ⟨a1, e⟩ | ⟨a1, e⟩ <;> rcases sk_push st x j with ⟨b1, e'⟩ | ⟨b1, e'⟩ | ⟨b1, e'⟩ <;> rw [e] at h1 h3 <;> rw [e'] at h2 h3
    · exact hs.one i j a1 b1 h1 h2 h3
    · exact absurd h3 (hx.one h2 i a1 h1)
    · omega
    · exact absurd h3.symm (hx.one h1 j b1 h2)
    · omega
    all_goals omega
  · simp only [List.length_append, List.length_singleton] at hi
    rcases sk_push st x i with ⟨a1, e⟩ | ⟨a1, e⟩ | ⟨a1, e⟩
    · rw [e]; exact hs.plain i a1
    · rw [e]; exact hx.plain
    · omega
  · rcases sk_push st x i with ⟨a1, e⟩ | ⟨a1, e⟩ | ⟨a1, e⟩
    · rw [e]; exact hs.few i
    · rw [e]; exact hx.few
    · rw [e]; simp [SK.none]
theorem T_push {st : List SK} {x : SK} (hs : Sts st) (hx : FitsIn st x) (θ : Int → List Nd) : ∀ i, i < st.length → T θ (st ++ [x]) i = T θ st i := by
  intro i
  induction i using Nat.strongRecOn with
  | ind i ih =>
    intro hi
    have e := sk_push_old (x := x) hi
    by_cases h : (sk st i).kind = 61
    · rw [T_meta θ hs h, T_meta θ (hs.push hx) (by rw [e]; exact h), e]
    · rw [T_node θ hs h, T_node θ (hs.push hx) (by rw [e]; exact h), e]
      congr 1
      exact flatMap_congr (fun k hk => ih k (hs.kids i k hk) (Nat.lt_trans (hs.kids i k hk) hi))
theorem le_sum (r : Nat → Nat) {l : List Nat} {k : Nat} (h : k ∈ l) : r k ≤ (l.map r).sum := by
  induction l with
  | nil => simp at h
  | cons a l ih =>
    simp only [List.map_cons, List.sum_cons]
    rcases List.mem_cons.1 h with rfl | h
    · omega
    · have := ih h
      omega
theorem Inv.push {st : List SK} {x : SK} {lk : Nat → Option Nat} (hs : Sts st) (hx : FitsIn st x) (h : Inv st lk) : Inv (st ++ [x]) lk := by
  refine ⟨?_, fun i j e => ?_, fun i j e => ?_, fun i j e => ?_⟩
  · obtain ⟨r, hr⟩ := h.rank
    refine ⟨fun i => if i = st.length then 1 + (x.kids.map r).sum else r i, fun i j e => ?_, fun i hi k hk => ?_⟩
    · obtain ⟨h1, h2⟩ := h.rng i j e
      simp only [show i ≠ st.length by omega, show j ≠ st.length by omega, if_false]
      exact hr.link i j e
    · rcases sk_push st x i with ⟨a1, e⟩ | ⟨a1, e⟩ | ⟨a1, e⟩
      · rw [e] at hk
        have h1 := hs.kids i k hk
        simp only [show i ≠ st.length by omega, show k ≠ st.length by omega, if_false]
        exact hr.kid i hi k hk
      · rw [e] at hk
        have h1 := hx.kids k hk
        simp only [a1, show k ≠ st.length by omega, if_false, if_true]
        have := le_sum r hk
        omega
      · rw [e] at hk
        simp [SK.none] at hk
  · obtain ⟨h1, h2⟩ := h.rng i j e
    simp only [List.length_append, List.length_singleton]
    omega
  · obtain ⟨h1, h2⟩ := h.rng i j e
    rw [sk_push_old h1, sk_push_old h2]
    exact h.cong i j e
  · obtain ⟨h1, h2⟩ := h.rng i j e
    rw [sk_push_old h1, sk_push_old h2]
    exact h.low i j e
theorem unl_push (st : List SK) (x : SK) (lk : Nat → Option Nat) : unl (st ++ [x]) lk ≤ unl st lk + 1 := by
  unfold unl
  rw [List.length_append, List.length_singleton, List.range_succ, List.filter_append, List.length_append]
  have h1 : (List.range st.length).filter (fun i => (sk (st ++ [x]) i).kind == 61 && (lk i).isNone) = (List.range st.length).filter (fun i => (sk st i).kind == 61 && (lk i).isNone) := by
    apply List.filter_congr
    intro i hi
    rw [sk_push_old (List.mem_range.1 hi)]
  rw [h1]
  have h2 := List.length_filter_le (fun i => (sk (st ++ [x]) i).kind == 61 && (lk i).isNone) [st.length]
  simp only [List.length_singleton] at h2
  omega
structure Grown (st st' : List SK) : Prop where
  le : st.length ≤ st'.length
  same : ∀ i, i < st.length → sk st' i = sk st i
  t : ∀ θ i, i < st.length → T θ st' i = T θ st i
  inv : ∀ lk, Inv st lk → Inv st' lk
  unl : ∀ lk, unl st' lk ≤ unl st lk + (st'.length - st.length)
theorem Grown.refl (st : List SK) : Grown st st := ⟨Nat.le_refl _, fun _ _ => rfl, fun _ _ _ => rfl, fun _ h => h, fun _ => by omega⟩
theorem Grown.trans {a b c : List SK} (h : Grown a b) (h' : Grown b c) : Grown a c :=
  ⟨Nat.le_trans h.le h'.le, fun i hi => (h'.same i (Nat.lt_of_lt_of_le hi h.le)).trans (h.same i hi), fun θ i hi => (h'.t θ i (Nat.lt_of_lt_of_le hi h.le)).trans (h.t θ i hi), fun lk hI => h'.inv lk (h.inv lk hI), fun lk => by have := h.unl lk; have := h'.unl lk; have := h.le; have := h'.le; omega⟩
theorem Grown.push {st : List SK} {x : SK} (hs : Sts st) (hx : FitsIn st x) : Grown st (st ++ [x]) :=
  ⟨by simp, fun i hi => sk_push_old hi, fun θ i hi => T_push hs hx θ i hi, fun lk h => h.push hs hx, fun lk => by have := unl_push st x lk; simp only [List.length_append, List.length_singleton]; omega⟩
theorem Grown.sat {st st' : List SK} (h : Grown st st') {lk : Nat → Option Nat} (hr : ∀ i j, lk i = some j → i < st.length ∧ j < st.length) (θ : Int → List Nd) : Sat θ st' lk ↔ Sat θ st lk := by
  constructor
  · intro hs i j e
    obtain ⟨h1, h2⟩ := hr i j e
    rw [← h.t θ i h1, ← h.t θ j h2]
    exact hs i j e
  · intro hs i j e
    obtain ⟨h1, h2⟩ := hr i j e
    rw [h.t θ i h1, h.t θ j h2]
    exact hs i j e
structure MsOk (st : List SK) (ms : List (Int × Nat)) : Prop where
  at' : ∀ p ∈ ms, p.2 < st.length ∧ (sk st p.2).kind = 61 ∧ (sk st p.2).num = p.1
  all : ∀ i, i < st.length → (sk st i).kind = 61 → ((sk st i).num, i) ∈ ms
  nd : (ms.map Prod.fst).Nodup
structure PutS (st0 : List SK) (ms0 : List (Int × Nat)) (ty : List Nd) (ys : List Sp) (k : Nat) (st : List SK) (at' : List Nat) (ms : List (Int × Nat)) : Prop where
  grown : Grown st0 st
  few : st.length ≤ st0.length + k
  sts : Sts st
  msok : MsOk st ms
  len : at'.length = k
  mean : ∀ i s a, i < k → ys[i]? = some s → at'[i]? = some a → a < st.length ∧ ∀ θ, T θ st a = fill θ (span ty s.fr i)
  occ : ∀ x, x ∈ ms.map Prod.fst ↔ x ∈ ms0.map Prod.fst ∨ x ∈ metas (ty.take k)
theorem PutS.start {st0 : List SK} {ms0 : List (Int × Nat)} (hs : Sts st0) (hm : MsOk st0 ms0) (ty : List Nd) (ys : List Sp) : PutS st0 ms0 ty ys 0 st0 [] ms0 :=
  ⟨Grown.refl _, by omega, hs, hm, rfl, fun i s a h => by omega, fun x => by simp [metas]⟩
theorem MsOk.grown {st st' : List SK} {ms : List (Int × Nat)} {x : SK} (h : MsOk st ms) (e : st' = st ++ [x]) (hx : x.kind ≠ 61) : MsOk st' ms := by
  subst e
  refine ⟨fun p hp => ?_, fun i hi hk => ?_, h.nd⟩
  · obtain ⟨h1, h2, h3⟩ := h.at' p hp
    rw [sk_push_old h1]
    exact ⟨by simp; omega, h2, h3⟩
  · rcases sk_push st x i with ⟨a1, e⟩ | ⟨a1, e⟩ | ⟨a1, e⟩
    · rw [e] at hk ⊢; exact h.all i a1 hk
    · rw [e] at hk; exact absurd hk hx
    · rw [e] at hk; simp [SK.none] at hk
theorem span_leaf {ty : List Nd} {S ys : List Sp} {m k : Nat} (h : after ty m = some (S, ys)) (hk : k < m) (hkl : k < ty.length) (h0 : ty[k].kids = 0) {s : Sp} (hs : ys[k]? = some s) : span ty s.fr k = [ty[k]] := by
  obtain ⟨K, hK, hy⟩ := kids_at2 h k hk
  obtain ⟨_, hn⟩ := hK.num
  have hK0 : K = [] := List.eq_nil_of_length_eq_zero (by omega)
  subst hK0
  rw [hs] at hy
  simp only [Option.some.injEq] at hy
  subst hy
  rw [span_snoc ty _ k hkl (by simp [over, frOf])]
  simp [over, frOf]
theorem metas_snoc (ty : List Nd) (k : Nat) (hk : k < ty.length) (x : Int) : x ∈ metas (ty.take (k + 1)) ↔ x ∈ metas (ty.take k) ∨ (ty[k].kind = 61 ∧ x = ty[k].num) := by
  rw [List.take_succ_eq_append_getElem hk, metas_append, List.mem_append]
  by_cases h : ty[k].kind = 61
  · simp [metas, h]
  · simp [metas, h]
section
variable {st0 st : List SK} {ms0 ms : List (Int × Nat)} {ty : List Nd} {ys S : List Sp} {k m : Nat} {at' : List Nat}
theorem PutS.known (h : PutS st0 ms0 ty ys k st at' ms) (ha : after ty m = some (S, ys)) (hk : k < m) (hkl : k < ty.length) (h61 : ty[k].kind = 61) (h0 : ty[k].kids = 0) {j : Nat} (hj : (ty[k].num, j) ∈ ms) : PutS st0 ms0 ty ys (k + 1) st (at' ++ [j]) ms := by
  obtain ⟨j1, j2, j3⟩ := h.msok.at' _ hj
  simp only at j1 j2 j3
  refine ⟨h.grown, by have := h.few; omega, h.sts, h.msok, by simp [h.len], fun i s a hi hs e => ?_, fun x => ?_⟩
  · by_cases hik : i < k
    · rw [List.getElem?_append_left (by rw [h.len]; exact hik)] at e
      exact h.mean i s a hik hs e
    · obtain rfl : i = k := by omega
      rw [List.getElem?_append_right (by rw [h.len]; omega), h.len, Nat.sub_self] at e
      simp only [List.getElem?_cons_zero, Option.some.injEq] at e
      subst e
      refine ⟨j1, fun θ => ?_⟩
      rw [T_meta θ h.sts j2, j3, span_leaf ha hk hkl h0 hs]
      simp [fill, fillN, h61]
  · rw [h.occ x, metas_snoc ty k hkl]
    have hx : ty[k].num ∈ ms.map Prod.fst := List.mem_map.2 ⟨_, hj, rfl⟩
    rw [h.occ] at hx
    constructor
    · rintro (h1 | h1)
      · exact .inl h1
      · exact .inr (.inl h1)
    · rintro (h1 | h1 | ⟨_, rfl⟩)
      · exact .inl h1
      · exact .inr h1
      · exact hx
theorem PutS.mean_old (h : PutS st0 ms0 ty ys k st at' ms) {x : SK} (hx : FitsIn st x) {i a : Nat} {s : Sp} (hik : i < k) (hs : ys[i]? = some s) (e : at'[i]? = some a) : a < (st ++ [x]).length ∧ ∀ θ, T θ (st ++ [x]) a = fill θ (span ty s.fr i) := by
  obtain ⟨h1, h2⟩ := h.mean i s a hik hs e
  refine ⟨by simp; omega, fun θ => ?_⟩
  rw [T_push h.sts hx θ a h1]
  exact h2 θ
theorem PutS.fresh (h : PutS st0 ms0 ty ys k st at' ms) (ha : after ty m = some (S, ys)) (hk : k < m) (hkl : k < ty.length) (hp : ty[k].plainb = true) (h61 : ty[k].kind = 61) (h0 : ty[k].kids = 0) (hj : ∀ p ∈ ms, p.1 ≠ ty[k].num) : PutS st0 ms0 ty ys (k + 1) (st ++ [⟨61, ty[k].num, ByteArray.empty, []⟩]) (at' ++ [st.length]) (ms ++ [(ty[k].num, st.length)]) := by
  have hx : FitsIn st ⟨61, ty[k].num, ByteArray.empty, []⟩ := by
    refine ⟨fun k hk => by simp at hk, fun _ => rfl, fun _ i hi hki e => ?_, ?_, by simp⟩
    · exact hj _ (h.msok.all i hi hki) e
    · have e := plain_meta hp h61
      rw [e] at hp
      exact hp
  have hnew := sk_push_new st ⟨61, ty[k].num, ByteArray.empty, []⟩
  refine ⟨h.grown.trans (Grown.push h.sts hx), by have := h.few; simp; omega, h.sts.push hx, ⟨fun p hp => ?_, fun i hi hki => ?_, ?_⟩, by simp [h.len], fun i s a hi hs e => ?_, fun x => ?_⟩
  · rcases List.mem_append.1 hp with hp | hp
    · obtain ⟨h1, h2, h3⟩ := h.msok.at' p hp
      rw [sk_push_old h1]
      exact ⟨by simp; omega, h2, h3⟩
    · simp only [List.mem_singleton] at hp
      subst hp
      simp only
      rw [hnew]
      exact ⟨by simp, rfl, rfl⟩
  · rcases sk_push st ⟨61, ty[k].num, ByteArray.empty, []⟩ i with ⟨a1, e⟩ | ⟨a1, e⟩ | ⟨a1, e⟩
    · rw [e] at hki ⊢
      exact List.mem_append_left _ (h.msok.all i a1 hki)
    · rw [e]
      simp [a1]
    · rw [e] at hki
      simp [SK.none] at hki
  · rw [List.map_append, List.nodup_append]
    refine ⟨h.msok.nd, by simp, fun a ha b hb => ?_⟩
    simp only [List.map_cons, List.map_nil, List.mem_singleton] at hb
    obtain ⟨p, hp, rfl⟩ := List.mem_map.1 ha
    rw [hb]
    exact hj p hp
  · by_cases hik : i < k
    · rw [List.getElem?_append_left (by rw [h.len]; exact hik)] at e
      exact h.mean_old hx hik hs e
    · obtain rfl : i = k := by omega
      rw [List.getElem?_append_right (by rw [h.len]; omega), h.len, Nat.sub_self] at e
      simp only [List.getElem?_cons_zero, Option.some.injEq] at e
      subst e
      refine ⟨by simp, fun θ => ?_⟩
      rw [T_meta θ (h.sts.push hx) (by rw [hnew]), hnew, span_leaf ha hk hkl h0 hs]
      simp [fill, fillN, h61]
  · rw [metas_snoc ty k hkl, List.map_append, List.mem_append, h.occ x]
    simp only [List.map_cons, List.map_nil, List.mem_singleton, h61, true_and]
    constructor
    · rintro ((h1 | h1) | h1)
      · exact .inl h1
      · exact .inr (.inl h1)
      · exact .inr (.inr h1)
    · rintro (h1 | h1 | h1)
      · exact .inl (.inl h1)
      · exact .inl (.inr h1)
      · exact .inr h1
theorem PutS.node (h : PutS st0 ms0 ty ys k st at' ms) (hkl : k < ty.length) (hp : ty[k].plainb = true) (h61 : ty[k].kind ≠ 61) (h6 : k ≤ 6000) {K : List Sp} (hK : KidsAt ty ys k K) (hy : ys[k]? = some (over K k)) {ks : List Nat} (hks : ks.length = K.length) (hka : ∀ r (h1 : r < K.length) (h2 : r < ks.length), at'[K[r].rt]? = some ks[r]) :
    PutS st0 ms0 ty ys (k + 1) (st ++ [⟨ty[k].kind, ty[k].num, ty[k].text, ks⟩]) (at' ++ [st.length]) ms := by
  obtain ⟨_, hn⟩ := hK.num
  have hnode : (⟨ty[k].kind, ty[k].num, ty[k].text, ks⟩ : SK).node = ty[k] := by
    have hpl := plain_place hp
    generalize ty[k] = q at *
    obtain ⟨kd, nm, tx, kc, pl⟩ := q
    simp only at hn hpl
    simp [SK.node, hpl, hn, hks]
  have hkm : ∀ r (h1 : r < K.length) (h2 : r < ks.length), ks[r] < st.length ∧ ∀ θ, T θ st ks[r] = fill θ (span ty K[r].fr K[r].rt) := by
    intro r h1 h2
    obtain ⟨m1, m2, m3⟩ := hK.mem r h1
    exact h.mean K[r].rt K[r] ks[r] m3 m1 (hka r h1 h2)
  have hx : FitsIn st ⟨ty[k].kind, ty[k].num, ty[k].text, ks⟩ := by
    refine ⟨fun q hq => ?_, fun e => absurd e h61, fun e => absurd e h61, by rw [hnode]; exact hp, by have := hK.len; simp only; omega⟩
    obtain ⟨r, hr, rfl⟩ := List.getElem_of_mem hq
    exact (hkm r (by simp only at hr; omega) hr).1
  have hnew := sk_push_new st ⟨ty[k].kind, ty[k].num, ty[k].text, ks⟩
  refine ⟨h.grown.trans (Grown.push h.sts hx), by have := h.few; simp; omega, h.sts.push hx, h.msok.grown rfl h61, by simp [h.len], fun i s a hi hs e => ?_, fun x => ?_⟩
  · by_cases hik : i < k
    · rw [List.getElem?_append_left (by rw [h.len]; exact hik)] at e
      exact h.mean_old hx hik hs e
    · obtain rfl : i = k := by omega
      rw [List.getElem?_append_right (by rw [h.len]; omega), h.len, Nat.sub_self] at e
      simp only [List.getElem?_cons_zero, Option.some.injEq] at e
      subst e
      refine ⟨by simp, fun θ => ?_⟩
      rw [hy] at hs
      simp only [Option.some.injEq] at hs
      subst hs
      have hcon := kids_con hK
      rw [T_node θ (h.sts.push hx) (by rw [hnew]; exact h61), hnew, hnode, span_snoc ty _ i hkl (by have := hcon.le; exact this), fill_append]
      have e1 : ks.flatMap (T θ (st ++ [⟨ty[i].kind, ty[i].num, ty[i].text, ks⟩])) = ((kidsIn ty K).map (fill θ)).flatten := by
        rw [List.flatMap_def]
        congr 1
        apply List.ext_getElem
        · simp [kidsIn, hks]
        · intro r r1 r2
          simp only [List.length_map] at r1
          have r3 : r < K.length := by omega
          simp only [List.getElem_map, kidsIn]
          obtain ⟨q1, q2⟩ := hkm r r3 r1
          rw [T_push h.sts hx θ _ q1, q2 θ]
      simp only
      rw [e1, ← fill_flatten, con_flat hcon (by omega)]
      congr 1
      simp [fill, fillN, h61]
  · rw [h.occ x, metas_snoc ty k hkl]
    simp [h61]
end
end Go.Proofs.YtoiiibplkhedcaaGreatDoor

namespace Go.Proofs.YtoiiibplkhedcaaGreatDoor
theorem D_plain {st : List SK} (hs : Sts st) {lk : Nat → Option Nat} {r : Nat → Nat} (hr : Ranked st lk r) (hg : ∀ i j, lk i = some j → i < st.length ∧ j < st.length) {D : Nat → List Nd} (hD : IsD st lk D) : ∀ i, i < st.length → ∀ y ∈ D i, y.plainb = true := by
  intro i
  induction hn : r i using Nat.strongRecOn generalizing i with
  | ind n ih =>
    intro hi
    cases hl : lk i with
    | some j => rw [hD.link hl]; exact ih (r j) (by have := hr.link i j hl; omega) j rfl (hg i j hl).2
    | none =>
      rw [hD.node hl]
      intro y hy
      rcases List.mem_append.1 hy with hy | hy
      · obtain ⟨k, hk, hy⟩ := List.mem_flatMap.1 hy
        exact ih (r k) (by have := hr.kid i hl k hk; omega) k rfl (Nat.lt_trans (hs.kids i k hk) hi) y hy
      · simp only [List.mem_singleton] at hy
        subst hy
        exact hs.plain i hi
theorem Rt.low {st : List SK} {lk : Nat → Option Nat} (hI : Inv st lk) {i r : Nat} (h : Rt lk i r) : (sk st r).kind = 61 → (sk st i).kind = 61 ∧ (sk st r).num ≤ (sk st i).num := by
  induction h with
  | root _ => exact fun h => ⟨h, Int.le_refl _⟩
  | @step i j r h1 _ ih =>
    intro hk
    obtain ⟨a1, a2⟩ := ih hk
    by_cases hi : (sk st i).kind = 61
    · have := hI.low i j h1 hi a1
      exact ⟨hi, by omega⟩
    · exact absurd a1 (hI.cong i j h1 hi).1
theorem meta_plain (x : Int) (h : 1 ≤ x) : (metaN x).plainb = true := by simp [Nd.plainb, metaN, h]
theorem solve_ok {st : List SK} (hs : Sts st) {lk : Nat → Option Nat} (hI : Inv st lk) {D : Nat → List Nd} (hD : IsD st lk D) {ps : List (List Nd × List Nd)} (hsat : ∀ θ, (∀ x, One (θ x)) → (Sat θ st lk ↔ Solves θ ps)) : SolveOk ps (fillD st D) := by
  obtain ⟨r, hr⟩ := hI.rank
  refine ⟨fillD_one hr hD, fun x hx1 => ?_, (hsat _ (fillD_one hr hD)).1 (D_sat hs hI hD), fun θ hθ hsol x => ?_, fun x y e => ?_⟩
  · unfold fillD
    split
    · rename_i hx
      exact List.all_eq_true.2 (D_plain hs hr hI.rng hD _ (Classical.choose_spec hx).1)
    · have := meta_plain x hx1
      simpa [metaN] using this
  · by_cases hx : ∃ i, i < st.length ∧ (sk st i).kind = 61 ∧ (sk st i).num = x
    · obtain ⟨i, hi, hk, rfl⟩ := hx
      rw [fillD_at hs D hi hk, ← D_general hs hr hD ((hsat θ hθ).2 hsol) i, T_meta θ hs hk]
    · unfold fillD
      rw [dif_neg hx]
      simp [fill, fillN]
  · by_cases hx : ∃ i, i < st.length ∧ (sk st i).kind = 61 ∧ (sk st i).num = x
    · obtain ⟨i, hi, hk, rfl⟩ := hx
      rw [fillD_at hs D hi hk] at e
      obtain ⟨q, hq⟩ := hr.rt i
      rw [hD.rt hq, hD.node hq.is_root] at e
      have e2 := congrArg List.getLast? e
      simp only [List.getLast?_append, List.getLast?_singleton, Option.some_or, Option.some.injEq] at e2
      have k1 : (sk st q).kind = 61 := congrArg Nd.kind e2
      have k2 : (sk st q).num = y := congrArg Nd.num e2
      rw [← k2]
      exact (hq.low hI k1).2
    · unfold fillD at e
      rw [dif_neg hx] at e
      have := metaN_inj (x := x) (y := y) e
      omega
structure LoopS (ps : List (List Nd × List Nd)) (i : Nat) (st : List SK) (lk : Nat → Option Nat) (ms : List (Int × Nat)) : Prop where
  sts : Sts st
  inv : Inv st lk
  msok : MsOk st ms
  sat : ∀ θ, (∀ x, One (θ x)) → (Sat θ st lk ↔ Solves θ (ps.take i))
  occ : ∀ x, x ∈ ms.map Prod.fst ↔ Occ (ps.take i) x
  few : st.length ≤ ((ps.take i).map fun p => p.1.length + p.2.length).sum
theorem sts_nil : Sts [] := ⟨fun i k hk => by simp [sk, SK.none] at hk, fun i h => by simp [sk, SK.none] at h, fun i j hi => by simp at hi, fun i hi => by simp at hi, fun i => by simp [sk, SK.none]⟩
theorem inv_nil : Inv [] (fun _ => none) := ⟨⟨fun _ => 0, fun i j e => by simp at e, fun i _ k hk => by simp [sk, SK.none] at hk⟩, fun i j e => by simp at e, fun i j e => by simp at e, fun i j e => by simp at e⟩
theorem LoopS.start (ps : List (List Nd × List Nd)) : LoopS ps 0 [] (fun _ => none) [] :=
  ⟨sts_nil, inv_nil, ⟨fun p hp => by simp at hp, fun i hi => by simp at hi, by simp⟩, fun θ _ => ⟨fun _ p hp => by simp at hp, fun _ i j e => by simp at e⟩, fun x => by simp [Occ], by simp⟩
structure TwoPut (A B : List Nd) (st : List SK) (ms : List (Int × Nat)) (st' : List SK) (a b : Nat) (ms' : List (Int × Nat)) : Prop where
  grown : Grown st st'
  sts : Sts st'
  msok : MsOk st' ms'
  ina : a < st'.length ∧ ∀ θ, T θ st' a = fill θ A
  inb : b < st'.length ∧ ∀ θ, T θ st' b = fill θ B
  occ : ∀ x, x ∈ ms'.map Prod.fst ↔ x ∈ ms.map Prod.fst ∨ x ∈ metas A ∨ x ∈ metas B
  few : st'.length ≤ st.length + A.length + B.length
theorem occ_next {ps : List (List Nd × List Nd)} {i : Nat} (hi : i < ps.length) (x : Int) : Occ (ps.take (i + 1)) x ↔ Occ (ps.take i) x ∨ x ∈ metas ps[i].1 ∨ x ∈ metas ps[i].2 := by
  rw [List.take_succ_eq_append_getElem hi]
  constructor
  · rintro ⟨p, hp, h⟩
    rcases List.mem_append.1 hp with hp | hp
    · exact .inl ⟨p, hp, h⟩
    · simp only [List.mem_singleton] at hp
      subst hp
      exact .inr h
  · rintro (⟨p, hp, h⟩ | h)
    · exact ⟨p, List.mem_append_left _ hp, h⟩
    · exact ⟨ps[i], List.mem_append_right _ (List.mem_singleton.2 rfl), h⟩
theorem solves_next {θ : Int → List Nd} {ps : List (List Nd × List Nd)} {i : Nat} (hi : i < ps.length) : Solves θ (ps.take (i + 1)) ↔ Solves θ (ps.take i) ∧ fill θ ps[i].1 = fill θ ps[i].2 := by
  rw [List.take_succ_eq_append_getElem hi]
  constructor
  · intro h
    exact ⟨fun p hp => h p (List.mem_append_left _ hp), h ps[i] (List.mem_append_right _ (List.mem_singleton.2 rfl))⟩
  · rintro ⟨h1, h2⟩ p hp
    rcases List.mem_append.1 hp with hp | hp
    · exact h1 p hp
    · simp only [List.mem_singleton] at hp
      subst hp
      exact h2
theorem LoopS.next {ps : List (List Nd × List Nd)} {i : Nat} {st st' : List SK} {lk lk' : Nat → Option Nat} {ms ms' : List (Int × Nat)} {a b : Nat} (h : LoopS ps i st lk ms) (hi : i < ps.length) (h2 : TwoPut ps[i].1 ps[i].2 st ms st' a b ms') (hu : UOk st' lk a b lk') : LoopS ps (i + 1) st' lk' ms' := by
  refine ⟨h2.sts, hu.inv, h2.msok, fun θ hθ => ?_, fun x => ?_, ?_⟩
  · rw [hu.sat θ hθ, solves_next hi, h2.grown.sat h.inv.rng θ, h.sat θ hθ, h2.ina.2 θ, h2.inb.2 θ]
  · rw [h2.occ x, h.occ x, occ_next hi]
  · have h3 := h.few
    have h4 := h2.few
    rw [List.take_succ_eq_append_getElem hi, List.map_append, List.sum_append]
    simp only [List.map_cons, List.map_nil, List.sum_cons, List.sum_nil]
    omega
theorem LoopS.no {ps : List (List Nd × List Nd)} {i : Nat} {st st' : List SK} {lk : Nat → Option Nat} {ms ms' : List (Int × Nat)} {a b : Nat} (h : LoopS ps i st lk ms) (hv : Valid ps) (hi : i < ps.length) (h2 : TwoPut ps[i].1 ps[i].2 st ms st' a b ms') (hu : UNo st' lk a b) : SolveRes ps false i [] := by
  refine .no i hv hi ?_ (fun θ hθ hsol => ?_)
  · obtain ⟨r, hr⟩ := h.inv.rank
    obtain ⟨D, hD⟩ := hr.exists_D
    exact ⟨fillD st D, fillD_one hr hD, (h.sat _ (fillD_one hr hD)).1 (D_sat h.sts h.inv hD)⟩
  · obtain ⟨h3, h4⟩ := (solves_next hi).1 hsol
    refine hu θ hθ ((h2.grown.sat h.inv.rng θ).2 ((h.sat θ hθ).2 h3)) ?_
    rw [h2.ina.2 θ, h2.inb.2 θ]
    exact h4
theorem LoopS.done {ps : List (List Nd × List Nd)} {st : List SK} {lk : Nat → Option Nat} {ms : List (Int × Nat)} (h : LoopS ps ps.length st lk ms) {D : Nat → List Nd} (hD : IsD st lk D) : SolveOk ps (fillD st D) ∧ (∀ p ∈ ms, fillD st D p.1 = D p.2) ∧ ∀ x, x ∈ ms.map Prod.fst ↔ Occ ps x := by
  have e : ps.take ps.length = ps := List.take_of_length_le (Nat.le_refl _)
  refine ⟨solve_ok h.sts h.inv hD (fun θ hθ => by rw [h.sat θ hθ, e]), fun p hp => ?_, fun x => by rw [h.occ x, e]⟩
  obtain ⟨h1, h2, h3⟩ := h.msok.at' p hp
  rw [← h3]
  exact fillD_at h.sts D h1 h2
theorem put_two {A B : List Nd} {st stA stB : List SK} {ms msA msB : List (Int × Nat)} {yA yB : List Sp} {mA mB : Nat} {aA aB : List Nat} {a b : Nat} (hA : A.length = mA) (hB : B.length = mB) (hpA : PutS st ms A yA mA stA aA msA) (hpB : PutS stA msA B yB mB stB aB msB) (tA : ∃ s, 0 < mA ∧ yA[mA - 1]? = some s ∧ span A s.fr (mA - 1) = A) (tB : ∃ s, 0 < mB ∧ yB[mB - 1]? = some s ∧ span B s.fr (mB - 1) = B) (ha : aA[mA - 1]? = some a) (hb : aB[mB - 1]? = some b) : TwoPut A B st ms stB a b msB := by
  obtain ⟨sA, a0, a1, a2⟩ := tA
  obtain ⟨sB, b0, b1, b2⟩ := tB
  obtain ⟨x1, x2⟩ := hpA.mean (mA - 1) sA a (by omega) a1 ha
  obtain ⟨y1, y2⟩ := hpB.mean (mB - 1) sB b (by omega) b1 hb
  rw [a2] at x2
  rw [b2] at y2
  refine ⟨hpA.grown.trans hpB.grown, hpB.sts, hpB.msok, ⟨Nat.lt_of_lt_of_le x1 hpB.grown.le, fun θ => by rw [hpB.grown.t θ a x1]; exact x2 θ⟩, ⟨y1, y2⟩, fun x => ?_, by have := hpA.few; have := hpB.few; omega⟩
  rw [hpB.occ x, hpA.occ x, List.take_of_length_le (by omega), List.take_of_length_le (by omega), or_assoc]
end Go.Proofs.YtoiiibplkhedcaaGreatDoor

namespace Go.Proofs.YtoiiibplkhedcaaGreatDoor
open Go.RowKit
theorem scells_push {st : List SK} (x : SK) {ka ka' : Nat → Option Addr × Nat} (lk : Nat → Option Nat) {mk mk' : Nat → Int} (h1 : ∀ i, i < st.length → ka' i = ka i) (h2 : ∀ i, i < st.length → mk' i = mk i) : scells (st ++ [x]) ka' lk mk' = scells st ka lk mk ++ snode x (ka' st.length) (lk st.length) (mk' st.length) := by
  unfold scells
  rw [List.length_append, List.length_singleton, List.range_succ, List.flatMap_append]
  congr 1
  · refine flatMap_congr (fun i hi => ?_)
    have hi' := List.mem_range.1 hi
    rw [sk_push_old hi', h1 i hi', h2 i hi']
  · simp [sk_push_new]
structure StoV (w : World) (B : Nat) (ao : Option Addr) (c : Nat) (st : List SK) (ka : Nat → Option Addr × Nat) (lk : Nat → Option Nat) (mk : Nat → Int) : Prop where
  own : w.ownsRow B 132 6 (.slice ao st.length c) st.length (scells st ka lk mk)
  kids : ∀ i, ∀ k (h : k < (sk st i).kids.length), ∃ b o, (ka i).1 = some ⟨b, o, none⟩ ∧ (Value.slice ao st.length c).ownBlock ≠ some b ∧ w.cell? ⟨b, o + k, none⟩ = some (.int .i64 ((sk st i).kids[k] : Int))
theorem Sto.toV {w : World} {B g c : Nat} {st : List SK} {ka : Nat → Option Addr × Nat} {lk : Nat → Option Nat} {mk : Nat → Int} (h : Sto w B g c st ka lk mk) : StoV w B (some ⟨g, 0, none⟩) c st ka lk mk := by
  refine ⟨h.own, fun i k hk => ?_⟩
  obtain ⟨b, o, e1, e2, e3⟩ := h.kids i k hk
  refine ⟨b, o, e1, ?_, e3⟩
  simp only [Value.ownBlock, ne_eq, Option.some.injEq]
  exact fun e => e2 e.symm
theorem StoV.start (w : World) (B : Nat) (ka : Nat → Option Addr × Nat) (mk : Nat → Int) : StoV w B none 0 [] ka (fun _ => none) mk :=
  ⟨⟨rfl, .inl ⟨rfl, rfl⟩⟩, fun i k hk => by simp [sk, SK.none] at hk⟩
theorem own_lt {w : World} {B : Nat} {e : TypeId} {size : Nat} {v : Value} {n : Nat} {xs : List Value} (h : w.ownsRow B e size v n xs) {g : Nat} (hg : v.ownBlock = some g) : g < w.heap.size := by
  rcases h.2 with ⟨rfl, _⟩ | ⟨g2, cap, cur, rfl, hb, hh, _⟩
  · cases hg
  · simp only [Value.ownBlock, Option.some.injEq] at hg
    subst hg
    exact (Array.getElem?_eq_some_iff.1 hh).1
theorem but_drewU {S : Nat → Prop} {w w' : World} (h : But S w w') : But S w w'.drew := ⟨h.os, h.tape, h.output, h.size, h.block⟩
theorem addr0 (g j : Nat) : Addr.add ⟨g, 0, none⟩ j = ⟨g, j, none⟩ := by
  unfold Addr.add
  split
  · simp_all
  · simp
theorem sto_push {w w1 w2 w3 : World} {B : Nat} {ao : Option Addr} {c : Nat} {st : List SK} {ka : Nat → Option Addr × Nat} {lk : Nat → Option Nat} {mk : Nat → Int} (h : StoV w B ao c st ka lk mk) {x : SK} {so : Option Addr} {c0 : Nat} (hlk : lk st.length = none)
    (hk : ∀ k (h : k < x.kids.length), ∃ b o, so = some ⟨b, o, none⟩ ∧ (Value.slice ao st.length c).ownBlock ≠ some b ∧ w.cell? ⟨b, o + k, none⟩ = some (.int .i64 (x.kids[k] : Int)))
    (hb : Below w.heap.size w w1) {g' c' : Nat} (hown : w2.ownsRow B 132 6 (.slice (some ⟨g', 0, none⟩) (st.length + 1) c') (st.length + 1) (scells st ka lk mk ++ snode x (so, c0) none 0)) (hg : w1.grownBy w2 (Value.slice ao st.length c).ownBlock) (hwh : (Value.slice ao st.length c).ownBlock = some g' ∨ w1.heap.size ≤ g') (hb3 : But (fun i => w.heap.size ≤ i ∧ i < w1.heap.size) w2 w3) :
    Sto w3 B g' c' (st ++ [x]) (fun i => if i = st.length then (so, c0) else ka i) lk (updM mk st.length 0) := by
  have key : ∀ b o v, (Value.slice ao st.length c).ownBlock ≠ some b → w.cell? ⟨b, o, none⟩ = some v → b ≠ g' ∧ w3.cell? ⟨b, o, none⟩ = some v := by
    intro b o v hne hc
    have hlt : b < w.heap.size := lt_of_cell hc
    have hz := hb.size
    refine ⟨fun e => ?_, ?_⟩
    · rcases hwh with h9 | h9
      · rw [e] at hne; exact hne h9
      · omega
    · have h7 := hg.size
      have h8 := (hb3.block b (by omega) (by omega)).trans ((hg.block b (by omega) (fun e => hne e.symm)).trans (hb.block b hlt))
      unfold World.cell? at hc ⊢
      rw [h8]
      exact hc
  have e6 : scells (st ++ [x]) (fun i => if i = st.length then (so, c0) else ka i) lk (updM mk st.length 0) = scells st ka lk mk ++ snode x (so, c0) none 0 := by
    rw [scells_push x lk (ka := ka) (mk := mk) (fun i hi => if_neg (by omega)) (fun i hi => by simp [updM, show i ≠ st.length by omega])]
    simp [updM, hlk]
  refine ⟨?_, fun i k hk' => ?_⟩
  · rw [e6, List.length_append, List.length_singleton]
    refine owns_but hown hb3 ?_
    rintro ⟨h7, h8⟩
    rcases hwh with h9 | h9
    · have := own_lt h.own h9
      omega
    · omega
  · rcases sk_push st x i with ⟨a1, e⟩ | ⟨a1, e⟩ | ⟨a1, e⟩
    · simp only [e] at hk' ⊢
      obtain ⟨b, o, e1, e2, e3⟩ := h.kids i k hk'
      obtain ⟨k1, k2⟩ := key b _ _ e2 e3
      exact ⟨b, o, by rw [if_neg (by omega)]; exact e1, k1, k2⟩
    · simp only [e] at hk' ⊢
      obtain ⟨b, o, e1, e2, e3⟩ := hk k hk'
      obtain ⟨k1, k2⟩ := key b _ _ e2 e3
      exact ⟨b, o, by rw [if_pos a1]; exact e1, k1, k2⟩
    · rw [e] at hk'
      simp [SK.none] at hk'
theorem Tryz.infoSN : (Tryz.prog.info? 132).map (fun i => (i.zero, i.size, i.bytes)) = some (some (.agg #[.int .i64 0, .int .i64 0, .string ByteArray.empty, .slice none 0 0, .int .i64 0, .int .i64 0]), 6, 72) := by kernel_rfl
theorem snode_cells (w : World) (x : SK) (so : Option Addr) (c0 : Nat) : ∀ j u, (snode x (so, c0) none 0)[j]? = some u → (w.alloc (.cells #[.int .i64 x.kind, .int .i64 x.num, .string x.text, .slice so x.kids.length c0, .int .i64 (-1), .int .i64 0] 132)).cell? (Addr.add ⟨w.heap.size, 0, none⟩ j) = some u := by
  intro j u hj
  rw [addr0, cell_of_row _ w.heap.size j _ 132 (0, 0) (heap_alloc_new _ _), ← hj]
  simp [snode, lkv]
theorem snode_one (x : SK) (so : Option Addr) (c0 : Nat) : ∀ u ∈ snode x (so, c0) none 0, u.oneCell' = true := by
  intro u hu
  simp only [snode, List.mem_cons, List.not_mem_nil, or_false] at hu
  rcases hu with rfl | rfl | rfl | rfl | rfl | rfl <;> rfl
set_option maxRecDepth 20000 in
set_option maxHeartbeats 2000000 in
theorem new_any (st : List SK) (n : Nat) (HL : Hid (st.length = n)) (hn : n ≤ 1048576) (ka : Nat → Option Addr × Nat) (lk : Nat → Option Nat) (mk : Nat → Int) (HLK : Hid (lk n = none)) (B : Nat) (ao : Option Addr) (c : Nat) (wk : Int) (w : World) (hS : StoV w B ao c st ka lk mk) (hB : B ≤ w.heap.size) (x : SK) (so : Option Addr) (q c0 : Nat) (HQ : Hid (x.kids.length = q)) (l0 : Int)
    (hk : ∀ k (h : k < x.kids.length), ∃ b o, so = some ⟨b, o, none⟩ ∧ (Value.slice ao n c).ownBlock ≠ some b ∧ w.cell? ⟨b, o + k, none⟩ = some (.int .i64 (x.kids[k] : Int))) :
    Calls Tryz.prog 69 #[.agg #[.slice ao n c, .int .i64 wk], .agg #[.int .i64 x.kind, .int .i64 x.num, .string x.text, .slice so q c0, .int .i64 l0, .int .i64 0]] w fun e w' => ∃ g' c', e = .returned (.tuple #[.agg #[.slice (some ⟨g', 0, none⟩) (n + 1) c', .int .i64 wk], .int .i64 (n : Int)]) ∧ Sto w' B g' c' (st ++ [x]) (fun i => if i = n then (so, c0) else ka i) lk (updM mk n 0) ∧ But (fun i => (Value.slice ao n c).ownBlock = some i) w w' ∧ ((Value.slice ao n c).ownBlock = some g' ∨ w.heap.size ≤ g') := by
  obtain ⟨i0, hi, hz0, hz1, hz2⟩ := info_parts Tryz.infoSN
  have hq := HQ.out
  have hl := HL.out
  subst hl
  subst hq
  have hb4 : Below w.heap.size w ((((w.alloc (.cells #[.slice ao st.length c, .int .i64 wk] 78)).alloc (.cells #[.int .i64 x.kind, .int .i64 x.num, .string x.text, .slice so x.kids.length c0, .int .i64 (-1), .int .i64 0] 132)).alloc (.cells #[.slice none 0 0, .int .i64 0] 78)).alloc (.cells #[.int .i64 x.kind, .int .i64 x.num, .string x.text, .slice so x.kids.length c0, .int .i64 (-1), .int .i64 0] 132)) := ((((Below.refl _ w).alloc (Nat.le_refl _) _).alloc (by simp) _).alloc (by simp; omega) _).alloc (by simp; omega) _
  have hown4 : ((((w.alloc (.cells #[.slice ao st.length c, .int .i64 wk] 78)).alloc (.cells #[.int .i64 x.kind, .int .i64 x.num, .string x.text, .slice so x.kids.length c0, .int .i64 (-1), .int .i64 0] 132)).alloc (.cells #[.slice none 0 0, .int .i64 0] 78)).alloc (.cells #[.int .i64 x.kind, .int .i64 x.num, .string x.text, .slice so x.kids.length c0, .int .i64 (-1), .int .i64 0] 132)).ownsRow B 132 6 (.slice ao st.length c) st.length (scells st ka lk mk) := (((hS.own.alloc _).alloc _).alloc _).alloc _
  have hcells := snode_cells (((w.alloc (.cells #[.slice ao st.length c, .int .i64 wk] 78)).alloc (.cells #[.int .i64 x.kind, .int .i64 x.num, .string x.text, .slice so x.kids.length c0, .int .i64 (-1), .int .i64 0] 132)).alloc (.cells #[.slice none 0 0, .int .i64 0] 78)) x so c0
  have hz3 : (((w.alloc (.cells #[.slice ao st.length c, .int .i64 wk] 78)).alloc (.cells #[.int .i64 x.kind, .int .i64 x.num, .string x.text, .slice so x.kids.length c0, .int .i64 (-1), .int .i64 0] 132)).alloc (.cells #[.slice none 0 0, .int .i64 0] 78)).heap.size = w.heap.size + 1 + 1 + 1 := by simp
  rw [hz3] at hcells
  have k0 : ((((w.alloc (.cells #[.slice ao st.length c, .int .i64 wk] 78)).alloc (.cells #[.int .i64 x.kind, .int .i64 x.num, .string x.text, .slice so x.kids.length c0, .int .i64 (-1), .int .i64 0] 132)).alloc (.cells #[.slice none 0 0, .int .i64 0] 78)).alloc (.cells #[.int .i64 x.kind, .int .i64 x.num, .string x.text, .slice so x.kids.length c0, .int .i64 (-1), .int .i64 0] 132)).heap[w.heap.size]? = some (.cells #[.slice ao st.length c, .int .i64 wk] 78 (0, 0)) := by
    rw [heap_alloc_old _ _ (by simp; omega), heap_alloc_old _ _ (by simp; omega), heap_alloc_old _ _ (by simp)]
    exact heap_alloc_new _ _
  have k2 : ((((w.alloc (.cells #[.slice ao st.length c, .int .i64 wk] 78)).alloc (.cells #[.int .i64 x.kind, .int .i64 x.num, .string x.text, .slice so x.kids.length c0, .int .i64 (-1), .int .i64 0] 132)).alloc (.cells #[.slice none 0 0, .int .i64 0] 78)).alloc (.cells #[.int .i64 x.kind, .int .i64 x.num, .string x.text, .slice so x.kids.length c0, .int .i64 (-1), .int .i64 0] 132)).heap[w.heap.size + 2]? = some (.cells #[.slice none 0 0, .int .i64 0] 78 (0, 0)) := by
    rw [heap_alloc_old _ _ (by simp)]
    have h9 := heap_alloc_new ((w.alloc (.cells #[.slice ao st.length c, .int .i64 wk] 78)).alloc (.cells #[.int .i64 x.kind, .int .i64 x.num, .string x.text, .slice so x.kids.length c0, .int .i64 (-1), .int .i64 0] 132)) (.cells #[.slice none 0 0, .int .i64 0] 78)
    simpa using h9
  have hz4 : ((((w.alloc (.cells #[.slice ao st.length c, .int .i64 wk] 78)).alloc (.cells #[.int .i64 x.kind, .int .i64 x.num, .string x.text, .slice so x.kids.length c0, .int .i64 (-1), .int .i64 0] 132)).alloc (.cells #[.slice none 0 0, .int .i64 0] 78)).alloc (.cells #[.int .i64 x.kind, .int .i64 x.num, .string x.text, .slice so x.kids.length c0, .int .i64 (-1), .int .i64 0] 132)).heap.size = w.heap.size + 4 := by simp
  have HS : Hid (StoV w B ao c st ka lk mk) := hS
  have HK : Hid (∀ k (h : k < x.kids.length), ∃ b o, so = some ⟨b, o, none⟩ ∧ (Value.slice ao st.length c).ownBlock ≠ some b ∧ w.cell? ⟨b, o + k, none⟩ = some (.int .i64 (x.kids[k] : Int))) := hk
  have hB4 := hb4.size
  clear hS hk
  go_enter Tryz.func69, Tryz.ntmps69
  go_wp2_with (at_builtin; refine wpList_append3 rfl (.tmp 8) (.tmp 10) 76 rfl B 132 i0 _ 6 72 Tryz.underlying76 hi hz0 hz1 hz2 rfl (by decide) (.slice ao st.length c) st.length _ rfl hown4 ⟨_, 0, none⟩ 1 1 (snode x (so, c0) none 0) rfl rfl hcells (snode_one x so c0) (by omega) ?a3 ?a4 ?a5 ?_)
  case a3 => unfold maxLen; omega
  case a4 => omega
  case a5 => omega
  intro g' c' w5 hown5 hgrow5 hwh
  (try rw [hz4] at hwh)
  generalize (((w.alloc (.cells #[.slice ao st.length c, .int .i64 wk] 78)).alloc (.cells #[.int .i64 x.kind, .int .i64 x.num, .string x.text, .slice so x.kids.length c0, .int .i64 (-1), .int .i64 0] 132)).alloc (.cells #[.slice none 0 0, .int .i64 0] 78)).alloc (.cells #[.int .i64 x.kind, .int .i64 x.num, .string x.text, .slice so x.kids.length c0, .int .i64 (-1), .int .i64 0] 132) = w4 at *
  have hob : ∀ i, w.heap.size ≤ i → some i ≠ (Value.slice ao st.length c).ownBlock := fun i hi e => by have := own_lt HS.out.own e.symm; omega
  have m0 := (hgrow5.block w.heap.size (by omega) (hob _ (Nat.le_refl _))).trans k0
  have m2 := (hgrow5.block (w.heap.size + 2) (by omega) (hob _ (by omega))).trans k2
  have q0 : w5.cell? ⟨w.heap.size, 0, none⟩ = some (.slice ao st.length c) := by rw [cell_of_row _ _ _ _ 78 (0, 0) m0]; rfl
  have q1 : w5.cell? ⟨w.heap.size, 1, none⟩ = some (.int .i64 wk) := by rw [cell_of_row _ _ _ _ 78 (0, 0) m0]; rfl
  have f0 : w5.frozen? ⟨w.heap.size, 0, none⟩ = false := frozen_of_row _ _ _ _ 78 m0
  have p0 : w5.cell? ⟨w.heap.size + 1 + 1, 0, none⟩ = some (.slice none 0 0) := by rw [cell_of_row _ _ _ _ 78 (0, 0) m2]; rfl
  have p1 : w5.cell? ⟨w.heap.size + 1 + 1, 1, none⟩ = some (.int .i64 0) := by rw [cell_of_row _ _ _ _ 78 (0, 0) m2]; rfl
  have g0 : w5.frozen? ⟨w.heap.size + 1 + 1, 0, none⟩ = false := frozen_of_row _ _ _ _ 78 m2
  have g1 : w5.frozen? ⟨w.heap.size + 1 + 1, 1, none⟩ = false := frozen_of_row _ _ _ _ 78 m2
  have HFIN : Hid (∀ w6, But (fun i => w.heap.size ≤ i ∧ i < w.heap.size + 4) w5 w6 → Sto w6 B g' c' (st ++ [x]) (fun i => if i = st.length then (so, c0) else ka i) lk (updM mk st.length 0) ∧ But (fun i => (Value.slice ao st.length c).ownBlock = some i) w w6) := by
    intro w6 h6
    refine ⟨sto_push HS.out HLK.out HK.out hb4 hown5 hgrow5 (by rw [hz4]; exact hwh) (by rw [hz4]; exact h6), ?_⟩
    have hz5 := hgrow5.size
    refine ⟨h6.os.trans (hgrow5.os.trans hb4.os), h6.tape.trans (hgrow5.tape.trans hb4.tape), h6.output.trans (hgrow5.output.trans hb4.output), by have := h6.size; omega, fun i hi hne => ?_⟩
    exact (h6.block i (by omega) (by omega)).trans ((hgrow5.block i (by omega) (fun e => hne e.symm)).trans (hb4.block i hi))
  have HWH : Hid ((Value.slice ao st.length c).ownBlock = some g' ∨ w.heap.size ≤ g') := hwh.imp id (fun h => by omega)
  clear hown5 hgrow5 hwh hown4 hcells k0 k2 m0 m2 hb4 hz4 hB4 hob HS HK
  go_wp2_with fail
  go_region
  go_wp2
  have HB := HFIN.out _ (but_drewU ((((But.refl (fun i => w.heap.size ≤ i ∧ i < w.heap.size + 4) w5).setCell (p := ⟨w.heap.size, 0, none⟩) ⟨Nat.le_refl _, by simp⟩ (.slice (some ⟨g', 0, none⟩) (st.length + 1) c')).setCell (p := ⟨w.heap.size + 1 + 1, 0, none⟩) ⟨by simp; omega, by simp⟩ (.slice (some ⟨g', 0, none⟩) (st.length + 1) c')).setCell (p := ⟨w.heap.size + 1 + 1, 1, none⟩) ⟨by simp; omega, by simp⟩ (.int .i64 wk)))
  refine bodyPost_ret (v := .tuple #[.agg #[.slice (some ⟨g', 0, none⟩) (st.length + 1) c', .int .i64 wk], .int .i64 (st.length : Int)]) (by simp [results, Tryz.results69, go_sem, p0, p1]) rfl ?_
  exact ⟨g', c', rfl, HB.1, HB.2, HWH.out⟩
end Go.Proofs.YtoiiibplkhedcaaGreatDoor

namespace Go.Proofs.YtoiiibplkhedcaaGreatDoor
open Go.RowKit
/-! What l8Put holds in memory: a store, the list of unknowns, where nodes are, and their sizes. -/
def msI (ms : List (Int × Nat)) : List (Int × Int) := ms.map fun p => (p.1, (p.2 : Int))
def natI (xs : List Nat) : List Int := xs.map (fun (x : Nat) => (x : Int))
theorem msI_length (ms : List (Int × Nat)) : (msI ms).length = ms.length := by simp [msI]
theorem natI_length (xs : List Nat) : (natI xs).length = xs.length := by simp [natI]
theorem msI_push (ms : List (Int × Nat)) (x : Int) (a : Nat) : msI (ms ++ [(x, a)]) = msI ms ++ [(x, (a : Int))] := by simp [msI]
theorem natI_push (xs : List Nat) (a : Nat) : natI (xs ++ [a]) = natI xs ++ [(a : Int)] := by simp [natI]
theorem but_grown {w w' : World} {X : Option Nat} (h : w.grownBy w' X) : But (fun i => X = some i) w w' :=
  ⟨h.os, h.tape, h.output, h.size, fun i hi hne => h.block i hi (fun e => hne e.symm)⟩
theorem known_pos {ms : List (Int × Nat)} {x q : Int} (h : knownIn (msI ms) x = q) (hq : ¬ q < 0) : ∃ j, ∃ hj : j < ms.length, q = (j : Int) ∧ ms[j].1 = x := by
  unfold knownIn at h
  split at h
  · rename_i hl
    have hl2 : placeIn ((msI ms).map Prod.fst) x < ms.length := by rw [msI_length] at hl; exact hl
    refine ⟨_, hl2, h.symm, ?_⟩
    have h9 := List.findIdx_getElem (xs := (msI ms).map Prod.fst) (p := (· == x)) (w := by simp [msI]; simpa [placeIn, msI] using hl2)
    simp only [beq_iff_eq, msI, List.getElem_map] at h9
    exact h9
  · omega
theorem known_no {ms : List (Int × Nat)} {x q : Int} (h : knownIn (msI ms) x = q) (hq : q < 0) : ∀ p ∈ ms, p.1 ≠ x := by
  have h9 := (known_neg (msI ms) x).1 (by omega)
  intro p hp
  exact h9 (p.1, (p.2 : Int)) (List.mem_map.2 ⟨p, hp, rfl⟩)
theorem Ints.base {w : World} {B B' g c n : Nat} {xs : List Int} (h : Ints w B g c n xs) (hB : B' ≤ B) : Ints w B' g c n xs := by
  obtain ⟨h1, h2, h3⟩ := h
  refine ⟨h1, h2, ?_⟩
  rcases h3 with h3 | ⟨g2, cap, cur, e1, e2, e3⟩
  · exact .inl h3
  · exact .inr ⟨g2, cap, cur, e1, by omega, e3⟩
theorem node_box {w : World} {y : Nat} {a b c d e : Value} (h : w.heap[y]? = some (.cells #[a, b, c, d, e] 43 (0, 0))) : w.cell? ⟨y, 0, none⟩ = some a ∧ w.cell? ⟨y, 1, none⟩ = some b ∧ w.cell? ⟨y, 2, none⟩ = some c := by
  refine ⟨?_, ?_, ?_⟩ <;> (rw [cell_of_row _ _ _ _ _ _ h]; rfl)
theorem box_cells {w : World} {z : Nat} {u v : Value} (h : w.heap[z]? = some (.cells #[u, v] 78 (0, 0))) : w.cell? ⟨z, 0, none⟩ = some u ∧ w.cell? ⟨z, 1, none⟩ = some v ∧ w.frozen? ⟨z, 0, none⟩ = false ∧ w.frozen? ⟨z, 1, none⟩ = false ∧ z < w.heap.size := by
  refine ⟨?_, ?_, frozen_of_row w z 0 _ 78 h, frozen_of_row w z 1 _ 78 h, (Array.getElem?_eq_some_iff.1 h).1⟩ <;> (rw [cell_of_row _ _ _ _ _ _ h]; rfl)
def KOff (st : List SK) (ka : Nat → Option Addr × Nat) (X : Nat) : Prop := ∀ i b o, 0 < (sk st i).kids.length → (ka i).1 = some ⟨b, o, none⟩ → b ≠ X
theorem StoV.but {S : Nat → Prop} {w w' : World} {B : Nat} {ao : Option Addr} {c : Nat} {st : List SK} {ka : Nat → Option Addr × Nat} {lk : Nat → Option Nat} {mk : Nat → Int} (h : StoV w B ao c st ka lk mk) (hb : But S w w') (ho : ∀ q, S q → (Value.slice ao st.length c).ownBlock ≠ some q) (hk : ∀ q, S q → KOff st ka q) : StoV w' B ao c st ka lk mk := by
  refine ⟨?_, fun i k hk1 => ?_⟩
  · obtain ⟨h1, h2⟩ := h.own
    rcases h2 with ⟨e, h3⟩ | ⟨g, cap, cur, e, hr⟩
    · exact ⟨h1, .inl ⟨e, h3⟩⟩
    · simp only [Value.slice.injEq] at e
      obtain ⟨rfl, _, rfl⟩ := e
      exact owns_but h.own hb (fun hs => ho g hs rfl)
  · obtain ⟨b, o, e1, e2, e3⟩ := h.kids i k hk1
    refine ⟨b, o, e1, e2, ?_⟩
    have hlt : b < w.heap.size := lt_of_cell e3
    have h9 := hb.block b hlt (fun hs => hk b hs i b o (by omega) e1 rfl)
    unfold World.cell? at e3 ⊢
    rw [h9]
    exact e3
theorem StoV.klt {w : World} {B : Nat} {ao : Option Addr} {c : Nat} {st : List SK} {ka : Nat → Option Addr × Nat} {lk : Nat → Option Nat} {mk : Nat → Int} (h : StoV w B ao c st ka lk mk) {X : Nat} (hX : w.heap.size ≤ X) : KOff st ka X := by
  intro i b o hl e
  obtain ⟨b', o', e1, _, e3⟩ := h.kids i 0 hl
  have hlt := lt_of_cell e3
  rw [e] at e1
  simp only [Option.some.injEq, Addr.mk.injEq, and_true] at e1
  simp only at hlt
  omega
theorem StoV.slt {w : World} {B : Nat} {ao : Option Addr} {c : Nat} {st : List SK} {ka : Nat → Option Addr × Nat} {lk : Nat → Option Nat} {mk : Nat → Int} (h : StoV w B ao c st ka lk mk) {X : Nat} (hX : w.heap.size ≤ X) : (Value.slice ao st.length c).ownBlock ≠ some X := by
  intro e
  have := own_lt h.own e
  omega
structure PW (Q : Nat → Prop) (w wr : World) (ow : Option Nat) (gm0 B z : Nat) (wk : Int) (ao : Option Addr) (n c : Nat) (st : List SK) (ka : Nat → Option Addr × Nat) (lk : Nat → Option Nat) (mk : Nat → Int) (gm l cm : Nat) (ms : List (Int × Nat)) (ga k ca : Nat) (at' : List Nat) (gz cz m : Nat) (zs : List Int) : Prop where
  hn : st.length = n
  hl : ms.length = l
  hk : at'.length = k
  sto : StoV wr B ao c st ka lk mk
  mts : OwnM wr B gm cm l (msI ms)
  ats : Ints wr z ga ca k (natI at')
  sz : Ints wr z gz cz m zs
  box : wr.heap[z]? = some (.cells #[.slice ao n c, .int .i64 wk] 78 (0, 0))
  koff : ∀ X, X = gm ∨ X = ga ∨ X = gz ∨ X = z ∨ X = z + 1 → KOff st ka X
  soff : ∀ X, X = gm ∨ X = ga ∨ X = gz ∨ X = z ∨ X = z + 1 → (Value.slice ao st.length c).ownBlock ≠ some X
  rbox : wr.heap[z + 1]? = some (.cells #[.slice none 0 0, .int .i64 0] 78 (0, 0))
  moff : gm ≠ ga ∧ gm ≠ gz ∧ gm ≠ z ∧ gm ≠ z + 1
  aoff : ga ≠ gz ∧ ga ≠ z ∧ gz ≠ z ∧ ga ≠ z + 1 ∧ gz ≠ z + 1
  frame : But (fun i => ow = some i ∨ i = gm0) w wr
  so : ∀ b, (Value.slice ao st.length c).ownBlock = some b → ow = some b ∨ z ≤ b
  mo : gm = gm0 ∨ z ≤ gm
  hz : w.heap.size = z
  kq : ∀ X, Q X → X < z ∧ KOff st ka X
section
variable {Q : Nat → Prop} {w wr : World} {ow : Option Nat} {gm0 B z : Nat} {wk : Int} {ao : Option Addr} {n c : Nat} {st : List SK} {ka : Nat → Option Addr × Nat} {lk : Nat → Option Nat} {mk : Nat → Int} {gm l cm : Nat} {ms : List (Int × Nat)} {ga k ca : Nat} {at' : List Nat} {gz cz m : Nat} {zs : List Int}
theorem PW.zlt (h : PW Q w wr ow gm0 B z wk ao n c st ka lk mk gm l cm ms ga k ca at' gz cz m zs) : z < wr.heap.size := (Array.getElem?_eq_some_iff.1 h.box).1
theorem PW.rlt (h : PW Q w wr ow gm0 B z wk ao n c st ka lk mk gm l cm ms ga k ca at' gz cz m zs) : z + 1 < wr.heap.size := (Array.getElem?_eq_some_iff.1 h.rbox).1
theorem PW.below {wr' : World} (h : PW Q w wr ow gm0 B z wk ao n c st ka lk mk gm l cm ms ga k ca at' gz cz m zs) (hb : Below wr.heap.size wr wr') : PW Q w wr' ow gm0 B z wk ao n c st ka lk mk gm l cm ms ga k ca at' gz cz m zs :=
  { h with
    sto := h.sto.but (S := fun _ => False) (But.ofBelow hb) (fun _ h => h.elim) (fun _ h => h.elim)
    mts := h.mts.below hb
    ats := h.ats.below hb
    sz := h.sz.below hb
    box := (hb.block z h.zlt).trans h.box
    rbox := (hb.block (z + 1) h.rlt).trans h.rbox
    frame := h.frame.trans (But.ofBelow hb) }
theorem PW.frame' {S : Nat → Prop} {wr' : World} (h : PW Q w wr ow gm0 B z wk ao n c st ka lk mk gm l cm ms ga k ca at' gz cz m zs) (hb : But S wr wr') (hS : ∀ q, S q → (ow = some q ∨ q = gm0) ∨ z ≤ q) : But (fun i => ow = some i ∨ i = gm0) w wr' := by
  refine ⟨hb.os.trans h.frame.os, hb.tape.trans h.frame.tape, hb.output.trans h.frame.output, by have := hb.size; have := h.frame.size; omega, fun i hi hne => ?_⟩
  have hsz := h.frame.size
  refine (hb.block i (by omega) (fun hs => ?_)).trans (h.frame.block i hi hne)
  rcases hS i hs with h9 | h9
  · exact hne h9
  · have := h.hz; omega
theorem PW.pushAt {w1 w2 : World} {g2 c2 a : Nat} (h : PW Q w wr ow gm0 B z wk ao n c st ka lk mk gm l cm ms ga k ca at' gz cz m zs) (hb1 : Below wr.heap.size wr w1) (hown : w2.ownsRow z 3 1 (.slice (some ⟨g2, 0, none⟩) (k + 1) c2) (k + 1) (ints (natI at') ++ [.int .i64 (a : Int)])) (hg : w1.grownBy w2 (some ga)) (hwh : ga = g2 ∨ w1.heap.size ≤ g2) : PW Q w w2 ow gm0 B z wk ao n c st ka lk mk gm l cm ms g2 (k + 1) c2 (at' ++ [a]) gz cz m zs := by
  have h1 := h.below hb1
  have hbu : But (fun i => i = ga) w1 w2 := (but_grown hg).mono (fun i e => by simp only [Option.some.injEq] at e; exact e.symm)
  have hga : ga < w1.heap.size := h1.ats.block.2
  have hgb := h1.ats.block.1
  have hgz : gz < w1.heap.size := h1.sz.block.2
  have hgm : gm < w1.heap.size := (owns_block h1.mts.2).2
  have hzl := h1.zlt
  have hrl := h1.rlt
  refine ⟨h.hn, h.hl, by simp [h.hk], ?_, h1.mts.but hbu h.moff.1, ?_, ⟨h1.sz.1, owns_but h1.sz.2 hbu (Ne.symm h.aoff.1)⟩, (hbu.block z hzl (Ne.symm h.aoff.2.1)).trans h1.box, ?_, ?_, (hbu.block (z + 1) hrl (Ne.symm h.aoff.2.2.2.1)).trans h1.rbox, ?_, ?_, h1.frame' hbu (fun q hq => .inr (by omega)), h.so, h.mo, h.hz, h.kq⟩
  · exact h1.sto.but hbu (fun q hq => h.soff q (.inr (.inl hq))) (fun q hq => h.koff q (.inr (.inl hq)))
  · rw [natI_push]
    exact Ints.push hown (by rw [natI_length, h.hk]) rfl
  · intro X hX
    by_cases e : X = ga
    · exact h.koff X (.inr (.inl e))
    · rcases hX with hX | hX | hX | hX
      · exact h.koff X (.inl hX)
      · rcases hwh with h9 | h9
        · omega
        · exact h1.sto.klt (by omega)
      · exact h.koff X (.inr (.inr (.inl hX)))
      · exact h.koff X (.inr (.inr (.inr hX)))
  · intro X hX
    by_cases e : X = ga
    · exact h.soff X (.inr (.inl e))
    · rcases hX with hX | hX | hX | hX
      · exact h.soff X (.inl hX)
      · rcases hwh with h9 | h9
        · omega
        · exact h1.sto.slt (by omega)
      · exact h.soff X (.inr (.inr (.inl hX)))
      · exact h.soff X (.inr (.inr (.inr hX)))
  · have := h.moff
    omega
  · have := h.aoff
    omega
theorem PW.pushMs {w1 w2 : World} {g2 c2 a : Nat} {x : Int} (h : PW Q w wr ow gm0 B z wk ao n c st ka lk mk gm l cm ms ga k ca at' gz cz m zs) (hb1 : Below wr.heap.size wr w1) (hown : w2.ownsRow B 134 2 (.slice (some ⟨g2, 0, none⟩) (l + 1) c2) (l + 1) (flat2 (msI ms) ++ [.int .i64 x, .int .i64 (a : Int)])) (hg : w1.grownBy w2 (some gm)) (hwh : gm = g2 ∨ w1.heap.size ≤ g2) : PW Q w w2 ow gm0 B z wk ao n c st ka lk mk g2 (l + 1) c2 (ms ++ [(x, a)]) ga k ca at' gz cz m zs := by
  have h1 := h.below hb1
  have hbu : But (fun i => i = gm) w1 w2 := (but_grown hg).mono (fun i e => by simp only [Option.some.injEq] at e; exact e.symm)
  have hga : ga < w1.heap.size := h1.ats.block.2
  have hgz : gz < w1.heap.size := h1.sz.block.2
  have hgm : gm < w1.heap.size := (owns_block h1.mts.2).2
  have hzl := h1.zlt
  have hrl := h1.rlt
  have hmo := h.mo
  refine ⟨h.hn, by simp [h.hl], h.hk, ?_, ?_, ⟨h1.ats.1, owns_but h1.ats.2 hbu (Ne.symm h.moff.1)⟩, ⟨h1.sz.1, owns_but h1.sz.2 hbu (Ne.symm h.moff.2.1)⟩, (hbu.block z hzl (Ne.symm h.moff.2.2.1)).trans h1.box, ?_, ?_, (hbu.block (z + 1) hrl (Ne.symm h.moff.2.2.2)).trans h1.rbox, ?_, h.aoff, h1.frame' hbu (fun q hq => by omega), h.so, by omega, h.hz, h.kq⟩
  · exact h1.sto.but hbu (fun q hq => h.soff q (.inl hq)) (fun q hq => h.koff q (.inl hq))
  · rw [msI_push]
    exact OwnM.push (x := (x, (a : Int))) hown (by rw [msI_length, h.hl]) rfl
  · intro X hX
    by_cases e : X = gm
    · exact h.koff X (.inl e)
    · rcases hX with hX | hX
      · rcases hwh with h9 | h9
        · omega
        · exact h1.sto.klt (by omega)
      · exact h.koff X (.inr hX)
  · intro X hX
    by_cases e : X = gm
    · exact h.soff X (.inl e)
    · rcases hX with hX | hX
      · rcases hwh with h9 | h9
        · omega
        · exact h1.sto.slt (by omega)
      · exact h.soff X (.inr hX)
  · have := h.moff
    omega
theorem box_set {w : World} {z : Nat} {u v u' v' : Value} {t : TypeId} (h : w.heap[z]? = some (.cells #[u, v] t (0, 0))) : ((w.setCell ⟨z, 0, none⟩ u').setCell ⟨z, 1, none⟩ v').heap[z]? = some (.cells #[u', v'] t (0, 0)) := by
  have h1 := heap_setCell_same w z 0 _ t u' h
  have h2 := heap_setCell_same _ z 1 _ t v' h1
  exact h2
theorem PW.new {w2 : World} {g' c' : Nat} {x : SK} {so : Option Addr} {c0 : Nat} (h : PW Q w wr ow gm0 B z wk ao n c st ka lk mk gm l cm ms ga k ca at' gz cz m zs) (hs : Sto w2 B g' c' (st ++ [x]) (fun i => if i = n then (so, c0) else ka i) lk (updM mk n 0)) (hb : But (fun i => (Value.slice ao n c).ownBlock = some i) wr w2) (hwh : (Value.slice ao n c).ownBlock = some g' ∨ wr.heap.size ≤ g')
    (hso : ∀ b o, 0 < x.kids.length → so = some ⟨b, o, none⟩ → b ≠ gm ∧ b ≠ ga ∧ b ≠ gz ∧ b ≠ z ∧ b ≠ z + 1 ∧ z ≤ b) :
    PW Q w ((w2.setCell ⟨z, 0, none⟩ (.slice (some ⟨g', 0, none⟩) (n + 1) c')).setCell ⟨z, 1, none⟩ (.int .i64 wk)) ow gm0 B z wk (some ⟨g', 0, none⟩) (n + 1) c' (st ++ [x]) (fun i => if i = n then (so, c0) else ka i) lk (updM mk n 0) gm l cm ms ga k ca at' gz cz m zs := by
  have hga : ga < wr.heap.size := h.ats.block.2
  have hgz : gz < wr.heap.size := h.sz.block.2
  have hgm : gm < wr.heap.size := (owns_block h.mts.2).2
  have hzl := h.zlt
  have hrl := h.rlt
  have hn := h.hn
  have hsoff := h.soff
  rw [hn] at hsoff
  have hn1 : ∀ X, X = gm ∨ X = ga ∨ X = gz ∨ X = z ∨ X = z + 1 → X ≠ g' := by
    intro X hX e
    rcases hwh with h9 | h9
    · exact hsoff X hX (by rw [h9, e])
    · omega
  have hbz : But (fun i => i = z) w2 ((w2.setCell ⟨z, 0, none⟩ (.slice (some ⟨g', 0, none⟩) (n + 1) c')).setCell ⟨z, 1, none⟩ (.int .i64 wk)) := ((But.refl (fun i => i = z) w2).setCell (p := ⟨z, 0, none⟩) rfl _).setCell (p := ⟨z, 1, none⟩) rfl _
  have hkoff : ∀ X, X = gm ∨ X = ga ∨ X = gz ∨ X = z ∨ X = z + 1 → KOff (st ++ [x]) (fun i => if i = n then (so, c0) else ka i) X := by
    intro X hX i b o hl e
    rcases sk_push st x i with ⟨a1, e1⟩ | ⟨a1, e1⟩ | ⟨a1, e1⟩
    · rw [e1] at hl
      simp only [show i ≠ n by omega, if_false] at e
      exact h.koff X hX i b o hl e
    · rw [e1] at hl
      simp only [show i = n by omega, if_true] at e
      have := hso b o hl e
      omega
    · rw [e1] at hl
      simp [SK.none] at hl
  have hb2 : But (fun i => (Value.slice ao n c).ownBlock = some i ∨ i = z) wr ((w2.setCell ⟨z, 0, none⟩ (.slice (some ⟨g', 0, none⟩) (n + 1) c')).setCell ⟨z, 1, none⟩ (.int .i64 wk)) := (hb.mono (fun i hi => .inl hi)).trans (hbz.mono (fun i hi => .inr hi))
  have hoff : ∀ X, X = gm ∨ X = ga ∨ X = gz → ¬ ((Value.slice ao n c).ownBlock = some X ∨ X = z) := by
    rintro X hX (h9 | h9)
    · exact hsoff X (by omega) h9
    · have := h.moff; have := h.aoff; omega
  have hw2 : w2.heap[z]? = some (.cells #[.slice ao n c, .int .i64 wk] 78 (0, 0)) := (hb.block z hzl (hsoff z (by omega))).trans h.box
  have hlen : (st ++ [x]).length = n + 1 := by simp [hn]
  refine ⟨hlen, h.hl, h.hk, ?_, h.mts.but hb2 (hoff gm (by omega)), ⟨h.ats.1, owns_but h.ats.2 hb2 (hoff ga (by omega))⟩, ⟨h.sz.1, owns_but h.sz.2 hb2 (hoff gz (by omega))⟩, box_set hw2, hkoff, ?_, (hb2.block (z + 1) hrl (fun e => ?_)).trans h.rbox, h.moff, h.aoff, h.frame' hb2 ?_, ?_, h.mo, h.hz, fun X hX => ⟨(h.kq X hX).1, ?_⟩⟩
  · refine hs.toV.but hbz (fun q hq e => ?_) (fun q hq => hkoff q (by omega))
    simp only [Value.ownBlock, Option.some.injEq] at e
    exact hn1 q (by omega) e.symm
  · intro X hX e
    simp only [Value.ownBlock, Option.some.injEq] at e
    exact hn1 X hX e.symm
  · rcases e with h9 | h9
    · exact hsoff (z + 1) (by omega) h9
    · omega
  · rintro q (h9 | h9)
    · rcases h.so q (by rw [hn]; exact h9) with h8 | h8
      · exact .inl (.inl h8)
      · exact .inr h8
    · exact .inr (by omega)
  · intro b e
    simp only [Value.ownBlock, Option.some.injEq] at e
    subst e
    rcases hwh with h9 | h9
    · exact h.so g' (by rw [hn]; exact h9)
    · exact .inr (by omega)
  · obtain ⟨hX1, hX2⟩ := h.kq X hX
    intro i b o hl e
    rcases sk_push st x i with ⟨a1, e1⟩ | ⟨a1, e1⟩ | ⟨a1, e1⟩
    · rw [e1] at hl
      simp only [show i ≠ n by omega, if_false] at e
      exact hX2 i b o hl e
    · rw [e1] at hl
      simp only [show i = n by omega, if_true] at e
      have := hso b o hl e
      omega
    · rw [e1] at hl
      simp [SK.none] at hl
theorem PW.newBox {w2 : World} (h : PW Q w wr ow gm0 B z wk ao n c st ka lk mk gm l cm ms ga k ca at' gz cz m zs) (hb : But (fun i => (Value.slice ao n c).ownBlock = some i) wr w2) : w2.heap[z]? = some (.cells #[.slice ao n c, .int .i64 wk] 78 (0, 0)) :=
  (hb.block z h.zlt (by have h9 := h.soff z (by omega); rw [h.hn] at h9; exact h9)).trans h.box
theorem PW.far {S : Nat → Prop} {wr' : World} {y : Nat} (h : PW Q w wr ow gm0 B z wk ao n c st ka lk mk gm l cm ms ga k ca at' gz cz m zs) (hb : But S wr wr') (hS : ∀ q, S q → y ≤ q) (hy : gm < y ∧ ga < y ∧ gz < y ∧ z < y ∧ z + 1 < y) (hown : ∀ q, y ≤ q → (Value.slice ao n c).ownBlock ≠ some q) (hk : ∀ q, y ≤ q → KOff st ka q) : PW Q w wr' ow gm0 B z wk ao n c st ka lk mk gm l cm ms ga k ca at' gz cz m zs := by
  have hoff : ∀ X, X < y → ¬ S X := fun X hX hs => by have := hS X hs; omega
  exact { h with
    sto := h.sto.but hb (fun q hq => by rw [h.hn]; exact hown q (hS q hq)) (fun q hq => hk q (hS q hq))
    mts := h.mts.but hb (hoff _ hy.1)
    ats := ⟨h.ats.1, owns_but h.ats.2 hb (hoff _ hy.2.1)⟩
    sz := ⟨h.sz.1, owns_but h.sz.2 hb (hoff _ hy.2.2.1)⟩
    box := (hb.block z h.zlt (hoff _ hy.2.2.2.1)).trans h.box
    rbox := (hb.block (z + 1) h.rlt (hoff _ hy.2.2.2.2)).trans h.rbox
    frame := h.frame' hb (fun q hq => .inr (by have := hS q hq; omega)) }
theorem PW.ret {wr' : World} {g : Nat} (h : PW Q w wr ow gm0 B z wk (some ⟨g, 0, none⟩) n c st ka lk mk gm l cm ms ga k ca at' gz cz m zs) (hb : But (fun i => i = z + 1) wr wr') : Sto wr' B g c st ka lk mk ∧ OwnM wr' B gm cm l (msI ms) ∧ KOff st ka gm ∧ g ≠ gm ∧ But (fun i => ow = some i ∨ i = gm0) w wr' ∧ (∀ X, Q X → KOff st ka X) ∧ (ow = some g ∨ z ≤ g) ∧ (gm = gm0 ∨ z ≤ gm) := by
  have h1 := h.sto.but hb (fun q hq => h.soff q (by omega)) (fun q hq => h.koff q (by omega))
  refine ⟨⟨h1.own, fun i k hk => ?_⟩, h.mts.but hb h.moff.2.2.2, h.koff gm (.inl rfl), fun e => h.soff gm (.inl rfl) (by rw [← e]; rfl), h.frame' hb (fun q hq => .inr (by omega)), fun X hX => (h.kq X hX).2, h.so g rfl, h.mo⟩
  obtain ⟨b, o, e1, e2, e3⟩ := h1.kids i k hk
  exact ⟨b, o, e1, fun e => e2 (by rw [e]; rfl), e3⟩
theorem PW.hasRow (h : PW Q w wr ow gm0 B z wk ao n c st ka lk mk gm l cm ms ga k ca at' gz cz m zs) (hn0 : 0 < n) : ∃ g, ao = some ⟨g, 0, none⟩ := by
  rcases h.sto.own.2 with ⟨_, e⟩ | ⟨g, cap, cur, e, _⟩
  · have := h.hn; omega
  · simp only [Value.slice.injEq] at e
    exact ⟨g, e.1⟩
theorem PW.nodes {tao : Option Addr} {ty : List Nd} (h : PW Q w wr ow gm0 B z wk ao n c st ka lk mk gm l cm ms ga k ca at' gz cz m zs) (hx : Nodes w tao ty) (ht : ∀ b o, tao = some ⟨b, o, none⟩ → b < B) (how : ∀ b, ow = some b → B ≤ b) (hgm : B ≤ gm0) : Nodes wr tao ty :=
  hx.but h.frame (fun b o e hs => by
    have h1 := ht b o e
    rcases hs with h2 | h2
    · have := how b h2; omega
    · omega)
end
theorem PW.start {w w1 : World} {B z : Nat} {wk : Int} {ao : Option Addr} {n c : Nat} {st : List SK} {ka : Nat → Option Addr × Nat} {lk : Nat → Option Nat} {mk : Nat → Int} {gm l cm : Nat} {ms : List (Int × Nat)} {gz cz m : Nat} {zs : List Int} (hz : w.heap.size = z) (hn : st.length = n) (hl : ms.length = l) (hS : StoV w B ao c st ka lk mk) (hM : OwnM w B gm cm l (msI ms)) (hk : KOff st ka gm) (hs : (Value.slice ao n c).ownBlock ≠ some gm)
    (hb : Below ((w.alloc (.cells #[.slice ao n c, .int .i64 wk] 78)).alloc (.cells #[.slice none 0 0, .int .i64 0] 78)).heap.size ((w.alloc (.cells #[.slice ao n c, .int .i64 wk] 78)).alloc (.cells #[.slice none 0 0, .int .i64 0] 78)) w1) (hsz : Ints w1 (z + 2) gz cz m zs) :
    PW (fun X => X < z ∧ KOff st ka X) w (w1.alloc (.cells #[] 3)) (Value.slice ao n c).ownBlock gm B z wk ao n c st ka lk mk gm l cm ms w1.heap.size 0 0 [] gz cz m zs := by
  have hA : Below w.heap.size w ((w.alloc (.cells #[.slice ao n c, .int .i64 wk] 78)).alloc (.cells #[.slice none 0 0, .int .i64 0] 78)) := ((Below.refl _ w).alloc (Nat.le_refl _) _).alloc (by simp) _
  have hA1 := Below.step hA hb
  have hA2 := hA1.alloc hA1.size (.cells #[] 3)
  have hgm := hM.row.2.lt
  have hgz := hsz.block
  have hs1 := hb.size
  simp only [World.size_alloc] at hs1
  have k0 : ((w.alloc (.cells #[.slice ao n c, .int .i64 wk] 78)).alloc (.cells #[.slice none 0 0, .int .i64 0] 78)).heap[z]? = some (.cells #[.slice ao n c, .int .i64 wk] 78 (0, 0)) := by
    rw [heap_alloc_old _ _ (by simp; omega), ← hz]
    exact heap_alloc_new _ _
  have k1 : ((w.alloc (.cells #[.slice ao n c, .int .i64 wk] 78)).alloc (.cells #[.slice none 0 0, .int .i64 0] 78)).heap[z + 1]? = some (.cells #[.slice none 0 0, .int .i64 0] 78 (0, 0)) := by
    have h9 := heap_alloc_new (w.alloc (.cells #[.slice ao n c, .int .i64 wk] 78)) (.cells #[.slice none 0 0, .int .i64 0] 78)
    simpa [hz] using h9
  have b0 := (heap_alloc_old w1 (.cells #[] 3) (r := z) (by omega)).trans ((hb.block z (by simp; omega)).trans k0)
  have b1 := (heap_alloc_old w1 (.cells #[] 3) (r := z + 1) (by omega)).trans ((hb.block (z + 1) (by simp; omega)).trans k1)
  refine ⟨hn, hl, rfl, hS.but (S := fun _ => False) (But.ofBelow hA2) (fun _ h => h.elim) (fun _ h => h.elim), hM.below hA2, Ints.empty (by omega), (hsz.base (by omega)).alloc _, b0, fun X hX => ?_, fun X hX => ?_, b1, by omega, by omega, But.ofBelow hA2, fun b e => .inl (by rw [← hn]; exact e), .inl rfl, hz, fun X hX => hX⟩
  · by_cases e : X = gm
    · rw [e]; exact hk
    · exact hS.klt (by omega)
  · by_cases e : X = gm
    · rw [e, hn]; exact hs
    · exact hS.slt (by omega)
end Go.Proofs.YtoiiibplkhedcaaGreatDoor

import Derived.Test.YthioecjcnajmgaaGreatDoorGA
import Derived.OwnWalkIn
import Derived.Test.YthioecjcnajmgaaGreatDoorGF
namespace Go.Proofs.YthioecjcnajmgaaGreatDoor
open Go.RowKit

/-- append to a slice of the call's own, nil or not: in its block, or in a new one. -/
theorem run_append3 {P : Program} (w : World) (base : Nat) (t ty e : TypeId) (i : TypeInfo) (z : Value) (size bytes : Nat) (ht : P.underlying t = some (.slice e)) (hi : P.info? e = some i) (hz : i.zero = some z)
    (hsize : i.size = size) (hby : i.bytes = bytes) (hzs : z.cells.size = size) (hsz : 0 < size) (v : Value) (n : Nat) (xs : List Value) (hown : w.ownsRow base e size v n xs)
    (ad : Addr) (m c : Nat) (news : List Value) (hl : news.length = m * size) (hnews : ∀ j u, news[j]? = some u → w.cell? (ad.add j) = some u) (h1 : ∀ u ∈ news, u.oneCell' = true)
    (hm : 0 < m) (h63 : n + m ≤ maxLen) (hbytes : (n + m) * bytes ≤ 140737488355328) (hbase : base ≤ w.heap.size) :
    ∃ g' cap' w', (Builtin.append_ #[t, t] ty #[v, .slice (some ad) m c]).run P w = .ok (.slice (some ⟨g', 0, none⟩) (n + m) cap') w' ∧ w'.ownsRow base e size (.slice (some ⟨g', 0, none⟩) (n + m) cap') (n + m) (xs ++ news) ∧ w.grownBy w' v.ownBlock ∧ (v.ownBlock = some g' ∨ w.heap.size ≤ g') := by
  obtain ⟨v', w', hr, h2, h3, h4⟩ := run_append_own (P := P) w base t ty e i z size bytes ht hi hz hsize hby hzs hsz v n xs hown ad m c news hl hnews h1 h63 hbytes hbase
  rcases hown.2 with ⟨hv, hn⟩ | ⟨g2, cap2, cur, he, _⟩
  · subst hv
    have hown2 : w.ownsRow w.heap.size e size (.slice none 0 0) n xs := ⟨hown.1, Or.inl ⟨rfl, hn⟩⟩
    obtain ⟨v2, w2, hr2, h22, h23, h24⟩ := run_append_own (P := P) w w.heap.size t ty e i z size bytes ht hi hz hsize hby hzs hsz _ n xs hown2 ad m c news hl hnews h1 h63 hbytes (Nat.le_refl _)
    rw [hr] at hr2
    simp only [Result.ok.injEq] at hr2
    obtain ⟨rfl, rfl⟩ := hr2
    rcases h22.2 with ⟨hv2, hn2⟩ | ⟨g3, cap3, cur3, he3, hb3, _⟩
    · omega
    · subst he3
      exact ⟨g3, cap3, _, hr, h2, h3, Or.inr hb3⟩
  · subst he
    subst hsize
    obtain ⟨g', cap', rfl, hw⟩ := append_where w t ty e i z ht hi hz base g2 n cap2 xs hown ad m c news hl hnews h1 h63 (by rw [hby]; exact hbytes) hr
    exact ⟨g', cap', _, hr, h2, h3, hw.elim (fun e => Or.inl (by rw [e]; rfl)) (fun e => Or.inr (by omega))⟩

end Go.Proofs.YthioecjcnajmgaaGreatDoor

namespace Go.Proofs.YthioecjcnajmgaaGreatDoor
open Go.RowKit

/-- append to a slice of the call's own, nil or not, in a row of operations. -/
theorem wpList_append3 {P : Program} {w : World} {ops : Array Oper} {rest : List Oper} {o : Oper} {a : Act} {Q : Exit → Act → World → Prop} (hgd : o.guard = none) (s x : Operand) (t : TypeId)
    (ho : o.op = .call { callee := .builtin .append, args := #[s, x], argTypes := #[t, t] })
    (base : Nat) (e : TypeId) (i : TypeInfo) (z : Value) (size bytes : Nat) (ht : P.underlying t = some (.slice e)) (hi : P.info? e = some i) (hz : i.zero = some z)
    (hsize : i.size = size) (hby : i.bytes = bytes) (hzs : z.cells.size = size) (hsz : 0 < size) (v : Value) (n : Nat) (xs : List Value) (hs : a.eval s = v) (hown : w.ownsRow base e size v n xs)
    (ad : Addr) (m c : Nat) (news : List Value) (hx : a.eval x = .slice (some ad) m c) (hl : news.length = m * size) (hnews : ∀ j u, news[j]? = some u → w.cell? (ad.add j) = some u) (h1 : ∀ u ∈ news, u.oneCell' = true)
    (hm : 0 < m) (h63 : n + m ≤ maxLen) (hbytes : (n + m) * bytes ≤ 140737488355328) (hbase : base ≤ w.heap.size)
    (h : ∀ g' cap' w', w'.ownsRow base e size (.slice (some ⟨g', 0, none⟩) (n + m) cap') (n + m) (xs ++ news) → w.grownBy w' v.ownBlock → (v.ownBlock = some g' ∨ w.heap.size ≤ g') → wpList P ops Q rest (a.put o.dst (.slice (some ⟨g', 0, none⟩) (n + m) cap')) w') : wpList P ops Q (o :: rest) a w := by
  refine wpList_plain hgd fun K hK => ?_
  obtain ⟨g', cap', w', hrun, r1, r2, r3⟩ := run_append3 (P := P) w base t o.type e i z size bytes ht hi hz hsize hby hzs hsz v n xs hown ad m c news hl hnews h1 hm h63 hbytes hbase
  unfold Oper.wp execOp
  simp only [ho, resolve, invoke, builtin, Sem.run_bind, Sem.run_pure, Result.andThen_ok, List.map_toArray, List.map_cons, List.map_nil, hs, hx, hrun]
  exact hK _ _ (h g' cap' w' r1 r2 r3)

/-- A list made of rows of six. -/
theorem six_length (f : Nat → List Value) (h6 : ∀ i, (f i).length = 6) (n : Nat) : ((List.range n).flatMap f).length = n * 6 := by
  induction n with
  | zero => rfl
  | succ n ih => rw [List.range_succ, List.flatMap_append, List.length_append, ih]; simp [h6]; omega

theorem six_get (f : Nat → List Value) (h6 : ∀ i, (f i).length = 6) (n i t : Nat) (hi : i < n) (ht : t < 6) : ((List.range n).flatMap f)[i * 6 + t]? = (f i)[t]? := by
  induction n with
  | zero => omega
  | succ n ih =>
    rw [List.range_succ, List.flatMap_append]
    by_cases e : i < n
    · rw [List.getElem?_append_left (by rw [six_length f h6]; omega)]
      exact ih e
    · have e2 : i = n := by omega
      subst e2
      rw [List.getElem?_append_right (by rw [six_length f h6]; omega), six_length f h6]
      have e3 : i * 6 + t - i * 6 = t := by omega
      rw [e3]
      simp

/-- A link as a number. -/
def lkv (l : Option Nat) : Int := match l with
  | some j => (j : Int)
  | none => -1

/-- The six cells of a node of a store. -/
def snode (x : SK) (k : Option Addr × Nat) (l : Option Nat) (m : Int) : List Value := [.int .i64 x.kind, .int .i64 x.num, .string x.text, .slice k.1 x.kids.length k.2, .int .i64 (lkv l), .int .i64 m]

def scells (st : List SK) (ka : Nat → Option Addr × Nat) (lk : Nat → Option Nat) (mk : Nat → Int) : List Value := (List.range st.length).flatMap fun i => snode (sk st i) (ka i) (lk i) (mk i)

theorem scells_get (st : List SK) (ka : Nat → Option Addr × Nat) (lk : Nat → Option Nat) (mk : Nat → Int) (i t : Nat) (hi : i < st.length) (ht : t < 6) : (scells st ka lk mk)[i * 6 + t]? = (snode (sk st i) (ka i) (lk i) (mk i))[t]? := six_get _ (fun _ => rfl) _ i t hi ht

/-- A store in memory: its nodes in block g, their kids in other blocks. -/
structure Sto (w : World) (B g c : Nat) (st : List SK) (ka : Nat → Option Addr × Nat) (lk : Nat → Option Nat) (mk : Nat → Int) : Prop where
  own : w.ownsRow B 99999 6 (.slice (some ⟨g, 0, none⟩) st.length c) st.length (scells st ka lk mk)
  kids : ∀ i, ∀ k (h : k < (sk st i).kids.length), ∃ b o, (ka i).1 = some ⟨b, o, none⟩ ∧ b ≠ g ∧ w.cell? ⟨b, o + k, none⟩ = some (.int .i64 ((sk st i).kids[k] : Int))

theorem Sto.block {w : World} {B g c : Nat} {st : List SK} {ka : Nat → Option Addr × Nat} {lk : Nat → Option Nat} {mk : Nat → Int} (h : Sto w B g c st ka lk mk) : B ≤ g ∧ g < w.heap.size := owns_block h.own

theorem Sto.but {S : Nat → Prop} {w w' : World} {B g c : Nat} {st : List SK} {ka : Nat → Option Addr × Nat} {lk : Nat → Option Nat} {mk : Nat → Int} (h : Sto w B g c st ka lk mk) (hb : But S w w') (hg : ¬ S g) (hk : ∀ q, S q → q = g) : Sto w' B g c st ka lk mk := by
  refine ⟨owns_but h.own hb hg, ?_⟩
  intro i k hk1
  obtain ⟨b, o, e1, e2, e3⟩ := h.kids i k hk1
  refine ⟨b, o, e1, e2, ?_⟩
  have hlt : b < w.heap.size := lt_of_cell e3
  have h9 := hb.block b hlt (fun hs => e2 (hk b hs))
  unfold World.cell? at e3 ⊢
  rw [h9]
  exact e3

theorem Sto.below {w w' : World} {B g c : Nat} {st : List SK} {ka : Nat → Option Addr × Nat} {lk : Nat → Option Nat} {mk : Nat → Int} (h : Sto w B g c st ka lk mk) (hb : Below w.heap.size w w') : Sto w' B g c st ka lk mk :=
  h.but (S := fun _ => False) (But.ofBelow hb) (fun h => h) (fun _ h => h.elim)

theorem Sto.cell {w : World} {B g c : Nat} {st : List SK} {ka : Nat → Option Addr × Nat} {lk : Nat → Option Nat} {mk : Nat → Int} (h : Sto w B g c st ka lk mk) (i t : Nat) (hi : i < st.length) (ht : t < 6) : w.cell? ⟨g, i * 6 + t, none⟩ = (snode (sk st i) (ka i) (lk i) (mk i))[t]? := by
  rw [owns_at h.own _ (by omega), scells_get st ka lk mk i t hi ht]

theorem Sto.frozen {w : World} {B g c : Nat} {st : List SK} {ka : Nat → Option Addr × Nat} {lk : Nat → Option Nat} {mk : Nat → Int} (h : Sto w B g c st ka lk mk) (j : Nat) : w.frozen? ⟨g, j, none⟩ = false := h.own.frozenAt j

end Go.Proofs.YthioecjcnajmgaaGreatDoor

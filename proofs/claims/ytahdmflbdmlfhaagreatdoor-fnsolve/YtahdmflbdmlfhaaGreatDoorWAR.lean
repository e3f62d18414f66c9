import Derived.Test.YtahdmflbdmlfhaaGreatDoorWAB
import Derived.OwnWalkIn
import Derived.Test.YtahdmflbdmlfhaaGreatDoorWAL
import Derived.Test.YtahdmflbdmlfhaaGreatDoorWAQ
namespace Go.Proofs.YtahdmflbdmlfhaaGreatDoor

open Go.RowKit

/-- append to a slice of the call's own, nil or not: in its block, or in a new one. -/
theorem run_append3 {P : Program} (w : World) (base : Nat) (t ty e : TypeId) (i : TypeInfo) (z : Value) (size bytes : Nat) (ht : P.underlying t = some (.slice e)) (hi : P.info? e = some i) (hz : i.zero = some z)
    (hsize : i.size = size) (hby : i.bytes = bytes) (hzs : z.cells.size = size) (hsz : 0 < size) (v : Value) (n : Nat) (xs : List Value) (hown : w.ownsRow base e size v n xs)
    (ad : Addr) (m c : Nat) (news : List Value) (hl : news.length = m * size) (hnews : ∀ j u, news[j]? = some u → w.cell? (ad.add j) = some u) (h1 : ∀ u ∈ news, u.oneCell' = true)
    (hm : 0 < m) (h63 : n + m ≤ maxLen) (hbytes : (n + m) * bytes ≤ 140737488355328) (hbase : base ≤ w.heap.size) :
    ∃ g' cap' w', (Builtin.append_ #[t, t] ty #[v, .slice (some ad) m c]).run P w = .ok (.slice (some ⟨g', 0, none⟩) (n + m) cap') w' ∧ w'.ownsRow base e size (.slice (some ⟨g', 0, none⟩) (n + m) cap') (n + m) (xs ++ news) ∧ w.grownBy w' v.ownBlock ∧ (v.ownBlock = some g' ∨ w.heap.size ≤ g') := by
  obtain ⟨v', w', hr, h2, h3, h4⟩ := run_append_own (P := P) w base t ty e i z size bytes ht hi hz hsize hby hzs hsz v n xs hown ad m c news hl hnews h1 h63 hbytes hbase
  rcases hown.2 with ⟨hv, hn⟩ | ⟨g2, cap2, cur, he, _⟩
  · subst hv
    have hown2 : w.ownsRow w.heap.size e size (.slice none 0 0) n xs := ⟨hown.1, Or.inl ⟨rfl, hn⟩⟩
    obtain ⟨v2, w2, hr2, h22, h23, h24⟩ := run_append_own (P := P) w w.heap.size t ty e i z size bytes ht hi hz hsize hby hzs hsz _ n xs hown2 ad m c news hl hnews h1 h63 hbytes (Nat.le_refl _)
    rw [hr] at hr2
    simp only [Result.ok.injEq] at hr2
    obtain ⟨rfl, rfl⟩ := hr2
    rcases h22.2 with ⟨hv2, hn2⟩ | ⟨g3, cap3, cur3, he3, hb3, _⟩
    · omega
    · subst he3
      exact ⟨g3, cap3, _, hr, h2, h3, Or.inr hb3⟩
  · subst he
    subst hsize
    obtain ⟨g', cap', rfl, hw⟩ := append_where w t ty e i z ht hi hz base g2 n cap2 xs hown ad m c news hl hnews h1 h63 (by rw [hby]; exact hbytes) hr
    exact ⟨g', cap', _, hr, h2, h3, hw.elim (fun e => Or.inl (by rw [e]; rfl)) (fun e => Or.inr (by omega))⟩

/-- append to a slice of the call's own, nil or not, in a row of operations. -/
theorem wpList_append3 {P : Program} {w : World} {ops : Array Oper} {rest : List Oper} {o : Oper} {a : Act} {Q : Exit → Act → World → Prop} (hgd : o.guard = none) (s x : Operand) (t : TypeId)
    (ho : o.op = .call { callee := .builtin .append, args := #[s, x], argTypes := #[t, t] })
    (base : Nat) (e : TypeId) (i : TypeInfo) (z : Value) (size bytes : Nat) (ht : P.underlying t = some (.slice e)) (hi : P.info? e = some i) (hz : i.zero = some z)
    (hsize : i.size = size) (hby : i.bytes = bytes) (hzs : z.cells.size = size) (hsz : 0 < size) (v : Value) (n : Nat) (xs : List Value) (hs : a.eval s = v) (hown : w.ownsRow base e size v n xs)
    (ad : Addr) (m c : Nat) (news : List Value) (hx : a.eval x = .slice (some ad) m c) (hl : news.length = m * size) (hnews : ∀ j u, news[j]? = some u → w.cell? (ad.add j) = some u) (h1 : ∀ u ∈ news, u.oneCell' = true)
    (hm : 0 < m) (h63 : n + m ≤ maxLen) (hbytes : (n + m) * bytes ≤ 140737488355328) (hbase : base ≤ w.heap.size)
    (h : ∀ g' cap' w', w'.ownsRow base e size (.slice (some ⟨g', 0, none⟩) (n + m) cap') (n + m) (xs ++ news) → w.grownBy w' v.ownBlock → (v.ownBlock = some g' ∨ w.heap.size ≤ g') → wpList P ops Q rest (a.put o.dst (.slice (some ⟨g', 0, none⟩) (n + m) cap')) w') : wpList P ops Q (o :: rest) a w := by
  refine wpList_plain hgd fun K hK => ?_
  obtain ⟨g', cap', w', hrun, r1, r2, r3⟩ := run_append3 (P := P) w base t o.type e i z size bytes ht hi hz hsize hby hzs hsz v n xs hown ad m c news hl hnews h1 hm h63 hbytes hbase
  unfold Oper.wp execOp
  simp only [ho, resolve, invoke, builtin, Sem.run_bind, Sem.run_pure, Result.andThen_ok, List.map_toArray, List.map_cons, List.map_nil, hs, hx, hrun]
  exact hK _ _ (h g' cap' w' r1 r2 r3)

/-- A list made of rows of six. -/
theorem six_length (f : Nat → List Value) (h6 : ∀ i, (f i).length = 6) (n : Nat) : ((List.range n).flatMap f).length = n * 6 := by
  induction n with
  | zero => rfl
  | succ n ih => rw [List.range_succ, List.flatMap_append, List.length_append, ih]; simp [h6]; omega

theorem six_get (f : Nat → List Value) (h6 : ∀ i, (f i).length = 6) (n i t : Nat) (hi : i < n) (ht : t < 6) : ((List.range n).flatMap f)[i * 6 + t]? = (f i)[t]? := by
  induction n with
  | zero => omega
  | succ n ih =>
    rw [List.range_succ, List.flatMap_append]
    by_cases e : i < n
    · rw [List.getElem?_append_left (by rw [six_length f h6]; omega)]
      exact ih e
    · have e2 : i = n := by omega
      subst e2
      rw [List.getElem?_append_right (by rw [six_length f h6]; omega), six_length f h6]
      have e3 : i * 6 + t - i * 6 = t := by omega
      rw [e3]
      simp

theorem six_set (f g : Nat → List Value) (h6 : ∀ i, (f i).length = 6) (g6 : ∀ i, (g i).length = 6) (n i t : Nat) (v : Value) (hi : i < n) (ht : t < 6) (hg : g i = (f i).set t v) (ho : ∀ j, j ≠ i → g j = f j) : ((List.range n).flatMap f).set (i * 6 + t) v = (List.range n).flatMap g := by
  apply List.ext_getElem?
  intro j
  by_cases hj : j < n * 6
  · have e : j = (j / 6) * 6 + j % 6 := by omega
    have hq : j / 6 < n := by omega
    have hr : j % 6 < 6 := by omega
    generalize j / 6 = q at *
    generalize j % 6 = r at *
    subst e
    rw [six_get g g6 n q r hq hr, List.getElem?_set, six_length f h6]
    by_cases hqi : q = i
    · subst hqi
      rw [hg, List.getElem?_set]
      by_cases hrt : t = r
      · subst hrt
        rw [if_pos rfl, if_pos (by omega), if_pos rfl, if_pos (by rw [h6]; exact hr)]
      · rw [if_neg (by omega), if_neg hrt]
        exact six_get f h6 n q r hq hr
    · rw [if_neg (by omega), ho q hqi]
      exact six_get f h6 n q r hq hr
  · rw [List.getElem?_eq_none (by rw [List.length_set, six_length f h6]; omega), List.getElem?_eq_none (by rw [six_length g g6]; omega)]

/-- A link as a number. -/
def lkv (l : Option Nat) : Int := match l with
  | some j => (j : Int)
  | none => -1

/-- The six cells of a node of a store. -/
def snode (x : SK) (k : Option Addr × Nat) (l : Option Nat) (m : Int) : List Value := [.int .i64 x.kind, .int .i64 x.num, .string x.text, .slice k.1 x.kids.length k.2, .int .i64 (lkv l), .int .i64 m]

def scells (st : List SK) (ka : Nat → Option Addr × Nat) (lk : Nat → Option Nat) (mk : Nat → Int) : List Value := (List.range st.length).flatMap fun i => snode (sk st i) (ka i) (lk i) (mk i)

theorem scells_get (st : List SK) (ka : Nat → Option Addr × Nat) (lk : Nat → Option Nat) (mk : Nat → Int) (i t : Nat) (hi : i < st.length) (ht : t < 6) : (scells st ka lk mk)[i * 6 + t]? = (snode (sk st i) (ka i) (lk i) (mk i))[t]? := six_get _ (fun _ => rfl) _ i t hi ht

theorem scells_link (st : List SK) (ka : Nat → Option Addr × Nat) (lk : Nat → Option Nat) (mk : Nat → Int) (a b : Nat) (ha : a < st.length) : (scells st ka lk mk).set (a * 6 + 4) (.int .i64 (b : Int)) = scells st ka (upd lk a b) mk := by
  refine six_set _ _ (fun _ => rfl) (fun _ => rfl) _ a 4 _ ha (by omega) ?_ ?_
  · simp [snode, upd_same, lkv]
  · intro j hj
    rw [upd_other hj]

def updM (mk : Nat → Int) (a : Nat) (m : Int) : Nat → Int := fun i => if i = a then m else mk i

theorem scells_mark (st : List SK) (ka : Nat → Option Addr × Nat) (lk : Nat → Option Nat) (mk : Nat → Int) (a : Nat) (m : Int) (ha : a < st.length) : (scells st ka lk mk).set (a * 6 + 5) (.int .i64 m) = scells st ka lk (updM mk a m) := by
  refine six_set _ _ (fun _ => rfl) (fun _ => rfl) _ a 5 _ ha (by omega) ?_ ?_
  · simp [snode, updM]
  · intro j hj
    simp [updM, hj]

/-- A store in memory: its nodes in block g, their kids in other blocks. -/
structure Sto (w : World) (B g c : Nat) (st : List SK) (ka : Nat → Option Addr × Nat) (lk : Nat → Option Nat) (mk : Nat → Int) : Prop where
  own : w.ownsRow B 83 6 (.slice (some ⟨g, 0, none⟩) st.length c) st.length (scells st ka lk mk)
  kids : ∀ i, ∀ k (h : k < (sk st i).kids.length), ∃ b o, (ka i).1 = some ⟨b, o, none⟩ ∧ b ≠ g ∧ w.cell? ⟨b, o + k, none⟩ = some (.int .i64 ((sk st i).kids[k] : Int))

theorem Sto.block {w : World} {B g c : Nat} {st : List SK} {ka : Nat → Option Addr × Nat} {lk : Nat → Option Nat} {mk : Nat → Int} (h : Sto w B g c st ka lk mk) : B ≤ g ∧ g < w.heap.size := owns_block h.own

theorem Sto.but {S : Nat → Prop} {w w' : World} {B g c : Nat} {st : List SK} {ka : Nat → Option Addr × Nat} {lk : Nat → Option Nat} {mk : Nat → Int} (h : Sto w B g c st ka lk mk) (hb : But S w w') (hg : ¬ S g) (hk : ∀ q, S q → q = g) : Sto w' B g c st ka lk mk := by
  refine ⟨owns_but h.own hb hg, ?_⟩
  intro i k hk1
  obtain ⟨b, o, e1, e2, e3⟩ := h.kids i k hk1
  refine ⟨b, o, e1, e2, ?_⟩
  have hlt : b < w.heap.size := lt_of_cell e3
  have h9 := hb.block b hlt (fun hs => e2 (hk b hs))
  unfold World.cell? at e3 ⊢
  rw [h9]
  exact e3

theorem Sto.below {w w' : World} {B g c : Nat} {st : List SK} {ka : Nat → Option Addr × Nat} {lk : Nat → Option Nat} {mk : Nat → Int} (h : Sto w B g c st ka lk mk) (hb : Below w.heap.size w w') : Sto w' B g c st ka lk mk :=
  h.but (S := fun _ => False) (But.ofBelow hb) (fun h => h) (fun _ h => h.elim)

theorem Sto.cell {w : World} {B g c : Nat} {st : List SK} {ka : Nat → Option Addr × Nat} {lk : Nat → Option Nat} {mk : Nat → Int} (h : Sto w B g c st ka lk mk) (i t : Nat) (hi : i < st.length) (ht : t < 6) : w.cell? ⟨g, i * 6 + t, none⟩ = (snode (sk st i) (ka i) (lk i) (mk i))[t]? := by
  rw [owns_at h.own _ (by omega), scells_get st ka lk mk i t hi ht]

theorem Sto.frozen {w : World} {B g c : Nat} {st : List SK} {ka : Nat → Option Addr × Nat} {lk : Nat → Option Nat} {mk : Nat → Int} (h : Sto w B g c st ka lk mk) (j : Nat) : w.frozen? ⟨g, j, none⟩ = false := h.own.frozenAt j

theorem Sto.setLink {w : World} {B g c : Nat} {st : List SK} {ka : Nat → Option Addr × Nat} {lk : Nat → Option Nat} {mk : Nat → Int} (h : Sto w B g c st ka lk mk) (a b : Nat) (ha : a < st.length) : Sto (w.setCell ⟨g, a * 6 + 4, none⟩ (.int .i64 (b : Int))) B g c st ka (upd lk a b) mk := by
  refine ⟨?_, ?_⟩
  · have h9 := owns_setOne (v := .int .i64 (b : Int)) h.own (i := a * 6 + 4)
    rw [scells_link st ka lk mk a b ha] at h9
    exact h9
  · intro i k hk
    obtain ⟨b2, o, e1, e2, e3⟩ := h.kids i k hk
    have hb : But (· = g) w (w.setCell ⟨g, a * 6 + 4, none⟩ (.int .i64 (b : Int))) := (But.refl (· = g) w).setCell (p := ⟨g, a * 6 + 4, none⟩) rfl _
    have hlt : b2 < w.heap.size := lt_of_cell e3
    have h9 := hb.block b2 hlt e2
    refine ⟨b2, o, e1, e2, ?_⟩
    unfold World.cell? at e3 ⊢
    rw [h9]
    exact e3

theorem Sto.setMark {w : World} {B g c : Nat} {st : List SK} {ka : Nat → Option Addr × Nat} {lk : Nat → Option Nat} {mk : Nat → Int} (h : Sto w B g c st ka lk mk) (a : Nat) (m : Int) (ha : a < st.length) : Sto (w.setCell ⟨g, a * 6 + 5, none⟩ (.int .i64 m)) B g c st ka lk (updM mk a m) := by
  refine ⟨?_, ?_⟩
  · have h9 := owns_setOne (v := .int .i64 m) h.own (i := a * 6 + 5)
    rw [scells_mark st ka lk mk a m ha] at h9
    exact h9
  · intro i k hk
    obtain ⟨b2, o, e1, e2, e3⟩ := h.kids i k hk
    have hb : But (· = g) w (w.setCell ⟨g, a * 6 + 5, none⟩ (.int .i64 m)) := (But.refl (· = g) w).setCell (p := ⟨g, a * 6 + 5, none⟩) rfl _
    have hlt : b2 < w.heap.size := lt_of_cell e3
    have h9 := hb.block b2 hlt e2
    refine ⟨b2, o, e1, e2, ?_⟩
    unfold World.cell? at e3 ⊢
    rw [h9]
    exact e3

end Go.Proofs.YtahdmflbdmlfhaaGreatDoor

namespace Go.Proofs.YtahdmflbdmlfhaaGreatDoor

/-- What a solution puts for the unknowns of the pairs has no others in it. -/
theorem occ_metas {ps : List (List Nd × List Nd)} {σ : Int → List Nd} (hv : Valid ps) (h : SolveOk ps σ) {x : Int} (hx : Occ ps x) : ∀ y ∈ metas (σ x), Occ ps y := by
  classical
  intro y hy
  by_cases hoy : Occ ps y
  · exact hoy
  · exfalso
    have hx1 := occ_num hv hx
    have hpl := h.plain x hx1
    have h1 : ∀ y ∈ metas (σ x), σ y = [metaN y] := by
      have e : fill σ (σ x) = fill (fun x => [metaN x]) (σ x) := by rw [h.gen σ h.one h.sol x, fill_id hpl]
      exact fill_inj_one h.one metaN_one (plain_leafy hpl) (h.one x) e
    obtain ⟨θ, hθ⟩ : ∃ θ : Int → List Nd, θ = fun z => if Occ ps z then σ z else [⟨12, 0, ByteArray.empty, 0, 0⟩] := ⟨_, rfl⟩
    have ho : ∀ z, One (θ z) := by
      intro z
      subst hθ
      simp only
      split
      · exact h.one z
      · exact leaf_one _ rfl
    have hs : Solves θ ps := by
      intro p hp
      have e1 : fill θ p.1 = fill σ p.1 := fill_congr (fun z hz => by subst hθ; simp only; rw [if_pos ⟨p, hp, .inl hz⟩])
      have e2 : fill θ p.2 = fill σ p.2 := fill_congr (fun z hz => by subst hθ; simp only; rw [if_pos ⟨p, hp, .inr hz⟩])
      rw [e1, e2, h.sol p hp]
    have g1 := h.gen θ ho hs x
    have g2 : θ x = σ x := by subst hθ; simp only; rw [if_pos hx]
    have e : fill θ (σ x) = fill σ (σ x) := by rw [g1, g2, h.gen σ h.one h.sol x]
    have h2 := fill_inj_one ho h.one (plain_leafy hpl) (h.one x) e y hy
    rw [h1 y hy] at h2
    subst hθ
    simp only [if_neg hoy, metaN, List.cons.injEq, Nd.mk.injEq] at h2
    omega

/-- What is put for an unknown is made of nodes of the pairs. -/
theorem solve_nodes {ps : List (List Nd × List Nd)} {σ : Int → List Nd} (hv : Valid ps) (h : SolveOk ps σ) {x : Int} (hx : Occ ps x) (P : Nd → Prop) (hP : ∀ p ∈ ps, (∀ n ∈ p.1, n.kind ≠ 61 → P n) ∧ ∀ n ∈ p.2, n.kind ≠ 61 → P n) : ∀ n ∈ σ x, n.kind ≠ 61 → P n := by
  classical
  obtain ⟨μ, hμ⟩ : ∃ μ : Nd → Nd, μ = fun n => if n.kind = 61 ∨ P n then n else ⟨n.kind, n.num + 1, n.text, n.kids, n.place⟩ := ⟨_, rfl⟩
  have hk : ∀ n, (μ n).kids = n.kids := by
    intro n
    subst hμ
    simp only
    split <;> rfl
  have hfix : ∀ n, (n.kind = 61 ∨ P n) → μ n = n := by
    intro n hn
    subst hμ
    simp only
    rw [if_pos hn]
  have hback : ∀ n, μ n = n → n.kind ≠ 61 → P n := by
    intro n hn h61
    by_cases hp : P n
    · exact hp
    · exfalso
      subst hμ
      simp only at hn
      rw [if_neg (fun h => h.elim h61 hp)] at hn
      have := congrArg Nd.num hn
      simp only at this
      omega
  have hx1 := occ_num hv hx
  have hpl := h.plain x hx1
  have h1 : ∀ y ∈ metas (σ x), σ y = [metaN y] := by
    have e : fill σ (σ x) = fill (fun x => [metaN x]) (σ x) := by rw [h.gen σ h.one h.sol x, fill_id hpl]
    exact fill_inj_one h.one metaN_one (plain_leafy hpl) (h.one x) e
  obtain ⟨θ, hθ⟩ : ∃ θ : Int → List Nd, θ = fun z => (σ z).map μ := ⟨_, rfl⟩
  have ho : ∀ z, One (θ z) := by
    intro z
    subst hθ
    obtain ⟨s, ys, e⟩ := h.one z
    refine ⟨s, ys, ?_⟩
    have ek : ((σ z).map μ).map Nd.kids = (σ z).map Nd.kids := by
      rw [List.map_map]
      congr 1
      funext n
      exact hk n
    rw [List.length_map, after_kids ek]
    exact e
  have hside : ∀ t : List Nd, (∀ n ∈ t, n.kind ≠ 61 → P n) → fill θ t = (fill σ t).map μ := by
    intro t
    induction t with
    | nil => intro _; rfl
    | cons n t ih =>
      intro ht
      have e2 : ∀ (θ : Int → List Nd) (n : Nd) (t : List Nd), fill θ (n :: t) = fillN θ n ++ fill θ t := fun θ n t => by simp [fill]
      rw [e2, e2, List.map_append, ih (fun m hm => ht m (by simp [hm]))]
      congr 1
      unfold fillN
      by_cases h61 : n.kind = 61
      · rw [if_pos h61, if_pos h61]; subst hθ; rfl
      · rw [if_neg h61, if_neg h61]
        simp only [List.map_cons, List.map_nil]
        rw [hfix n (.inr (ht n (by simp) h61))]
  have hs : Solves θ ps := by
    intro p hp
    rw [hside p.1 (hP p hp).1, hside p.2 (hP p hp).2, h.sol p hp]
  have g1 := h.gen θ ho hs x
  have g2 : fill θ (σ x) = σ x := by
    have e : fill θ (σ x) = fill (fun x => [metaN x]) (σ x) := by
      refine fill_congr (fun y hy => ?_)
      subst hθ
      simp only [h1 y hy, List.map_cons, List.map_nil]
      rw [hfix _ (.inl rfl)]
    rw [e, fill_id hpl]
  rw [g2] at g1
  have g3 : σ x = (σ x).map μ := by subst hθ; exact g1
  intro n hn h61
  obtain ⟨i, hi, rfl⟩ := List.getElem_of_mem hn
  refine hback _ ?_ h61
  have : (σ x)[i]? = ((σ x).map μ)[i]? := by rw [← g3]
  rw [List.getElem?_map, List.getElem?_eq_getElem hi] at this
  simp only [Option.map_some, Option.some.injEq] at this
  exact this.symm

theorem fsAt_nums {bs : List (Int × List Nd)} {σ : Int → List Nd} (h : ∀ p ∈ bs, p.2 = σ p.1) {x : Int} (hx : x ∈ nums bs) : fsAt bs x = some (σ x) := by
  obtain ⟨p, hp, e⟩ := List.mem_map.1 hx
  have hs := fsAt_some.2 ⟨p, hp, e⟩
  obtain ⟨t, ht⟩ := Option.isSome_iff_exists.1 hs
  obtain ⟨hl, et⟩ := fsAt_lt ht
  have h9 : placeIn (bs.map Prod.fst) x < (bs.map Prod.fst).length := by simpa using hl
  have h8 : ((bs.map Prod.fst)[placeIn (bs.map Prod.fst) x] == x) = true := List.findIdx_getElem (w := h9)
  rw [List.getElem_map] at h8
  have h7 : bs[placeIn (bs.map Prod.fst) x].1 = x := by simpa using h8
  rw [ht, ← et, h _ (List.getElem_mem hl), h7]

/-- All that FnSolve asks of a solution. -/
theorem solved_put {ps : List (List Nd × List Nd)} {i : Int} {bs : List (Int × List Nd)} (h : SolveRes ps true i bs) {p : List Nd × List Nd} (hp : p ∈ ps) :
    putOf bs p.1 = putOf bs p.2 ∧ (putOf bs p.1 ≠ [] → putOf bs (putOf bs p.1) = putOf bs p.1) := by
  cases h using SolveRes.inv with
  | ok σ _ hv hs hup hocc hall =>
    have hty := hv.2 p hp
    have hσ : ∀ q ∈ bs, q.2 = σ q.1 := fun q hq => (hall q hq).1
    have htb : ∀ b ∈ bs, typeb b.2 = true := by
      intro q hq
      have ho : Occ ps q.1 := (hocc q.1).1 (List.mem_map.2 ⟨q, hq, rfl⟩)
      rw [(hall q hq).1]
      have hl := (hall q hq).2
      rw [(hall q hq).1] at hl
      exact one_type (hs.one _) hl (hs.plain _ (occ_num hv ho))
    have hfill : ∀ t : List Nd, t.all Nd.plainb = true → (∀ x ∈ metas t, Occ ps x) → putAll bs t = fill σ t := by
      intro t ht ho
      rw [putAll_fill bs ht]
      refine fill_congr (fun x hx => ?_)
      rw [fsAt_nums hσ ((hocc x).2 (ho x hx))]
      rfl
    have e1 := hfill p.1 (typeb_plain hty.1) (fun x hx => ⟨p, hp, .inl hx⟩)
    have e2 := hfill p.2 (typeb_plain hty.2) (fun x hx => ⟨p, hp, .inr hx⟩)
    have e3 : putAll bs p.1 = putAll bs p.2 := by rw [e1, e2, hs.sol p hp]
    refine ⟨?_, fun hne => ?_⟩
    · unfold putOf
      rw [hty.1, hty.2, e3]
    · obtain ⟨h1, h2, h3, h4⟩ := putOf_ne hne
      rw [h4]
      have ht := putAll_type h2 h1 h3
      have hm : ∀ y ∈ metas (putAll bs p.1), Occ ps y := by
        intro y hy
        rw [e1] at hy
        obtain ⟨n, hn, rfl⟩ := List.mem_map.1 hy
        obtain ⟨hn1, hn2⟩ := List.mem_filter.1 hn
        obtain ⟨m, hm, hnm⟩ := List.mem_flatMap.1 hn1
        unfold fillN at hnm
        split at hnm
        · next hk =>
          have hom : Occ ps m.num := ⟨p, hp, .inl (List.mem_map.2 ⟨m, List.mem_filter.2 ⟨hm, by simpa using hk⟩, rfl⟩)⟩
          exact occ_metas hv hs hom n.num (List.mem_map.2 ⟨n, List.mem_filter.2 ⟨hnm, hn2⟩, rfl⟩)
        · next hk =>
          simp only [List.mem_singleton] at hnm
          subst hnm
          exact absurd (by simpa using hn2) hk
      have e5 := hfill (putAll bs p.1) (typeb_plain ht) hm
      have e6 : putAll bs (putAll bs p.1) = putAll bs p.1 := by
        rw [e5, e1]
        have hff : ∀ t : List Nd, fill σ (fill σ t) = fill (fun x => fill σ (σ x)) t := by
          intro t
          induction t with
          | nil => rfl
          | cons n t ih =>
            have e9 : ∀ (θ : Int → List Nd) (n : Nd) (t : List Nd), fill θ (n :: t) = fillN θ n ++ fill θ t := fun θ n t => by simp [fill]
            rw [e9, e9, fill_append, ih]
            congr 1
            unfold fillN
            by_cases hk : n.kind = 61
            · rw [if_pos hk, if_pos hk]
            · rw [if_neg hk, if_neg hk]; simp [fill, fillN, hk]
        rw [hff]
        refine fill_congr (fun x _ => ?_)
        exact hs.gen σ hs.one hs.sol x
      rw [putOf_eq ht h2 (by rw [e6]; exact h3), e6]

/-- What Solve says of the pairs up to the one that is told. -/
theorem solve_ahead {ps : List (List Nd × List Nd)} {i : Nat} {bs : List (Int × List Nd)} (h : SolveRes ps false (i : Int) bs) :
    i < ps.length ∧ (∀ {ok : Bool} {j : Int} {cs : List (Int × List Nd)}, SolveRes (ps.take i) ok j cs → ok = true ∨ j = -1) ∧ ∀ {ok : Bool} {j : Int} {cs : List (Int × List Nd)}, SolveRes (ps.take (i + 1)) ok j cs → ok = false := by
  generalize hat : (i : Int) = k at h
  cases h using SolveRes.inv with
  | bad _ => omega
  | large _ _ _ _ _ _ => omega
  | no i' hv hl hy hn =>
    obtain rfl : i = i' := by omega
    refine ⟨hl, fun {ok j cs} h2 => ?_, fun {ok j cs} h2 => ?_⟩
    · cases h2 using SolveRes.inv with
      | bad _ => exact .inr rfl
      | large _ _ _ _ _ _ => exact .inr rfl
      | ok _ _ _ _ _ _ _ => exact .inl rfl
      | no j' _ hjl _ hnj =>
        exfalso
        obtain ⟨θ, hθ, hs⟩ := hy
        exact hnj θ hθ (hs.take _)
    · cases h2 using SolveRes.inv with
      | bad _ => rfl
      | large _ _ _ _ _ _ => rfl
      | no _ _ _ _ _ => rfl
      | ok σ _ _ h3 _ _ _ => exact absurd h3.sol (hn σ h3.one)

/-- Numbers of what Put makes of pairs that are solved. -/
theorem solved_wf {ps : List (List Nd × List Nd)} {ok : Bool} {i : Int} {bs : List (Int × List Nd)} (h : SolveRes ps ok i bs) (hw : ∀ p ∈ ps, (∀ n ∈ p.1, (Go.Lit.int .i64 n.num).wf = true) ∧ ∀ n ∈ p.2, (Go.Lit.int .i64 n.num).wf = true) :
    (∀ b ∈ bs, (Go.Lit.int .i64 b.1).wf = true) ∧ ∀ p ∈ ps, ∀ n ∈ putOf bs p.1, (Go.Lit.int .i64 n.num).wf = true := by
  have hocc : ∀ x, Occ ps x → (Go.Lit.int .i64 x).wf = true := by
    rintro x ⟨p, hp, hx⟩
    rcases hx with hx | hx
    · obtain ⟨n, hn, rfl⟩ := List.mem_map.1 hx
      exact (hw p hp).1 n (List.mem_filter.1 hn).1
    · obtain ⟨n, hn, rfl⟩ := List.mem_map.1 hx
      exact (hw p hp).2 n (List.mem_filter.1 hn).1
  have hb : ∀ b ∈ bs, (Go.Lit.int .i64 b.1).wf = true ∧ ∀ n ∈ b.2, (Go.Lit.int .i64 n.num).wf = true := by
    cases h using SolveRes.inv with
    | bad _ => intro b hb; simp at hb
    | no _ _ _ _ _ => intro b hb; simp at hb
    | large _ _ _ _ _ _ => intro b hb; simp at hb
    | ok σ _ h1 h2 h3 h4 h5 =>
      intro q hq
      have ho : Occ ps q.1 := (h4 q.1).1 (List.mem_map.2 ⟨q, hq, rfl⟩)
      refine ⟨hocc _ ho, fun n hn => ?_⟩
      rw [(h5 q hq).1] at hn
      by_cases hk : n.kind = 61
      · exact hocc _ (occ_metas h1 h2 ho n.num (List.mem_map.2 ⟨n, List.mem_filter.2 ⟨hn, by simpa using hk⟩, rfl⟩))
      · exact solve_nodes h1 h2 ho (fun n => (Go.Lit.int .i64 n.num).wf = true) (fun p hp => ⟨fun n hn _ => (hw p hp).1 n hn, fun n hn _ => (hw p hp).2 n hn⟩) n hn hk
  refine ⟨fun b hb' => (hb b hb').1, fun p hp n hn => ?_⟩
  have hn2 : n ∈ putAll bs p.1 := by
    unfold putOf at hn
    split at hn
    · exact hn
    · simp at hn
  obtain ⟨m, hm, hnm⟩ := List.mem_flatMap.1 hn2
  unfold putSub at hnm
  split at hnm
  · cases hq : bs[placeIn (bs.map Prod.fst) m.num]? with
    | none =>
      rw [hq] at hnm
      simp only [Option.map_none, Option.getD_none, List.mem_singleton] at hnm
      subst hnm
      exact (hw p hp).1 _ hm
    | some q =>
      rw [hq] at hnm
      simp only [Option.map_some, Option.getD_some] at hnm
      obtain ⟨hl, he⟩ := List.getElem?_eq_some_iff.1 hq
      have hqm : q ∈ bs := by rw [← he]; exact List.getElem_mem hl
      exact (hb q hqm).2 n hnm
  · simp only [List.mem_singleton] at hnm
    subst hnm
    exact (hw p hp).1 _ hm

end Go.Proofs.YtahdmflbdmlfhaaGreatDoor

import Derived.Test.YtahdmflbdmlfhaaGreatDoorWBI
import Derived.Test.YtahdmflbdmlfhaaGreatDoorWAP
import Derived.Test.YtahdmflbdmlfhaaGreatDoorWAL
namespace Go.Proofs.YtahdmflbdmlfhaaGreatDoor

theorem D_plain {st : List SK} (hs : Sts st) {lk : Nat → Option Nat} {r : Nat → Nat} (hr : Ranked st lk r) (hg : ∀ i j, lk i = some j → i < st.length ∧ j < st.length) {D : Nat → List Nd} (hD : IsD st lk D) : ∀ i, i < st.length → ∀ y ∈ D i, y.plainb = true := by
  intro i
  induction hn : r i using Nat.strongRecOn generalizing i with
  | ind n ih =>
    intro hi
    cases hl : lk i with
    | some j => rw [hD.link hl]; exact ih (r j) (by have := hr.link i j hl; omega) j rfl (hg i j hl).2
    | none =>
      rw [hD.node hl]
      intro y hy
      rcases List.mem_append.1 hy with hy | hy
      · obtain ⟨k, hk, hy⟩ := List.mem_flatMap.1 hy
        exact ih (r k) (by have := hr.kid i hl k hk; omega) k rfl (Nat.lt_trans (hs.kids i k hk) hi) y hy
      · simp only [List.mem_singleton] at hy
        subst hy
        exact hs.plain i hi

theorem Rt.low {st : List SK} {lk : Nat → Option Nat} (hI : Inv st lk) {i r : Nat} (h : Rt lk i r) : (sk st r).kind = 61 → (sk st i).kind = 61 ∧ (sk st r).num ≤ (sk st i).num := by
  induction h using Rt.elim with
  | root _ => exact fun h => ⟨h, Int.le_refl _⟩
  | @step i j r h1 _ ih =>
    intro hk
    obtain ⟨a1, a2⟩ := ih hk
    by_cases hi : (sk st i).kind = 61
    · have := hI.low i j h1 hi a1
      exact ⟨hi, by omega⟩
    · exact absurd a1 (hI.cong i j h1 hi).1

theorem meta_plain (x : Int) (h : 1 ≤ x) : (metaN x).plainb = true := by simp [Nd.plainb, metaN, h]

theorem solve_ok {st : List SK} (hs : Sts st) {lk : Nat → Option Nat} (hI : Inv st lk) {D : Nat → List Nd} (hD : IsD st lk D) {ps : List (List Nd × List Nd)} (hsat : ∀ θ, (∀ x, One (θ x)) → (Sat θ st lk ↔ Solves θ ps)) : SolveOk ps (fillD Classical.propDecidable Classical.epsilon st D) := by
  obtain ⟨r, hr⟩ := hI.rank
  refine ⟨fillD_one hr hD, fun x hx1 => ?_, (hsat _ (fillD_one hr hD)).1 (D_sat hs hI hD), fun θ hθ hsol x => ?_, fun x y e => ?_⟩
  · unfold fillD
    split
    · rename_i hx
      exact List.all_eq_true.2 (D_plain hs hr hI.rng hD _ (Classical.epsilon_spec hx).1)
    · have := meta_plain x hx1
      simpa [metaN] using this
  · by_cases hx : ∃ i, i < st.length ∧ (sk st i).kind = 61 ∧ (sk st i).num = x
    · obtain ⟨i, hi, hk, rfl⟩ := hx
      rw [fillD_at hs D hi hk, ← D_general hs hr hD ((hsat θ hθ).2 hsol) i, T_meta θ hs hk]
    · unfold fillD
      rw [if_neg hx]
      simp [fill, fillN]
  · by_cases hx : ∃ i, i < st.length ∧ (sk st i).kind = 61 ∧ (sk st i).num = x
    · obtain ⟨i, hi, hk, rfl⟩ := hx
      rw [fillD_at hs D hi hk] at e
      obtain ⟨q, hq⟩ := hr.rt i
      rw [hD.rt hq, hD.node hq.is_root] at e
      have e2 := congrArg List.getLast? e
      simp only [List.getLast?_append, List.getLast?_singleton, Option.some_or, Option.some.injEq] at e2
      have k1 : (sk st q).kind = 61 := congrArg Nd.kind e2
      have k2 : (sk st q).num = y := congrArg Nd.num e2
      rw [← k2]
      exact (hq.low hI k1).2
    · unfold fillD at e
      rw [if_neg hx] at e
      have := metaN_inj (x := x) (y := y) e
      omega

/-- The store after i pairs. -/
structure LoopS (ps : List (List Nd × List Nd)) (i : Nat) (st : List SK) (lk : Nat → Option Nat) (ms : List (Int × Nat)) : Prop where
  sts : Sts st
  inv : Inv st lk
  msok : MsOk st ms
  sat : ∀ θ, (∀ x, One (θ x)) → (Sat θ st lk ↔ Solves θ (ps.take i))
  occ : ∀ x, x ∈ ms.map Prod.fst ↔ Occ (ps.take i) x
  few : st.length ≤ ((ps.take i).map fun p => p.1.length + p.2.length).sum

theorem sts_nil : Sts [] := ⟨fun i k hk => by simp [sk, SK.none] at hk, fun i h => by simp [sk, SK.none] at h, fun i j hi => by simp at hi, fun i hi => by simp at hi, fun i => by simp [sk, SK.none]⟩

theorem inv_nil : Inv [] (fun _ => none) := ⟨⟨fun _ => 0, fun i j e => by simp at e, fun i _ k hk => by simp [sk, SK.none] at hk⟩, fun i j e => by simp at e, fun i j e => by simp at e, fun i j e => by simp at e⟩

theorem LoopS.start (ps : List (List Nd × List Nd)) : LoopS ps 0 [] (fun _ => none) [] :=
  ⟨sts_nil, inv_nil, ⟨fun p hp => by simp at hp, fun i hi => by simp at hi, by simp⟩, fun θ _ => ⟨fun _ p hp => by simp at hp, fun _ i j e => by simp at e⟩, fun x => by simp [Occ], by simp⟩

/-- Both sides of a pair are in the store. -/
structure TwoPut (A B : List Nd) (st : List SK) (ms : List (Int × Nat)) (st' : List SK) (a b : Nat) (ms' : List (Int × Nat)) : Prop where
  grown : Grown st st'
  sts : Sts st'
  msok : MsOk st' ms'
  ina : a < st'.length ∧ ∀ θ, T Classical.epsilon θ st' a = fill θ A
  inb : b < st'.length ∧ ∀ θ, T Classical.epsilon θ st' b = fill θ B
  occ : ∀ x, x ∈ ms'.map Prod.fst ↔ x ∈ ms.map Prod.fst ∨ x ∈ metas A ∨ x ∈ metas B
  few : st'.length ≤ st.length + A.length + B.length

theorem occ_next {ps : List (List Nd × List Nd)} {i : Nat} (hi : i < ps.length) (x : Int) : Occ (ps.take (i + 1)) x ↔ Occ (ps.take i) x ∨ x ∈ metas ps[i].1 ∨ x ∈ metas ps[i].2 := by
  rw [List.take_succ_eq_append_getElem hi]
  constructor
  · rintro ⟨p, hp, h⟩
    rcases List.mem_append.1 hp with hp | hp
    · exact .inl ⟨p, hp, h⟩
    · simp only [List.mem_singleton] at hp
      subst hp
      exact .inr h
  · rintro (⟨p, hp, h⟩ | h)
    · exact ⟨p, List.mem_append_left _ hp, h⟩
    · exact ⟨ps[i], List.mem_append_right _ (List.mem_singleton.2 rfl), h⟩

theorem solves_next {θ : Int → List Nd} {ps : List (List Nd × List Nd)} {i : Nat} (hi : i < ps.length) : Solves θ (ps.take (i + 1)) ↔ Solves θ (ps.take i) ∧ fill θ ps[i].1 = fill θ ps[i].2 := by
  rw [List.take_succ_eq_append_getElem hi]
  constructor
  · intro h
    exact ⟨fun p hp => h p (List.mem_append_left _ hp), h ps[i] (List.mem_append_right _ (List.mem_singleton.2 rfl))⟩
  · rintro ⟨h1, h2⟩ p hp
    rcases List.mem_append.1 hp with hp | hp
    · exact h1 p hp
    · simp only [List.mem_singleton] at hp
      subst hp
      exact h2

theorem LoopS.next {ps : List (List Nd × List Nd)} {i : Nat} {st st' : List SK} {lk lk' : Nat → Option Nat} {ms ms' : List (Int × Nat)} {a b : Nat} (h : LoopS ps i st lk ms) (hi : i < ps.length) (h2 : TwoPut ps[i].1 ps[i].2 st ms st' a b ms') (hu : UOk st' lk a b lk') : LoopS ps (i + 1) st' lk' ms' := by
  refine ⟨h2.sts, hu.inv, h2.msok, fun θ hθ => ?_, fun x => ?_, ?_⟩
  · rw [hu.sat θ hθ, solves_next hi, h2.grown.sat h.inv.rng θ, h.sat θ hθ, h2.ina.2 θ, h2.inb.2 θ]
  · rw [h2.occ x, h.occ x, occ_next hi]
  · have h3 := h.few
    have h4 := h2.few
    rw [List.take_succ_eq_append_getElem hi, List.map_append, List.sum_append]
    simp only [List.map_cons, List.map_nil, List.sum_cons, List.sum_nil]
    omega

theorem LoopS.no {ps : List (List Nd × List Nd)} {i : Nat} {st st' : List SK} {lk : Nat → Option Nat} {ms ms' : List (Int × Nat)} {a b : Nat} (h : LoopS ps i st lk ms) (hv : Valid ps) (hi : i < ps.length) (h2 : TwoPut ps[i].1 ps[i].2 st ms st' a b ms') (hu : UNo st' lk a b) : SolveRes ps false i [] := by
  refine .no i hv hi ?_ (fun θ hθ hsol => ?_)
  · obtain ⟨r, hr⟩ := h.inv.rank
    obtain ⟨D, hD⟩ := hr.exists_D
    exact ⟨fillD Classical.propDecidable Classical.epsilon st D, fillD_one hr hD, (h.sat _ (fillD_one hr hD)).1 (D_sat h.sts h.inv hD)⟩
  · obtain ⟨h3, h4⟩ := (solves_next hi).1 hsol
    refine hu θ hθ ((h2.grown.sat h.inv.rng θ).2 ((h.sat θ hθ).2 h3)) ?_
    rw [h2.ina.2 θ, h2.inb.2 θ]
    exact h4

/-- Where all pairs are done: what is written of the unknowns is the answer. -/
theorem LoopS.done {ps : List (List Nd × List Nd)} {st : List SK} {lk : Nat → Option Nat} {ms : List (Int × Nat)} (h : LoopS ps ps.length st lk ms) {D : Nat → List Nd} (hD : IsD st lk D) : SolveOk ps (fillD Classical.propDecidable Classical.epsilon st D) ∧ (∀ p ∈ ms, fillD Classical.propDecidable Classical.epsilon st D p.1 = D p.2) ∧ ∀ x, x ∈ ms.map Prod.fst ↔ Occ ps x := by
  have e : ps.take ps.length = ps := List.take_of_length_le (Nat.le_refl _)
  refine ⟨solve_ok h.sts h.inv hD (fun θ hθ => by rw [h.sat θ hθ, e]), fun p hp => ?_, fun x => by rw [h.occ x, e]⟩
  obtain ⟨h1, h2, h3⟩ := h.msok.at' p hp
  rw [← h3]
  exact fillD_at h.sts D h1 h2

theorem put_two {A B : List Nd} {st stA stB : List SK} {ms msA msB : List (Int × Nat)} {yA yB : List Sp} {mA mB : Nat} {aA aB : List Nat} {a b : Nat} (hA : A.length = mA) (hB : B.length = mB) (hpA : PutS st ms A yA mA stA aA msA) (hpB : PutS stA msA B yB mB stB aB msB) (tA : ∃ s, 0 < mA ∧ yA[mA - 1]? = some s ∧ span A s.fr (mA - 1) = A) (tB : ∃ s, 0 < mB ∧ yB[mB - 1]? = some s ∧ span B s.fr (mB - 1) = B) (ha : aA[mA - 1]? = some a) (hb : aB[mB - 1]? = some b) : TwoPut A B st ms stB a b msB := by
  obtain ⟨sA, a0, a1, a2⟩ := tA
  obtain ⟨sB, b0, b1, b2⟩ := tB
  obtain ⟨x1, x2⟩ := hpA.mean (mA - 1) sA a (by omega) a1 ha
  obtain ⟨y1, y2⟩ := hpB.mean (mB - 1) sB b (by omega) b1 hb
  rw [a2] at x2
  rw [b2] at y2
  refine ⟨hpA.grown.trans hpB.grown, hpB.sts, hpB.msok, ⟨Nat.lt_of_lt_of_le x1 hpB.grown.le, fun θ => by rw [hpB.grown.t θ a x1]; exact x2 θ⟩, ⟨y1, y2⟩, fun x => ?_, by have := hpA.few; have := hpB.few; omega⟩
  rw [hpB.occ x, hpA.occ x, List.take_of_length_le (by omega), List.take_of_length_le (by omega), or_assoc]

end Go.Proofs.YtahdmflbdmlfhaaGreatDoor

namespace Go.Proofs.YtahdmflbdmlfhaaGreatDoor

open Go.RowKit

theorem scells_push {st : List SK} (x : SK) {ka ka' : Nat → Option Addr × Nat} (lk : Nat → Option Nat) {mk mk' : Nat → Int} (h1 : ∀ i, i < st.length → ka' i = ka i) (h2 : ∀ i, i < st.length → mk' i = mk i) : scells (st ++ [x]) ka' lk mk' = scells st ka lk mk ++ snode x (ka' st.length) (lk st.length) (mk' st.length) := by
  unfold scells
  rw [List.length_append, List.length_singleton, List.range_succ, List.flatMap_append]
  congr 1
  · refine flatMap_congr (fun i hi => ?_)
    have hi' := List.mem_range.1 hi
    rw [sk_push_old hi', h1 i hi', h2 i hi']
  · simp [sk_push_new]

/-- A store whose row may be nil. -/
structure StoV (w : World) (B : Nat) (ao : Option Addr) (c : Nat) (st : List SK) (ka : Nat → Option Addr × Nat) (lk : Nat → Option Nat) (mk : Nat → Int) : Prop where
  own : w.ownsRow B 83 6 (.slice ao st.length c) st.length (scells st ka lk mk)
  kids : ∀ i, ∀ k (h : k < (sk st i).kids.length), ∃ b o, (ka i).1 = some ⟨b, o, none⟩ ∧ (Value.slice ao st.length c).ownBlock ≠ some b ∧ w.cell? ⟨b, o + k, none⟩ = some (.int .i64 ((sk st i).kids[k] : Int))

theorem Sto.toV {w : World} {B g c : Nat} {st : List SK} {ka : Nat → Option Addr × Nat} {lk : Nat → Option Nat} {mk : Nat → Int} (h : Sto w B g c st ka lk mk) : StoV w B (some ⟨g, 0, none⟩) c st ka lk mk := by
  refine ⟨h.own, fun i k hk => ?_⟩
  obtain ⟨b, o, e1, e2, e3⟩ := h.kids i k hk
  refine ⟨b, o, e1, ?_, e3⟩
  simp only [Value.ownBlock, ne_eq, Option.some.injEq]
  exact fun e => e2 e.symm

theorem StoV.start (w : World) (B : Nat) (ka : Nat → Option Addr × Nat) (mk : Nat → Int) : StoV w B none 0 [] ka (fun _ => none) mk :=
  ⟨⟨rfl, .inl ⟨rfl, rfl⟩⟩, fun i k hk => by simp [sk, SK.none] at hk⟩

theorem own_lt {w : World} {B : Nat} {e : TypeId} {size : Nat} {v : Value} {n : Nat} {xs : List Value} (h : w.ownsRow B e size v n xs) {g : Nat} (hg : v.ownBlock = some g) : g < w.heap.size := by
  rcases h.2 with ⟨rfl, _⟩ | ⟨g2, cap, cur, rfl, hb, hh, _⟩
  · cases hg
  · simp only [Value.ownBlock, Option.some.injEq] at hg
    subst hg
    exact (Array.getElem?_eq_some_iff.1 hh).1

theorem but_drewU {S : Nat → Prop} {w w' : World} (h : But S w w') : But S w w'.drew := ⟨h.os, h.tape, h.output, h.size, h.block⟩

theorem addr0 (g j : Nat) : Addr.add ⟨g, 0, none⟩ j = ⟨g, j, none⟩ := by
  unfold Addr.add
  split
  · simp_all
  · simp

theorem sto_push {w w1 w2 w3 : World} {B : Nat} {ao : Option Addr} {c : Nat} {st : List SK} {ka : Nat → Option Addr × Nat} {lk : Nat → Option Nat} {mk : Nat → Int} (h : StoV w B ao c st ka lk mk) {x : SK} {so : Option Addr} {c0 : Nat} (hlk : lk st.length = none)
    (hk : ∀ k (h : k < x.kids.length), ∃ b o, so = some ⟨b, o, none⟩ ∧ (Value.slice ao st.length c).ownBlock ≠ some b ∧ w.cell? ⟨b, o + k, none⟩ = some (.int .i64 (x.kids[k] : Int)))
    (hb : Below w.heap.size w w1) {g' c' : Nat} (hown : w2.ownsRow B 83 6 (.slice (some ⟨g', 0, none⟩) (st.length + 1) c') (st.length + 1) (scells st ka lk mk ++ snode x (so, c0) none 0)) (hg : w1.grownBy w2 (Value.slice ao st.length c).ownBlock) (hwh : (Value.slice ao st.length c).ownBlock = some g' ∨ w1.heap.size ≤ g') (hb3 : But (fun i => w.heap.size ≤ i ∧ i < w1.heap.size) w2 w3) :
    Sto w3 B g' c' (st ++ [x]) (fun i => if i = st.length then (so, c0) else ka i) lk (updM mk st.length 0) := by
  have key : ∀ b o v, (Value.slice ao st.length c).ownBlock ≠ some b → w.cell? ⟨b, o, none⟩ = some v → b ≠ g' ∧ w3.cell? ⟨b, o, none⟩ = some v := by
    intro b o v hne hc
    have hlt : b < w.heap.size := lt_of_cell hc
    have hz := hb.size
    refine ⟨fun e => ?_, ?_⟩
    · rcases hwh with h9 | h9
      · rw [e] at hne; exact hne h9
      · omega
    · have h7 := hg.size
      have h8 := (hb3.block b (by omega) (by omega)).trans ((hg.block b (by omega) (fun e => hne e.symm)).trans (hb.block b hlt))
      unfold World.cell? at hc ⊢
      rw [h8]
      exact hc
  have e6 : scells (st ++ [x]) (fun i => if i = st.length then (so, c0) else ka i) lk (updM mk st.length 0) = scells st ka lk mk ++ snode x (so, c0) none 0 := by
    rw [scells_push x lk (ka := ka) (mk := mk) (fun i hi => if_neg (by omega)) (fun i hi => by simp [updM, show i ≠ st.length by omega])]
    simp [updM, hlk]
  refine ⟨?_, fun i k hk' => ?_⟩
  · rw [e6, List.length_append, List.length_singleton]
    refine owns_but hown hb3 ?_
    rintro ⟨h7, h8⟩
    rcases hwh with h9 | h9
    · have := own_lt h.own h9
      omega
    · omega
  · rcases sk_push st x i with ⟨a1, e⟩ | ⟨a1, e⟩ | ⟨a1, e⟩
    · simp only [e] at hk' ⊢
      obtain ⟨b, o, e1, e2, e3⟩ := h.kids i k hk'
      obtain ⟨k1, k2⟩ := key b _ _ e2 e3
      exact ⟨b, o, by rw [if_neg (by omega)]; exact e1, k1, k2⟩
    · simp only [e] at hk' ⊢
      obtain ⟨b, o, e1, e2, e3⟩ := hk k hk'
      obtain ⟨k1, k2⟩ := key b _ _ e2 e3
      exact ⟨b, o, by rw [if_pos a1]; exact e1, k1, k2⟩
    · rw [e] at hk'
      simp [SK.none] at hk'

theorem Tryz.infoSN : (Tryz.prog.info? 83).map (fun i => (i.zero, i.size, i.bytes)) = some (some (.agg #[.int .i64 0, .int .i64 0, .string ByteArray.empty, .slice none 0 0, .int .i64 0, .int .i64 0]), 6, 72) := by kernel_rfl

theorem snode_cells (w : World) (x : SK) (so : Option Addr) (c0 : Nat) : ∀ j u, (snode x (so, c0) none 0)[j]? = some u → (w.alloc (.cells #[.int .i64 x.kind, .int .i64 x.num, .string x.text, .slice so x.kids.length c0, .int .i64 (-1), .int .i64 0] 83)).cell? (Addr.add ⟨w.heap.size, 0, none⟩ j) = some u := by
  intro j u hj
  rw [addr0, cell_of_row _ w.heap.size j _ 83 (0, 0) (heap_alloc_new _ _), ← hj]
  simp [snode, lkv]

theorem snode_one (x : SK) (so : Option Addr) (c0 : Nat) : ∀ u ∈ snode x (so, c0) none 0, u.oneCell' = true := by
  intro u hu
  simp only [snode, List.mem_cons, List.not_mem_nil, or_false] at hu
  rcases hu with rfl | rfl | rfl | rfl | rfl | rfl <;> rfl

set_option maxRecDepth 20000 in
set_option maxHeartbeats 2000000 in
theorem new_any (st : List SK) (n : Nat) (HL : Hid (st.length = n)) (hn : n ≤ 1048576) (ka : Nat → Option Addr × Nat) (lk : Nat → Option Nat) (mk : Nat → Int) (HLK : Hid (lk n = none)) (B : Nat) (ao : Option Addr) (c : Nat) (wk : Int) (w : World) (hS : StoV w B ao c st ka lk mk) (hB : B ≤ w.heap.size) (x : SK) (so : Option Addr) (q c0 : Nat) (HQ : Hid (x.kids.length = q)) (l0 : Int)
    (hk : ∀ k (h : k < x.kids.length), ∃ b o, so = some ⟨b, o, none⟩ ∧ (Value.slice ao n c).ownBlock ≠ some b ∧ w.cell? ⟨b, o + k, none⟩ = some (.int .i64 (x.kids[k] : Int))) :
    Calls Tryz.prog 34 #[.agg #[.slice ao n c, .int .i64 wk], .agg #[.int .i64 x.kind, .int .i64 x.num, .string x.text, .slice so q c0, .int .i64 l0, .int .i64 0]] w fun e w' => ∃ g' c', e = .returned (.tuple #[.agg #[.slice (some ⟨g', 0, none⟩) (n + 1) c', .int .i64 wk], .int .i64 (n : Int)]) ∧ Sto w' B g' c' (st ++ [x]) (fun i => if i = n then (so, c0) else ka i) lk (updM mk n 0) ∧ But (fun i => (Value.slice ao n c).ownBlock = some i) w w' ∧ ((Value.slice ao n c).ownBlock = some g' ∨ w.heap.size ≤ g') := by
  obtain ⟨i0, hi, hz0, hz1, hz2⟩ := info_parts Tryz.infoSN
  have hq := HQ.out
  have hl := HL.out
  subst hl
  subst hq
  have hb4 : Below w.heap.size w ((((w.alloc (.cells #[.slice ao st.length c, .int .i64 wk] 50)).alloc (.cells #[.int .i64 x.kind, .int .i64 x.num, .string x.text, .slice so x.kids.length c0, .int .i64 (-1), .int .i64 0] 83)).alloc (.cells #[.slice none 0 0, .int .i64 0] 50)).alloc (.cells #[.int .i64 x.kind, .int .i64 x.num, .string x.text, .slice so x.kids.length c0, .int .i64 (-1), .int .i64 0] 83)) := ((((Below.refl _ w).alloc (Nat.le_refl _) _).alloc (by simp) _).alloc (by simp; omega) _).alloc (by simp; omega) _
  have hown4 : ((((w.alloc (.cells #[.slice ao st.length c, .int .i64 wk] 50)).alloc (.cells #[.int .i64 x.kind, .int .i64 x.num, .string x.text, .slice so x.kids.length c0, .int .i64 (-1), .int .i64 0] 83)).alloc (.cells #[.slice none 0 0, .int .i64 0] 50)).alloc (.cells #[.int .i64 x.kind, .int .i64 x.num, .string x.text, .slice so x.kids.length c0, .int .i64 (-1), .int .i64 0] 83)).ownsRow B 83 6 (.slice ao st.length c) st.length (scells st ka lk mk) := (((hS.own.alloc _).alloc _).alloc _).alloc _
  have hcells := snode_cells (((w.alloc (.cells #[.slice ao st.length c, .int .i64 wk] 50)).alloc (.cells #[.int .i64 x.kind, .int .i64 x.num, .string x.text, .slice so x.kids.length c0, .int .i64 (-1), .int .i64 0] 83)).alloc (.cells #[.slice none 0 0, .int .i64 0] 50)) x so c0
  have hz3 : (((w.alloc (.cells #[.slice ao st.length c, .int .i64 wk] 50)).alloc (.cells #[.int .i64 x.kind, .int .i64 x.num, .string x.text, .slice so x.kids.length c0, .int .i64 (-1), .int .i64 0] 83)).alloc (.cells #[.slice none 0 0, .int .i64 0] 50)).heap.size = w.heap.size + 1 + 1 + 1 := by simp
  rw [hz3] at hcells
  have k0 : ((((w.alloc (.cells #[.slice ao st.length c, .int .i64 wk] 50)).alloc (.cells #[.int .i64 x.kind, .int .i64 x.num, .string x.text, .slice so x.kids.length c0, .int .i64 (-1), .int .i64 0] 83)).alloc (.cells #[.slice none 0 0, .int .i64 0] 50)).alloc (.cells #[.int .i64 x.kind, .int .i64 x.num, .string x.text, .slice so x.kids.length c0, .int .i64 (-1), .int .i64 0] 83)).heap[w.heap.size]? = some (.cells #[.slice ao st.length c, .int .i64 wk] 50 (0, 0)) := by
    rw [heap_alloc_old _ _ (by simp; omega), heap_alloc_old _ _ (by simp; omega), heap_alloc_old _ _ (by simp)]
    exact heap_alloc_new _ _
  have k2 : ((((w.alloc (.cells #[.slice ao st.length c, .int .i64 wk] 50)).alloc (.cells #[.int .i64 x.kind, .int .i64 x.num, .string x.text, .slice so x.kids.length c0, .int .i64 (-1), .int .i64 0] 83)).alloc (.cells #[.slice none 0 0, .int .i64 0] 50)).alloc (.cells #[.int .i64 x.kind, .int .i64 x.num, .string x.text, .slice so x.kids.length c0, .int .i64 (-1), .int .i64 0] 83)).heap[w.heap.size + 2]? = some (.cells #[.slice none 0 0, .int .i64 0] 50 (0, 0)) := by
    rw [heap_alloc_old _ _ (by simp)]
    have h9 := heap_alloc_new ((w.alloc (.cells #[.slice ao st.length c, .int .i64 wk] 50)).alloc (.cells #[.int .i64 x.kind, .int .i64 x.num, .string x.text, .slice so x.kids.length c0, .int .i64 (-1), .int .i64 0] 83)) (.cells #[.slice none 0 0, .int .i64 0] 50)
    simpa using h9
  have hz4 : ((((w.alloc (.cells #[.slice ao st.length c, .int .i64 wk] 50)).alloc (.cells #[.int .i64 x.kind, .int .i64 x.num, .string x.text, .slice so x.kids.length c0, .int .i64 (-1), .int .i64 0] 83)).alloc (.cells #[.slice none 0 0, .int .i64 0] 50)).alloc (.cells #[.int .i64 x.kind, .int .i64 x.num, .string x.text, .slice so x.kids.length c0, .int .i64 (-1), .int .i64 0] 83)).heap.size = w.heap.size + 4 := by simp
  have HS : Hid (StoV w B ao c st ka lk mk) := hS
  have HK : Hid (∀ k (h : k < x.kids.length), ∃ b o, so = some ⟨b, o, none⟩ ∧ (Value.slice ao st.length c).ownBlock ≠ some b ∧ w.cell? ⟨b, o + k, none⟩ = some (.int .i64 (x.kids[k] : Int))) := hk
  have hB4 := hb4.size
  clear hS hk
  go_enter Tryz.func34, Tryz.ntmps34
  go_wp2_with (at_builtin; refine wpList_append3 rfl (.tmp 8) (.tmp 10) 48 rfl B 83 i0 _ 6 72 Tryz.underlying48 hi hz0 hz1 hz2 rfl (by decide) (.slice ao st.length c) st.length _ rfl hown4 ⟨_, 0, none⟩ 1 1 (snode x (so, c0) none 0) rfl rfl hcells (snode_one x so c0) (by omega) ?a3 ?a4 ?a5 ?_)
  case a3 => unfold maxLen; omega
  case a4 => omega
  case a5 => omega
  intro g' c' w5 hown5 hgrow5 hwh
  (try rw [hz4] at hwh)
  generalize (((w.alloc (.cells #[.slice ao st.length c, .int .i64 wk] 50)).alloc (.cells #[.int .i64 x.kind, .int .i64 x.num, .string x.text, .slice so x.kids.length c0, .int .i64 (-1), .int .i64 0] 83)).alloc (.cells #[.slice none 0 0, .int .i64 0] 50)).alloc (.cells #[.int .i64 x.kind, .int .i64 x.num, .string x.text, .slice so x.kids.length c0, .int .i64 (-1), .int .i64 0] 83) = w4 at *
  have hob : ∀ i, w.heap.size ≤ i → some i ≠ (Value.slice ao st.length c).ownBlock := fun i hi e => by have := own_lt HS.out.own e.symm; omega
  have m0 := (hgrow5.block w.heap.size (by omega) (hob _ (Nat.le_refl _))).trans k0
  have m2 := (hgrow5.block (w.heap.size + 2) (by omega) (hob _ (by omega))).trans k2
  have q0 : w5.cell? ⟨w.heap.size, 0, none⟩ = some (.slice ao st.length c) := by rw [cell_of_row _ _ _ _ 50 (0, 0) m0]; rfl
  have q1 : w5.cell? ⟨w.heap.size, 1, none⟩ = some (.int .i64 wk) := by rw [cell_of_row _ _ _ _ 50 (0, 0) m0]; rfl
  have f0 : w5.frozen? ⟨w.heap.size, 0, none⟩ = false := frozen_of_row _ _ _ _ 50 m0
  have p0 : w5.cell? ⟨w.heap.size + 1 + 1, 0, none⟩ = some (.slice none 0 0) := by rw [cell_of_row _ _ _ _ 50 (0, 0) m2]; rfl
  have p1 : w5.cell? ⟨w.heap.size + 1 + 1, 1, none⟩ = some (.int .i64 0) := by rw [cell_of_row _ _ _ _ 50 (0, 0) m2]; rfl
  have g0 : w5.frozen? ⟨w.heap.size + 1 + 1, 0, none⟩ = false := frozen_of_row _ _ _ _ 50 m2
  have g1 : w5.frozen? ⟨w.heap.size + 1 + 1, 1, none⟩ = false := frozen_of_row _ _ _ _ 50 m2
  have HFIN : Hid (∀ w6, But (fun i => w.heap.size ≤ i ∧ i < w.heap.size + 4) w5 w6 → Sto w6 B g' c' (st ++ [x]) (fun i => if i = st.length then (so, c0) else ka i) lk (updM mk st.length 0) ∧ But (fun i => (Value.slice ao st.length c).ownBlock = some i) w w6) := by
    intro w6 h6
    refine ⟨sto_push HS.out HLK.out HK.out hb4 hown5 hgrow5 (by rw [hz4]; exact hwh) (by rw [hz4]; exact h6), ?_⟩
    have hz5 := hgrow5.size
    refine ⟨h6.os.trans (hgrow5.os.trans hb4.os), h6.tape.trans (hgrow5.tape.trans hb4.tape), h6.output.trans (hgrow5.output.trans hb4.output), by have := h6.size; omega, fun i hi hne => ?_⟩
    exact (h6.block i (by omega) (by omega)).trans ((hgrow5.block i (by omega) (fun e => hne e.symm)).trans (hb4.block i hi))
  have HWH : Hid ((Value.slice ao st.length c).ownBlock = some g' ∨ w.heap.size ≤ g') := hwh.imp id (fun h => by omega)
  clear hown5 hgrow5 hwh hown4 hcells k0 k2 m0 m2 hb4 hz4 hB4 hob HS HK
  go_wp2_with fail
  go_region
  go_wp2
  have HB := HFIN.out _ (but_drewU ((((But.refl (fun i => w.heap.size ≤ i ∧ i < w.heap.size + 4) w5).setCell (p := ⟨w.heap.size, 0, none⟩) ⟨Nat.le_refl _, by simp⟩ (.slice (some ⟨g', 0, none⟩) (st.length + 1) c')).setCell (p := ⟨w.heap.size + 1 + 1, 0, none⟩) ⟨by simp; omega, by simp⟩ (.slice (some ⟨g', 0, none⟩) (st.length + 1) c')).setCell (p := ⟨w.heap.size + 1 + 1, 1, none⟩) ⟨by simp; omega, by simp⟩ (.int .i64 wk)))
  refine bodyPost_ret (v := .tuple #[.agg #[.slice (some ⟨g', 0, none⟩) (st.length + 1) c', .int .i64 wk], .int .i64 (st.length : Int)]) (by simp [results, Tryz.results34, go_sem, p0, p1]) rfl ?_
  exact ⟨g', c', rfl, HB.1, HB.2, HWH.out⟩

theorem insR_mem (x z : Int × Int) (l : List (Int × Int)) : z ∈ insR x l ↔ z = x ∨ z ∈ l := by
  induction l with
  | nil => simp [insR]
  | cons y ys ih =>
    unfold insR
    split
    · simp only [List.mem_cons, ih]
      constructor
      · rintro (h | h | h)
        · exact Or.inr (Or.inl h)
        · exact Or.inl h
        · exact Or.inr (Or.inr h)
      · rintro (h | h | h)
        · exact Or.inr (Or.inl h)
        · exact Or.inl h
        · exact Or.inr (Or.inr h)
    · simp only [List.mem_cons]

theorem insR_down (x : Int × Int) (l : List (Int × Int)) (h : l.Pairwise (fun a b => b.1 < a.1)) (hx : ∀ y ∈ l, y.1 ≠ x.1) : (insR x l).Pairwise (fun a b => b.1 < a.1) := by
  induction l with
  | nil => simp [insR]
  | cons y ys ih =>
    obtain ⟨h1, h2⟩ := List.pairwise_cons.1 h
    unfold insR
    split
    · rename_i hlt
      refine List.pairwise_cons.2 ⟨?_, ih h2 (fun z hz => hx z (List.mem_cons_of_mem _ hz))⟩
      intro z hz
      rcases (insR_mem x z ys).1 hz with rfl | hz
      · exact hlt
      · exact h1 z hz
    · rename_i hge
      have hy := hx y (List.mem_cons_self ..)
      refine List.pairwise_cons.2 ⟨?_, h⟩
      intro z hz
      rcases List.mem_cons.1 hz with rfl | hz
      · omega
      · have := h1 z hz
        omega

theorem insM_mem (out : List (Int × Int)) (x z : Int × Int) : z ∈ insM out x ↔ z = x ∨ z ∈ out := by simp [insM, insR_mem]

theorem insM_up (out : List (Int × Int)) (x : Int × Int) (h : out.Pairwise (fun a b => a.1 < b.1)) (hx : ∀ y ∈ out, y.1 ≠ x.1) : (insM out x).Pairwise (fun a b => a.1 < b.1) := by
  unfold insM
  rw [List.pairwise_reverse]
  exact insR_down x _ (List.pairwise_reverse.2 h) (fun y hy => hx y (List.mem_reverse.1 hy))

theorem sorted_up (ms out : List (Int × Int)) (h : out.Pairwise (fun a b => a.1 < b.1)) (hd : ms.Pairwise (fun a b => a.1 ≠ b.1)) (hx : ∀ a ∈ out, ∀ b ∈ ms, a.1 ≠ b.1) :
    (ms.foldl insM out).Pairwise (fun a b => a.1 < b.1) ∧ ∀ z, z ∈ ms.foldl insM out ↔ z ∈ out ∨ z ∈ ms := by
  induction ms generalizing out with
  | nil => exact ⟨h, fun z => by simp⟩
  | cons m ms ih =>
    obtain ⟨h1, h2⟩ := List.pairwise_cons.1 hd
    rw [List.foldl_cons]
    obtain ⟨h3, h4⟩ := ih (insM out m) (insM_up out m h (fun y hy => hx y hy m (List.mem_cons_self ..))) h2 (by
      intro a ha b hb
      rcases (insM_mem out m a).1 ha with rfl | ha
      · exact h1 b hb
      · exact hx a ha b (List.mem_cons_of_mem _ hb))
    refine ⟨h3, fun z => ?_⟩
    rw [h4, insM_mem, List.mem_cons]
    constructor
    · rintro ((h | h) | h)
      · exact Or.inr (Or.inl h)
      · exact Or.inl h
      · exact Or.inr (Or.inr h)
    · rintro (h | h | h)
      · exact Or.inl (Or.inr h)
      · exact Or.inl (Or.inl h)
      · exact Or.inr h

theorem known_neg (ms : List (Int × Int)) (x : Int) : knownIn ms x < 0 ↔ ∀ p ∈ ms, p.1 ≠ x := by
  unfold knownIn
  constructor
  · intro h p hp e
    have h9 : placeIn (ms.map Prod.fst) x < ms.length := by
      have h8 : (ms.map Prod.fst).findIdx (· == x) < (ms.map Prod.fst).length := List.findIdx_lt_length_of_exists ⟨p.1, List.mem_map_of_mem hp, by simp [e]⟩
      simpa [placeIn] using h8
    rw [if_pos h9] at h
    omega
  · intro h
    have h9 := placeIn_none (met := ms.map Prod.fst) (x := x) (fun i hi => by
      rw [List.getElem_map]
      exact h _ (List.getElem_mem _))
    rw [h9, if_neg (by simp)]
    decide

end Go.Proofs.YtahdmflbdmlfhaaGreatDoor

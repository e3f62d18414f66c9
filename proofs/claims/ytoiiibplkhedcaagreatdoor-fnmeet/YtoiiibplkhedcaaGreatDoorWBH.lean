import Derived.Test.YtoiiibplkhedcaaGreatDoorWBG
set_option maxRecDepth 20000
set_option maxHeartbeats 2000000
namespace Go.Proofs.YtoiiibplkhedcaaGreatDoor
open Go.RowKit
theorem Qsf (x z : Int × Int) (l : List (Int × Int)) : z ∈ insR x l ↔ z = x ∨ z ∈ l := by
  induction l with
  | nil => simp [insR]
  | cons y ys ih =>
    unfold insR
    split
    · simp only [List.mem_cons, ih]
      constructor
      · rintro (h | h | h)
        · exact Or.inr (Or.inl h)
        · exact Or.inl h
        · exact Or.inr (Or.inr h)
      · rintro (h | h | h)
        · exact Or.inr (Or.inl h)
        · exact Or.inl h
        · exact Or.inr (Or.inr h)
    · simp only [List.mem_cons]
theorem Qwy (x : Int × Int) (l : List (Int × Int)) (h : l.Pairwise (fun a b => b.1 < a.1)) (hx : ∀ y ∈ l, y.1 ≠ x.1) : (insR x l).Pairwise (fun a b => b.1 < a.1) := by
  induction l with
  | nil => simp [insR]
  | cons y ys ih =>
    obtain ⟨h1, h2⟩ := List.pairwise_cons.1 h
    unfold insR
    split
    · rename_i hlt
      refine List.pairwise_cons.2 ⟨?_, ih h2 (fun z hz => hx z (List.mem_cons_of_mem _ hz))⟩
      intro z hz
      rcases (Qsf x z ys).1 hz with rfl | hz
      · exact hlt
      · exact h1 z hz
    · rename_i hge
      have hy := hx y (List.mem_cons_self ..)
      refine List.pairwise_cons.2 ⟨?_, h⟩
      intro z hz
      rcases List.mem_cons.1 hz with rfl | hz
      · omega
      · have := h1 z hz
        omega
theorem Qsg (out : List (Int × Int)) (x z : Int × Int) : z ∈ insM out x ↔ z = x ∨ z ∈ out := by simp [insM, Qsf]
theorem Jcg (out : List (Int × Int)) (x : Int × Int) (h : out.Pairwise (fun a b => a.1 < b.1)) (hx : ∀ y ∈ out, y.1 ≠ x.1) : (insM out x).Pairwise (fun a b => a.1 < b.1) := by
  unfold insM
  rw [List.pairwise_reverse]
  exact Qwy x _ (List.pairwise_reverse.2 h) (fun y hy => hx y (List.mem_reverse.1 hy))
theorem Qvg (ms out : List (Int × Int)) (h : out.Pairwise (fun a b => a.1 < b.1)) (hd : ms.Pairwise (fun a b => a.1 ≠ b.1)) (hx : ∀ a ∈ out, ∀ b ∈ ms, a.1 ≠ b.1) :
    (ms.foldl insM out).Pairwise (fun a b => a.1 < b.1) ∧ ∀ z, z ∈ ms.foldl insM out ↔ z ∈ out ∨ z ∈ ms := by
  induction ms generalizing out with
  | nil => exact ⟨h, fun z => by simp⟩
  | cons m ms ih =>
    obtain ⟨h1, h2⟩ := List.pairwise_cons.1 hd
    rw [List.foldl_cons]
    obtain ⟨h3, h4⟩ := ih (insM out m) (Jcg out m h (fun y hy => hx y hy m (List.mem_cons_self ..))) h2 (by
      intro a ha b hb
      rcases (Qsg out m a).1 ha with rfl | ha
      · exact h1 b hb
      · exact hx a ha b (List.mem_cons_of_mem _ hb))
    refine ⟨h3, fun z => ?_⟩
    rw [h4, Qsg, List.mem_cons]
    constructor
    · rintro ((h | h) | h)
      · exact Or.inr (Or.inl h)
      · exact Or.inl h
      · exact Or.inr (Or.inr h)
    · rintro (h | h | h)
      · exact Or.inl (Or.inr h)
      · exact Or.inl (Or.inl h)
      · exact Or.inr h
theorem Qwv (ms : List (Int × Int)) (x : Int) : Qcm ms x < 0 ↔ ∀ p ∈ ms, p.1 ≠ x := by
  unfold Qcm
  constructor
  · intro h p hp e
    have h9 : placeIn (ms.map Prod.fst) x < ms.length := by
      have h8 : (ms.map Prod.fst).findIdx (· == x) < (ms.map Prod.fst).length := List.findIdx_lt_length_of_exists ⟨p.1, List.mem_map_of_mem hp, by simp [e]⟩
      simpa [placeIn] using h8
    rw [if_pos h9] at h
    omega
  · intro h
    have h9 := Qdy (met := ms.map Prod.fst) (x := x) (fun i hi => by
      rw [List.getElem_map]
      exact h _ (List.getElem_mem _))
    rw [h9, if_neg (by simp)]
    decide
theorem Qqn {st : List SK} (x : SK) {ka ka' : Nat → Option Addr × Nat} (lk : Nat → Option Nat) {mk mk' : Nat → Int} (h1 : ∀ i, i < st.length → ka' i = ka i) (h2 : ∀ i, i < st.length → mk' i = mk i) : Qdx (st ++ [x]) ka' lk mk' = Qdx st ka lk mk ++ Qgn x (ka' st.length) (lk st.length) (mk' st.length) := by
  unfold Qdx
  rw [List.length_append, List.length_singleton, List.range_succ, List.flatMap_append]
  congr 1
  · refine Qcc (fun i hi => ?_)
    have hi' := List.mem_range.1 hi
    rw [Qaz hi', h1 i hi', h2 i hi']
  · simp [Qeu]
structure StoV (w : World) (B : Nat) (ao : Option Addr) (c : Nat) (st : List SK) (ka : Nat → Option Addr × Nat) (lk : Nat → Option Nat) (mk : Nat → Int) : Prop where
  own : w.ownsRow B 132 6 (.slice ao st.length c) st.length (Qdx st ka lk mk)
  kids : ∀ i, ∀ k (h : k < (sk st i).kids.length), ∃ b o, (ka i).1 = some ⟨b, o, none⟩ ∧ (Value.slice ao st.length c).ownBlock ≠ some b ∧ w.cell? ⟨b, o + k, none⟩ = some (.int .i64 ((sk st i).kids[k] : Int))
theorem Sto.toV {w : World} {B g c : Nat} {st : List SK} {ka : Nat → Option Addr × Nat} {lk : Nat → Option Nat} {mk : Nat → Int} (h : Sto w B g c st ka lk mk) : StoV w B (some ⟨g, 0, none⟩) c st ka lk mk := by
  refine ⟨h.own, fun i k hk => ?_⟩
  obtain ⟨b, o, e1, e2, e3⟩ := h.kids i k hk
  refine ⟨b, o, e1, ?_, e3⟩
  simp only [Value.ownBlock, ne_eq, Option.some.injEq]
  exact fun e => e2 e.symm
theorem StoV.start (w : World) (B : Nat) (ka : Nat → Option Addr × Nat) (mk : Nat → Int) : StoV w B none 0 [] ka (fun _ => none) mk :=
  ⟨⟨rfl, .inl ⟨rfl, rfl⟩⟩, fun i k hk => by simp [sk, SK.none] at hk⟩
theorem Qwc {w : World} {B : Nat} {e : TypeId} {size : Nat} {v : Value} {n : Nat} {xs : List Value} (h : w.ownsRow B e size v n xs) {g : Nat} (hg : v.ownBlock = some g) : g < w.heap.size := by
  rcases h.2 with ⟨rfl, _⟩ | ⟨g2, cap, cur, rfl, hb, hh, _⟩
  · cases hg
  · simp only [Value.ownBlock, Option.some.injEq] at hg
    subst hg
    exact (Array.getElem?_eq_some_iff.1 hh).1
theorem Qpt {S : Nat → Prop} {w w' : World} (h : But S w w') : But S w w'.drew := ⟨h.os, h.tape, h.output, h.size, h.block⟩
theorem Jdy (g j : Nat) : Addr.add ⟨g, 0, none⟩ j = ⟨g, j, none⟩ := by
  unfold Addr.add
  split
  · simp_all
  · simp
theorem Qzc {w w1 w2 w3 : World} {B : Nat} {ao : Option Addr} {c : Nat} {st : List SK} {ka : Nat → Option Addr × Nat} {lk : Nat → Option Nat} {mk : Nat → Int} (h : StoV w B ao c st ka lk mk) {x : SK} {so : Option Addr} {c0 : Nat} (hlk : lk st.length = none)
    (hk : ∀ k (h : k < x.kids.length), ∃ b o, so = some ⟨b, o, none⟩ ∧ (Value.slice ao st.length c).ownBlock ≠ some b ∧ w.cell? ⟨b, o + k, none⟩ = some (.int .i64 (x.kids[k] : Int)))
    (hb : Below w.heap.size w w1) {g' c' : Nat} (hown : w2.ownsRow B 132 6 (.slice (some ⟨g', 0, none⟩) (st.length + 1) c') (st.length + 1) (Qdx st ka lk mk ++ Qgn x (so, c0) none 0)) (hg : w1.grownBy w2 (Value.slice ao st.length c).ownBlock) (hwh : (Value.slice ao st.length c).ownBlock = some g' ∨ w1.heap.size ≤ g') (hb3 : But (fun i => w.heap.size ≤ i ∧ i < w1.heap.size) w2 w3) :
    Sto w3 B g' c' (st ++ [x]) (fun i => if i = st.length then (so, c0) else ka i) lk (updM mk st.length 0) := by
  have key : ∀ b o v, (Value.slice ao st.length c).ownBlock ≠ some b → w.cell? ⟨b, o, none⟩ = some v → b ≠ g' ∧ w3.cell? ⟨b, o, none⟩ = some v := by
    intro b o v hne hc
    have hlt : b < w.heap.size := Qaa hc
    have hz := hb.size
    refine ⟨fun e => ?_, ?_⟩
    · rcases hwh with h9 | h9
      · rw [e] at hne; exact hne h9
      · omega
    · have h7 := hg.size
      have h8 := (hb3.block b (by omega) (by omega)).trans ((hg.block b (by omega) (fun e => hne e.symm)).trans (hb.block b hlt))
      unfold World.cell? at hc ⊢
      rw [h8]
      exact hc
  have e6 : Qdx (st ++ [x]) (fun i => if i = st.length then (so, c0) else ka i) lk (updM mk st.length 0) = Qdx st ka lk mk ++ Qgn x (so, c0) none 0 := by
    rw [Qqn x lk (ka := ka) (mk := mk) (fun i hi => if_neg (by omega)) (fun i hi => by simp [updM, show i ≠ st.length by omega])]
    simp [updM, hlk]
  refine ⟨?_, fun i k hk' => ?_⟩
  · rw [e6, List.length_append, List.length_singleton]
    refine Qah hown hb3 ?_
    rintro ⟨h7, h8⟩
    rcases hwh with h9 | h9
    · have := Qwc h.own h9
      omega
    · omega
  · rcases Qdb st x i with ⟨a1, e⟩ | ⟨a1, e⟩ | ⟨a1, e⟩
    · simp only [e] at hk' ⊢
      obtain ⟨b, o, e1, e2, e3⟩ := h.kids i k hk'
      obtain ⟨k1, k2⟩ := key b _ _ e2 e3
      exact ⟨b, o, by rw [if_neg (by omega)]; exact e1, k1, k2⟩
    · simp only [e] at hk' ⊢
      obtain ⟨b, o, e1, e2, e3⟩ := hk k hk'
      obtain ⟨k1, k2⟩ := key b _ _ e2 e3
      exact ⟨b, o, by rw [if_pos a1]; exact e1, k1, k2⟩
    · rw [e] at hk'
      simp [SK.none] at hk'
theorem Tryz.infoSN : (Tryz.prog.info? 132).map (fun i => (i.zero, i.size, i.bytes)) = some (some (.agg #[.int .i64 0, .int .i64 0, .string ByteArray.empty, .slice none 0 0, .int .i64 0, .int .i64 0]), 6, 72) := by kernel_rfl
theorem Qql (w : World) (x : SK) (so : Option Addr) (c0 : Nat) : ∀ j u, (Qgn x (so, c0) none 0)[j]? = some u → (w.alloc (.cells #[.int .i64 x.kind, .int .i64 x.num, .string x.text, .slice so x.kids.length c0, .int .i64 (-1), .int .i64 0] 132)).cell? (Addr.add ⟨w.heap.size, 0, none⟩ j) = some u := by
  intro j u hj
  rw [Jdy, cell_of_row _ w.heap.size j _ 132 (0, 0) (heap_alloc_new _ _), ← hj]
  simp [Qgn, lkv]
theorem Qvj (x : SK) (so : Option Addr) (c0 : Nat) : ∀ u ∈ Qgn x (so, c0) none 0, u.oneCell' = true := by
  intro u hu
  simp only [Qgn, List.mem_cons, List.not_mem_nil, or_false] at hu
  rcases hu with rfl | rfl | rfl | rfl | rfl | rfl <;> rfl
theorem Qwi (st : List SK) (n : Nat) (HL : Hid (st.length = n)) (hn : n ≤ 1048576) (ka : Nat → Option Addr × Nat) (lk : Nat → Option Nat) (mk : Nat → Int) (HLK : Hid (lk n = none)) (B : Nat) (ao : Option Addr) (c : Nat) (wk : Int) (w : World) (hS : StoV w B ao c st ka lk mk) (hB : B ≤ w.heap.size) (x : SK) (so : Option Addr) (q c0 : Nat) (HQ : Hid (x.kids.length = q)) (l0 : Int)
    (hk : ∀ k (h : k < x.kids.length), ∃ b o, so = some ⟨b, o, none⟩ ∧ (Value.slice ao n c).ownBlock ≠ some b ∧ w.cell? ⟨b, o + k, none⟩ = some (.int .i64 (x.kids[k] : Int))) :
    Calls Tryz.prog 69 #[.agg #[.slice ao n c, .int .i64 wk], .agg #[.int .i64 x.kind, .int .i64 x.num, .string x.text, .slice so q c0, .int .i64 l0, .int .i64 0]] w fun e w' => ∃ g' c', e = .returned (.tuple #[.agg #[.slice (some ⟨g', 0, none⟩) (n + 1) c', .int .i64 wk], .int .i64 (n : Int)]) ∧ Sto w' B g' c' (st ++ [x]) (fun i => if i = n then (so, c0) else ka i) lk (updM mk n 0) ∧ But (fun i => (Value.slice ao n c).ownBlock = some i) w w' ∧ ((Value.slice ao n c).ownBlock = some g' ∨ w.heap.size ≤ g') := by
  obtain ⟨i0, hi, hz0, hz1, hz2⟩ := info_parts Tryz.infoSN
  have hq := HQ.out
  have hl := HL.out
  subst hl
  subst hq
  have hb4 : Below w.heap.size w ((((w.alloc (.cells #[.slice ao st.length c, .int .i64 wk] 78)).alloc (.cells #[.int .i64 x.kind, .int .i64 x.num, .string x.text, .slice so x.kids.length c0, .int .i64 (-1), .int .i64 0] 132)).alloc (.cells #[.slice none 0 0, .int .i64 0] 78)).alloc (.cells #[.int .i64 x.kind, .int .i64 x.num, .string x.text, .slice so x.kids.length c0, .int .i64 (-1), .int .i64 0] 132)) := ((((Below.refl _ w).alloc (Nat.le_refl _) _).alloc (by simp) _).alloc (by simp; omega) _).alloc (by simp; omega) _
  have hown4 : ((((w.alloc (.cells #[.slice ao st.length c, .int .i64 wk] 78)).alloc (.cells #[.int .i64 x.kind, .int .i64 x.num, .string x.text, .slice so x.kids.length c0, .int .i64 (-1), .int .i64 0] 132)).alloc (.cells #[.slice none 0 0, .int .i64 0] 78)).alloc (.cells #[.int .i64 x.kind, .int .i64 x.num, .string x.text, .slice so x.kids.length c0, .int .i64 (-1), .int .i64 0] 132)).ownsRow B 132 6 (.slice ao st.length c) st.length (Qdx st ka lk mk) := (((hS.own.alloc _).alloc _).alloc _).alloc _
  have hcells := Qql (((w.alloc (.cells #[.slice ao st.length c, .int .i64 wk] 78)).alloc (.cells #[.int .i64 x.kind, .int .i64 x.num, .string x.text, .slice so x.kids.length c0, .int .i64 (-1), .int .i64 0] 132)).alloc (.cells #[.slice none 0 0, .int .i64 0] 78)) x so c0
  have hz3 : (((w.alloc (.cells #[.slice ao st.length c, .int .i64 wk] 78)).alloc (.cells #[.int .i64 x.kind, .int .i64 x.num, .string x.text, .slice so x.kids.length c0, .int .i64 (-1), .int .i64 0] 132)).alloc (.cells #[.slice none 0 0, .int .i64 0] 78)).heap.size = w.heap.size + 1 + 1 + 1 := by simp
  rw [hz3] at hcells
  have k0 : ((((w.alloc (.cells #[.slice ao st.length c, .int .i64 wk] 78)).alloc (.cells #[.int .i64 x.kind, .int .i64 x.num, .string x.text, .slice so x.kids.length c0, .int .i64 (-1), .int .i64 0] 132)).alloc (.cells #[.slice none 0 0, .int .i64 0] 78)).alloc (.cells #[.int .i64 x.kind, .int .i64 x.num, .string x.text, .slice so x.kids.length c0, .int .i64 (-1), .int .i64 0] 132)).heap[w.heap.size]? = some (.cells #[.slice ao st.length c, .int .i64 wk] 78 (0, 0)) := by
    rw [heap_alloc_old _ _ (by simp; omega), heap_alloc_old _ _ (by simp; omega), heap_alloc_old _ _ (by simp)]
    exact heap_alloc_new _ _
  have k2 : ((((w.alloc (.cells #[.slice ao st.length c, .int .i64 wk] 78)).alloc (.cells #[.int .i64 x.kind, .int .i64 x.num, .string x.text, .slice so x.kids.length c0, .int .i64 (-1), .int .i64 0] 132)).alloc (.cells #[.slice none 0 0, .int .i64 0] 78)).alloc (.cells #[.int .i64 x.kind, .int .i64 x.num, .string x.text, .slice so x.kids.length c0, .int .i64 (-1), .int .i64 0] 132)).heap[w.heap.size + 2]? = some (.cells #[.slice none 0 0, .int .i64 0] 78 (0, 0)) := by
    rw [heap_alloc_old _ _ (by simp)]
    have h9 := heap_alloc_new ((w.alloc (.cells #[.slice ao st.length c, .int .i64 wk] 78)).alloc (.cells #[.int .i64 x.kind, .int .i64 x.num, .string x.text, .slice so x.kids.length c0, .int .i64 (-1), .int .i64 0] 132)) (.cells #[.slice none 0 0, .int .i64 0] 78)
    simpa using h9
  have hz4 : ((((w.alloc (.cells #[.slice ao st.length c, .int .i64 wk] 78)).alloc (.cells #[.int .i64 x.kind, .int .i64 x.num, .string x.text, .slice so x.kids.length c0, .int .i64 (-1), .int .i64 0] 132)).alloc (.cells #[.slice none 0 0, .int .i64 0] 78)).alloc (.cells #[.int .i64 x.kind, .int .i64 x.num, .string x.text, .slice so x.kids.length c0, .int .i64 (-1), .int .i64 0] 132)).heap.size = w.heap.size + 4 := by simp
  have HS : Hid (StoV w B ao c st ka lk mk) := hS
  have HK : Hid (∀ k (h : k < x.kids.length), ∃ b o, so = some ⟨b, o, none⟩ ∧ (Value.slice ao st.length c).ownBlock ≠ some b ∧ w.cell? ⟨b, o + k, none⟩ = some (.int .i64 (x.kids[k] : Int))) := hk
  have hB4 := hb4.size
  clear hS hk
  go_enter Tryz.func69, Tryz.ntmps69
  go_wp2_with (at_builtin; refine Qeg rfl (.tmp 8) (.tmp 10) 76 rfl B 132 i0 _ 6 72 Tryz.underlying76 hi hz0 hz1 hz2 rfl (by decide) (.slice ao st.length c) st.length _ rfl hown4 ⟨_, 0, none⟩ 1 1 (Qgn x (so, c0) none 0) rfl rfl hcells (Qvj x so c0) (by omega) ?a3 ?a4 ?a5 ?_)
  case a3 => unfold maxLen; omega
  case a4 => omega
  case a5 => omega
  intro g' c' w5 hown5 hgrow5 hwh
  (try rw [hz4] at hwh)
  generalize (((w.alloc (.cells #[.slice ao st.length c, .int .i64 wk] 78)).alloc (.cells #[.int .i64 x.kind, .int .i64 x.num, .string x.text, .slice so x.kids.length c0, .int .i64 (-1), .int .i64 0] 132)).alloc (.cells #[.slice none 0 0, .int .i64 0] 78)).alloc (.cells #[.int .i64 x.kind, .int .i64 x.num, .string x.text, .slice so x.kids.length c0, .int .i64 (-1), .int .i64 0] 132) = w4 at *
  have hob : ∀ i, w.heap.size ≤ i → some i ≠ (Value.slice ao st.length c).ownBlock := fun i hi e => by have := Qwc HS.out.own e.symm; omega
  have m0 := (hgrow5.block w.heap.size (by omega) (hob _ (Nat.le_refl _))).trans k0
  have m2 := (hgrow5.block (w.heap.size + 2) (by omega) (hob _ (by omega))).trans k2
  have q0 : w5.cell? ⟨w.heap.size, 0, none⟩ = some (.slice ao st.length c) := by rw [cell_of_row _ _ _ _ 78 (0, 0) m0]; rfl
  have q1 : w5.cell? ⟨w.heap.size, 1, none⟩ = some (.int .i64 wk) := by rw [cell_of_row _ _ _ _ 78 (0, 0) m0]; rfl
  have f0 : w5.frozen? ⟨w.heap.size, 0, none⟩ = false := frozen_of_row _ _ _ _ 78 m0
  have p0 : w5.cell? ⟨w.heap.size + 1 + 1, 0, none⟩ = some (.slice none 0 0) := by rw [cell_of_row _ _ _ _ 78 (0, 0) m2]; rfl
  have p1 : w5.cell? ⟨w.heap.size + 1 + 1, 1, none⟩ = some (.int .i64 0) := by rw [cell_of_row _ _ _ _ 78 (0, 0) m2]; rfl
  have g0 : w5.frozen? ⟨w.heap.size + 1 + 1, 0, none⟩ = false := frozen_of_row _ _ _ _ 78 m2
  have g1 : w5.frozen? ⟨w.heap.size + 1 + 1, 1, none⟩ = false := frozen_of_row _ _ _ _ 78 m2
  have HFIN : Hid (∀ w6, But (fun i => w.heap.size ≤ i ∧ i < w.heap.size + 4) w5 w6 → Sto w6 B g' c' (st ++ [x]) (fun i => if i = st.length then (so, c0) else ka i) lk (updM mk st.length 0) ∧ But (fun i => (Value.slice ao st.length c).ownBlock = some i) w w6) := by
    intro w6 h6
    refine ⟨Qzc HS.out HLK.out HK.out hb4 hown5 hgrow5 (by rw [hz4]; exact hwh) (by rw [hz4]; exact h6), ?_⟩
    have hz5 := hgrow5.size
    refine ⟨h6.os.trans (hgrow5.os.trans hb4.os), h6.tape.trans (hgrow5.tape.trans hb4.tape), h6.output.trans (hgrow5.output.trans hb4.output), by have := h6.size; omega, fun i hi hne => ?_⟩
    exact (h6.block i (by omega) (by omega)).trans ((hgrow5.block i (by omega) (fun e => hne e.symm)).trans (hb4.block i hi))
  have HWH : Hid ((Value.slice ao st.length c).ownBlock = some g' ∨ w.heap.size ≤ g') := hwh.imp id (fun h => by omega)
  clear hown5 hgrow5 hwh hown4 hcells k0 k2 m0 m2 hb4 hz4 hB4 hob HS HK
  go_wp2_with fail
  go_region
  go_wp2
  have HB := HFIN.out _ (Qpt ((((But.refl (fun i => w.heap.size ≤ i ∧ i < w.heap.size + 4) w5).setCell (p := ⟨w.heap.size, 0, none⟩) ⟨Nat.le_refl _, by simp⟩ (.slice (some ⟨g', 0, none⟩) (st.length + 1) c')).setCell (p := ⟨w.heap.size + 1 + 1, 0, none⟩) ⟨by simp; omega, by simp⟩ (.slice (some ⟨g', 0, none⟩) (st.length + 1) c')).setCell (p := ⟨w.heap.size + 1 + 1, 1, none⟩) ⟨by simp; omega, by simp⟩ (.int .i64 wk)))
  refine bodyPost_ret (v := .tuple #[.agg #[.slice (some ⟨g', 0, none⟩) (st.length + 1) c', .int .i64 wk], .int .i64 (st.length : Int)]) (by simp [results, Tryz.results69, go_sem, p0, p1]) rfl ?_
  exact ⟨g', c', rfl, HB.1, HB.2, HWH.out⟩
end Go.Proofs.YtoiiibplkhedcaaGreatDoor

import Derived.Test.YtahdmflbdmlfhaaGreatDoorWAR
import Derived.Test.YtahdmflbdmlfhaaGreatDoorWAS
namespace Go.Proofs.YtahdmflbdmlfhaaGreatDoor

open Go.RowKit

theorem scells_push {st : List SK} (x : SK) {ka ka' : Nat → Option Addr × Nat} (lk : Nat → Option Nat) {mk mk' : Nat → Int} (h1 : ∀ i, i < st.length → ka' i = ka i) (h2 : ∀ i, i < st.length → mk' i = mk i) : scells (st ++ [x]) ka' lk mk' = scells st ka lk mk ++ snode x (ka' st.length) (lk st.length) (mk' st.length) := by
  unfold scells
  rw [List.length_append, List.length_singleton, List.range_succ, List.flatMap_append]
  congr 1
  · refine flatMap_congr (fun i hi => ?_)
    have hi' := List.mem_range.1 hi
    rw [sk_push_old hi', h1 i hi', h2 i hi']
  · simp [sk_push_new]

/-- A store whose row may be nil. -/
structure StoV (w : World) (B : Nat) (ao : Option Addr) (c : Nat) (st : List SK) (ka : Nat → Option Addr × Nat) (lk : Nat → Option Nat) (mk : Nat → Int) : Prop where
  own : w.ownsRow B 83 6 (.slice ao st.length c) st.length (scells st ka lk mk)
  kids : ∀ i, ∀ k (h : k < (sk st i).kids.length), ∃ b o, (ka i).1 = some ⟨b, o, none⟩ ∧ (Value.slice ao st.length c).ownBlock ≠ some b ∧ w.cell? ⟨b, o + k, none⟩ = some (.int .i64 ((sk st i).kids[k] : Int))

theorem Sto.toV {w : World} {B g c : Nat} {st : List SK} {ka : Nat → Option Addr × Nat} {lk : Nat → Option Nat} {mk : Nat → Int} (h : Sto w B g c st ka lk mk) : StoV w B (some ⟨g, 0, none⟩) c st ka lk mk := by
  refine ⟨h.own, fun i k hk => ?_⟩
  obtain ⟨b, o, e1, e2, e3⟩ := h.kids i k hk
  refine ⟨b, o, e1, ?_, e3⟩
  simp only [Value.ownBlock, ne_eq, Option.some.injEq]
  exact fun e => e2 e.symm

theorem StoV.start (w : World) (B : Nat) (ka : Nat → Option Addr × Nat) (mk : Nat → Int) : StoV w B none 0 [] ka (fun _ => none) mk :=
  ⟨⟨rfl, .inl ⟨rfl, rfl⟩⟩, fun i k hk => by simp [sk, SK.none] at hk⟩

theorem own_lt {w : World} {B : Nat} {e : TypeId} {size : Nat} {v : Value} {n : Nat} {xs : List Value} (h : w.ownsRow B e size v n xs) {g : Nat} (hg : v.ownBlock = some g) : g < w.heap.size := by
  rcases h.2 with ⟨rfl, _⟩ | ⟨g2, cap, cur, rfl, hb, hh, _⟩
  · cases hg
  · simp only [Value.ownBlock, Option.some.injEq] at hg
    subst hg
    exact (Array.getElem?_eq_some_iff.1 hh).1

theorem but_drewU {S : Nat → Prop} {w w' : World} (h : But S w w') : But S w w'.drew := ⟨h.os, h.tape, h.output, h.size, h.block⟩

theorem addr0 (g j : Nat) : Addr.add ⟨g, 0, none⟩ j = ⟨g, j, none⟩ := by
  unfold Addr.add
  split
  · simp_all
  · simp

theorem sto_push {w w1 w2 w3 : World} {B : Nat} {ao : Option Addr} {c : Nat} {st : List SK} {ka : Nat → Option Addr × Nat} {lk : Nat → Option Nat} {mk : Nat → Int} (h : StoV w B ao c st ka lk mk) {x : SK} {so : Option Addr} {c0 : Nat} (hlk : lk st.length = none)
    (hk : ∀ k (h : k < x.kids.length), ∃ b o, so = some ⟨b, o, none⟩ ∧ (Value.slice ao st.length c).ownBlock ≠ some b ∧ w.cell? ⟨b, o + k, none⟩ = some (.int .i64 (x.kids[k] : Int)))
    (hb : Below w.heap.size w w1) {g' c' : Nat} (hown : w2.ownsRow B 83 6 (.slice (some ⟨g', 0, none⟩) (st.length + 1) c') (st.length + 1) (scells st ka lk mk ++ snode x (so, c0) none 0)) (hg : w1.grownBy w2 (Value.slice ao st.length c).ownBlock) (hwh : (Value.slice ao st.length c).ownBlock = some g' ∨ w1.heap.size ≤ g') (hb3 : But (fun i => w.heap.size ≤ i ∧ i < w1.heap.size) w2 w3) :
    Sto w3 B g' c' (st ++ [x]) (fun i => if i = st.length then (so, c0) else ka i) lk (updM mk st.length 0) := by
  have key : ∀ b o v, (Value.slice ao st.length c).ownBlock ≠ some b → w.cell? ⟨b, o, none⟩ = some v → b ≠ g' ∧ w3.cell? ⟨b, o, none⟩ = some v := by
    intro b o v hne hc
    have hlt : b < w.heap.size := lt_of_cell hc
    have hz := hb.size
    refine ⟨fun e => ?_, ?_⟩
    · rcases hwh with h9 | h9
      · rw [e] at hne; exact hne h9
      · omega
    · have h7 := hg.size
      have h8 := (hb3.block b (by omega) (by omega)).trans ((hg.block b (by omega) (fun e => hne e.symm)).trans (hb.block b hlt))
      unfold World.cell? at hc ⊢
      rw [h8]
      exact hc
  have e6 : scells (st ++ [x]) (fun i => if i = st.length then (so, c0) else ka i) lk (updM mk st.length 0) = scells st ka lk mk ++ snode x (so, c0) none 0 := by
    rw [scells_push x lk (ka := ka) (mk := mk) (fun i hi => if_neg (by omega)) (fun i hi => by simp [updM, show i ≠ st.length by omega])]
    simp [updM, hlk]
  refine ⟨?_, fun i k hk' => ?_⟩
  · rw [e6, List.length_append, List.length_singleton]
    refine owns_but hown hb3 ?_
    rintro ⟨h7, h8⟩
    rcases hwh with h9 | h9
    · have := own_lt h.own h9
      omega
    · omega
  · rcases sk_push st x i with ⟨a1, e⟩ | ⟨a1, e⟩ | ⟨a1, e⟩
    · simp only [e] at hk' ⊢
      obtain ⟨b, o, e1, e2, e3⟩ := h.kids i k hk'
      obtain ⟨k1, k2⟩ := key b _ _ e2 e3
      exact ⟨b, o, by rw [if_neg (by omega)]; exact e1, k1, k2⟩
    · simp only [e] at hk' ⊢
      obtain ⟨b, o, e1, e2, e3⟩ := hk k hk'
      obtain ⟨k1, k2⟩ := key b _ _ e2 e3
      exact ⟨b, o, by rw [if_pos a1]; exact e1, k1, k2⟩
    · rw [e] at hk'
      simp [SK.none] at hk'

theorem Tryz.infoSN : (Tryz.prog.info? 83).map (fun i => (i.zero, i.size, i.bytes)) = some (some (.agg #[.int .i64 0, .int .i64 0, .string ByteArray.empty, .slice none 0 0, .int .i64 0, .int .i64 0]), 6, 72) := by kernel_rfl

theorem snode_cells (w : World) (x : SK) (so : Option Addr) (c0 : Nat) : ∀ j u, (snode x (so, c0) none 0)[j]? = some u → (w.alloc (.cells #[.int .i64 x.kind, .int .i64 x.num, .string x.text, .slice so x.kids.length c0, .int .i64 (-1), .int .i64 0] 83)).cell? (Addr.add ⟨w.heap.size, 0, none⟩ j) = some u := by
  intro j u hj
  rw [addr0, cell_of_row _ w.heap.size j _ 83 (0, 0) (heap_alloc_new _ _), ← hj]
  simp [snode, lkv]

theorem snode_one (x : SK) (so : Option Addr) (c0 : Nat) : ∀ u ∈ snode x (so, c0) none 0, u.oneCell' = true := by
  intro u hu
  simp only [snode, List.mem_cons, List.not_mem_nil, or_false] at hu
  rcases hu with rfl | rfl | rfl | rfl | rfl | rfl <;> rfl

set_option maxRecDepth 20000 in
set_option maxHeartbeats 2000000 in
theorem new_any (st : List SK) (n : Nat) (HL : Hid (st.length = n)) (hn : n ≤ 1048576) (ka : Nat → Option Addr × Nat) (lk : Nat → Option Nat) (mk : Nat → Int) (HLK : Hid (lk n = none)) (B : Nat) (ao : Option Addr) (c : Nat) (wk : Int) (w : World) (hS : StoV w B ao c st ka lk mk) (hB : B ≤ w.heap.size) (x : SK) (so : Option Addr) (q c0 : Nat) (HQ : Hid (x.kids.length = q)) (l0 : Int)
    (hk : ∀ k (h : k < x.kids.length), ∃ b o, so = some ⟨b, o, none⟩ ∧ (Value.slice ao n c).ownBlock ≠ some b ∧ w.cell? ⟨b, o + k, none⟩ = some (.int .i64 (x.kids[k] : Int))) :
    Calls Tryz.prog 34 #[.agg #[.slice ao n c, .int .i64 wk], .agg #[.int .i64 x.kind, .int .i64 x.num, .string x.text, .slice so q c0, .int .i64 l0, .int .i64 0]] w fun e w' => ∃ g' c', e = .returned (.tuple #[.agg #[.slice (some ⟨g', 0, none⟩) (n + 1) c', .int .i64 wk], .int .i64 (n : Int)]) ∧ Sto w' B g' c' (st ++ [x]) (fun i => if i = n then (so, c0) else ka i) lk (updM mk n 0) ∧ But (fun i => (Value.slice ao n c).ownBlock = some i) w w' ∧ ((Value.slice ao n c).ownBlock = some g' ∨ w.heap.size ≤ g') := by
  obtain ⟨i0, hi, hz0, hz1, hz2⟩ := info_parts Tryz.infoSN
  have hq := HQ.out
  have hl := HL.out
  subst hl
  subst hq
  have hb4 : Below w.heap.size w ((((w.alloc (.cells #[.slice ao st.length c, .int .i64 wk] 50)).alloc (.cells #[.int .i64 x.kind, .int .i64 x.num, .string x.text, .slice so x.kids.length c0, .int .i64 (-1), .int .i64 0] 83)).alloc (.cells #[.slice none 0 0, .int .i64 0] 50)).alloc (.cells #[.int .i64 x.kind, .int .i64 x.num, .string x.text, .slice so x.kids.length c0, .int .i64 (-1), .int .i64 0] 83)) := ((((Below.refl _ w).alloc (Nat.le_refl _) _).alloc (by simp) _).alloc (by simp; omega) _).alloc (by simp; omega) _
  have hown4 : ((((w.alloc (.cells #[.slice ao st.length c, .int .i64 wk] 50)).alloc (.cells #[.int .i64 x.kind, .int .i64 x.num, .string x.text, .slice so x.kids.length c0, .int .i64 (-1), .int .i64 0] 83)).alloc (.cells #[.slice none 0 0, .int .i64 0] 50)).alloc (.cells #[.int .i64 x.kind, .int .i64 x.num, .string x.text, .slice so x.kids.length c0, .int .i64 (-1), .int .i64 0] 83)).ownsRow B 83 6 (.slice ao st.length c) st.length (scells st ka lk mk) := (((hS.own.alloc _).alloc _).alloc _).alloc _
  have hcells := snode_cells (((w.alloc (.cells #[.slice ao st.length c, .int .i64 wk] 50)).alloc (.cells #[.int .i64 x.kind, .int .i64 x.num, .string x.text, .slice so x.kids.length c0, .int .i64 (-1), .int .i64 0] 83)).alloc (.cells #[.slice none 0 0, .int .i64 0] 50)) x so c0
  have hz3 : (((w.alloc (.cells #[.slice ao st.length c, .int .i64 wk] 50)).alloc (.cells #[.int .i64 x.kind, .int .i64 x.num, .string x.text, .slice so x.kids.length c0, .int .i64 (-1), .int .i64 0] 83)).alloc (.cells #[.slice none 0 0, .int .i64 0] 50)).heap.size = w.heap.size + 1 + 1 + 1 := by simp
  rw [hz3] at hcells
  have k0 : ((((w.alloc (.cells #[.slice ao st.length c, .int .i64 wk] 50)).alloc (.cells #[.int .i64 x.kind, .int .i64 x.num, .string x.text, .slice so x.kids.length c0, .int .i64 (-1), .int .i64 0] 83)).alloc (.cells #[.slice none 0 0, .int .i64 0] 50)).alloc (.cells #[.int .i64 x.kind, .int .i64 x.num, .string x.text, .slice so x.kids.length c0, .int .i64 (-1), .int .i64 0] 83)).heap[w.heap.size]? = some (.cells #[.slice ao st.length c, .int .i64 wk] 50 (0, 0)) := by
    rw [heap_alloc_old _ _ (by simp; omega), heap_alloc_old _ _ (by simp; omega), heap_alloc_old _ _ (by simp)]
    exact heap_alloc_new _ _
  have k2 : ((((w.alloc (.cells #[.slice ao st.length c, .int .i64 wk] 50)).alloc (.cells #[.int .i64 x.kind, .int .i64 x.num, .string x.text, .slice so x.kids.length c0, .int .i64 (-1), .int .i64 0] 83)).alloc (.cells #[.slice none 0 0, .int .i64 0] 50)).alloc (.cells #[.int .i64 x.kind, .int .i64 x.num, .string x.text, .slice so x.kids.length c0, .int .i64 (-1), .int .i64 0] 83)).heap[w.heap.size + 2]? = some (.cells #[.slice none 0 0, .int .i64 0] 50 (0, 0)) := by
    rw [heap_alloc_old _ _ (by simp)]
    have h9 := heap_alloc_new ((w.alloc (.cells #[.slice ao st.length c, .int .i64 wk] 50)).alloc (.cells #[.int .i64 x.kind, .int .i64 x.num, .string x.text, .slice so x.kids.length c0, .int .i64 (-1), .int .i64 0] 83)) (.cells #[.slice none 0 0, .int .i64 0] 50)
    simpa using h9
  have hz4 : ((((w.alloc (.cells #[.slice ao st.length c, .int .i64 wk] 50)).alloc (.cells #[.int .i64 x.kind, .int .i64 x.num, .string x.text, .slice so x.kids.length c0, .int .i64 (-1), .int .i64 0] 83)).alloc (.cells #[.slice none 0 0, .int .i64 0] 50)).alloc (.cells #[.int .i64 x.kind, .int .i64 x.num, .string x.text, .slice so x.kids.length c0, .int .i64 (-1), .int .i64 0] 83)).heap.size = w.heap.size + 4 := by simp
  have HS : Hid (StoV w B ao c st ka lk mk) := hS
  have HK : Hid (∀ k (h : k < x.kids.length), ∃ b o, so = some ⟨b, o, none⟩ ∧ (Value.slice ao st.length c).ownBlock ≠ some b ∧ w.cell? ⟨b, o + k, none⟩ = some (.int .i64 (x.kids[k] : Int))) := hk
  have hB4 := hb4.size
  clear hS hk
  go_enter Tryz.func34, Tryz.ntmps34
  go_wp2_with (at_builtin; refine wpList_append3 rfl (.tmp 8) (.tmp 10) 48 rfl B 83 i0 _ 6 72 Tryz.underlying48 hi hz0 hz1 hz2 rfl (by decide) (.slice ao st.length c) st.length _ rfl hown4 ⟨_, 0, none⟩ 1 1 (snode x (so, c0) none 0) rfl rfl hcells (snode_one x so c0) (by omega) ?a3 ?a4 ?a5 ?_)
  case a3 => unfold maxLen; omega
  case a4 => omega
  case a5 => omega
  intro g' c' w5 hown5 hgrow5 hwh
  (try rw [hz4] at hwh)
  generalize (((w.alloc (.cells #[.slice ao st.length c, .int .i64 wk] 50)).alloc (.cells #[.int .i64 x.kind, .int .i64 x.num, .string x.text, .slice so x.kids.length c0, .int .i64 (-1), .int .i64 0] 83)).alloc (.cells #[.slice none 0 0, .int .i64 0] 50)).alloc (.cells #[.int .i64 x.kind, .int .i64 x.num, .string x.text, .slice so x.kids.length c0, .int .i64 (-1), .int .i64 0] 83) = w4 at *
  have hob : ∀ i, w.heap.size ≤ i → some i ≠ (Value.slice ao st.length c).ownBlock := fun i hi e => by have := own_lt HS.out.own e.symm; omega
  have m0 := (hgrow5.block w.heap.size (by omega) (hob _ (Nat.le_refl _))).trans k0
  have m2 := (hgrow5.block (w.heap.size + 2) (by omega) (hob _ (by omega))).trans k2
  have q0 : w5.cell? ⟨w.heap.size, 0, none⟩ = some (.slice ao st.length c) := by rw [cell_of_row _ _ _ _ 50 (0, 0) m0]; rfl
  have q1 : w5.cell? ⟨w.heap.size, 1, none⟩ = some (.int .i64 wk) := by rw [cell_of_row _ _ _ _ 50 (0, 0) m0]; rfl
  have f0 : w5.frozen? ⟨w.heap.size, 0, none⟩ = false := frozen_of_row _ _ _ _ 50 m0
  have p0 : w5.cell? ⟨w.heap.size + 1 + 1, 0, none⟩ = some (.slice none 0 0) := by rw [cell_of_row _ _ _ _ 50 (0, 0) m2]; rfl
  have p1 : w5.cell? ⟨w.heap.size + 1 + 1, 1, none⟩ = some (.int .i64 0) := by rw [cell_of_row _ _ _ _ 50 (0, 0) m2]; rfl
  have g0 : w5.frozen? ⟨w.heap.size + 1 + 1, 0, none⟩ = false := frozen_of_row _ _ _ _ 50 m2
  have g1 : w5.frozen? ⟨w.heap.size + 1 + 1, 1, none⟩ = false := frozen_of_row _ _ _ _ 50 m2
  have HFIN : Hid (∀ w6, But (fun i => w.heap.size ≤ i ∧ i < w.heap.size + 4) w5 w6 → Sto w6 B g' c' (st ++ [x]) (fun i => if i = st.length then (so, c0) else ka i) lk (updM mk st.length 0) ∧ But (fun i => (Value.slice ao st.length c).ownBlock = some i) w w6) := by
    intro w6 h6
    refine ⟨sto_push HS.out HLK.out HK.out hb4 hown5 hgrow5 (by rw [hz4]; exact hwh) (by rw [hz4]; exact h6), ?_⟩
    have hz5 := hgrow5.size
    refine ⟨h6.os.trans (hgrow5.os.trans hb4.os), h6.tape.trans (hgrow5.tape.trans hb4.tape), h6.output.trans (hgrow5.output.trans hb4.output), by have := h6.size; omega, fun i hi hne => ?_⟩
    exact (h6.block i (by omega) (by omega)).trans ((hgrow5.block i (by omega) (fun e => hne e.symm)).trans (hb4.block i hi))
  have HWH : Hid ((Value.slice ao st.length c).ownBlock = some g' ∨ w.heap.size ≤ g') := hwh.imp id (fun h => by omega)
  clear hown5 hgrow5 hwh hown4 hcells k0 k2 m0 m2 hb4 hz4 hB4 hob HS HK
  go_wp2_with fail
  go_region
  go_wp2
  have HB := HFIN.out _ (but_drewU ((((But.refl (fun i => w.heap.size ≤ i ∧ i < w.heap.size + 4) w5).setCell (p := ⟨w.heap.size, 0, none⟩) ⟨Nat.le_refl _, by simp⟩ (.slice (some ⟨g', 0, none⟩) (st.length + 1) c')).setCell (p := ⟨w.heap.size + 1 + 1, 0, none⟩) ⟨by simp; omega, by simp⟩ (.slice (some ⟨g', 0, none⟩) (st.length + 1) c')).setCell (p := ⟨w.heap.size + 1 + 1, 1, none⟩) ⟨by simp; omega, by simp⟩ (.int .i64 wk)))
  refine bodyPost_ret (v := .tuple #[.agg #[.slice (some ⟨g', 0, none⟩) (st.length + 1) c', .int .i64 wk], .int .i64 (st.length : Int)]) (by simp [results, Tryz.results34, go_sem, p0, p1]) rfl ?_
  exact ⟨g', c', rfl, HB.1, HB.2, HWH.out⟩

end Go.Proofs.YtahdmflbdmlfhaaGreatDoor

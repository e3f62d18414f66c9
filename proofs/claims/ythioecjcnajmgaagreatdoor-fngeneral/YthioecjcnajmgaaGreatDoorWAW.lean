import Derived.Test.YthioecjcnajmgaaGreatDoorWAV
import Derived.Test.YthioecjcnajmgaaGreatDoorWAI
import Derived.Maps.OwnSet
import Derived.Maps.OwnOps
import Derived.Maps.OwnIn
import Derived.DeepKeys4
namespace Go.Proofs.YthioecjcnajmgaaGreatDoor
open Go.RowKit Go.Maps Go.WideMaps

theorem laidOutK : laidOutB Tryz.prog = true := by kernel_rfl
theorem rowU : (116 : TypeId) < Tryz.prog.types.size := of_decide_eq_true (by kernel_rfl)
theorem wideU : (match Tryz.prog.underlying 116 with | some (.array _ _) | some (.struct _) => true | _ => false) = true := by kernel_rfl
set_option maxRecDepth 20000 in
theorem lawU : Keyed Tryz.prog 116 := Keyed.of_law (deep_law_laid laidOutK (m := 2) (by omega) rowU (by kernel_rfl) wideU)
theorem cellsU : Tryz.prog.cellsOf 116 = 2 := by kernel_rfl
theorem typeU : Tryz.prog.keyType 116 = true := by kernel_rfl
theorem cells3K : Tryz.prog.cellsOf 3 = 1 := by kernel_rfl
theorem cells2K : Tryz.prog.cellsOf 2 = 1 := by kernel_rfl

/-- The key of an unknown. -/
def kU (lv nu : Int) : Lit := .string (keyBytes [.int .i64 lv, .int .i64 nu])

theorem keyU (lv nu : Int) (h1 : (Lit.int .i64 lv).wf = true) (h2 : (Lit.int .i64 nu).wf = true) : keyOf Tryz.prog 116 (.agg #[.int .i64 lv, .int .i64 nu]) = some (kU lv nu) := by
  unfold keyOf
  simp only [Tryz.underlying116]
  rw [if_pos (by simp [typeU, Value.formed, Tryz.underlying116, cellsU])]
  have hs : ∃ m, Tryz.prog.types.size + 1 = m + 2 := ⟨Tryz.prog.types.size - 1, by have h9 : 0 < Tryz.prog.types.size := Nat.lt_of_le_of_lt (Nat.zero_le _) rowU; omega⟩
  obtain ⟨m, hm⟩ := hs
  rw [hm]
  unfold Program.keyLits
  simp only [Tryz.underlying116, Value.cells]
  rw [if_pos ⟨by rw [cellsU]; rfl, by simp⟩, List.mapM_cons, List.mapM_cons, List.mapM_nil]
  simp [cells3K, cells2K, Program.keyLits, Tryz.underlying3, Tryz.underlying2, h1, h2, kU]

theorem kU_inj {lv nu lv' nu' : Int} (h1 : (Lit.int .i64 lv).wf = true) (h2 : (Lit.int .i64 nu).wf = true) (h3 : (Lit.int .i64 lv').wf = true) (h4 : (Lit.int .i64 nu').wf = true) (h : kU lv nu = kU lv' nu') : lv = lv' ∧ nu = nu' := by
  have e1 := keyU lv nu h1 h2
  have e2 := keyU lv' nu' h3 h4
  rw [← h] at e2
  have e := lawU.inj e1 e2
  simp only [Value.agg.injEq] at e
  have e9 := congrArg Array.toList e
  simp only [List.cons.injEq, Value.int.injEq, true_and, and_true] at e9
  exact e9

/-- An element of a map that is a pointer, and reads as itself. -/
def heldP : Value → Option (DataW Value × List MemPlace)
  | .pointer a => some (.held (.pointer a), [])
  | _ => none

theorem heldP_inv {v : Value} {z : DataW Value × List MemPlace} (h : heldP v = some z) : z = (.held v, []) := by
  unfold heldP at h
  split at h
  · simp only [Option.some.injEq] at h
    exact h.symm
  · cases h

/-- The map of unknowns, as a datum. -/
def UD (U : Int → Int → Option Nat) (D : DataW Value) : Prop :=
  Tidy D ∧ ∀ lv nu, (Lit.int .i64 lv).wf = true → (Lit.int .i64 nu).wf = true → Maps.has D (kU lv nu) = (U lv nu).isSome ∧ D.atKey (kU lv nu) (.held (.pointer none)) = .held (ptr (U lv nu))

theorem UD.start : UD (fun _ _ => none) (.map []) := ⟨tidy_empty, fun _ _ _ _ => ⟨rfl, rfl⟩⟩

theorem UD.put {U U' : Int → Int → Option Nat} {D : DataW Value} (h : UD U D) {lv x : Int} {b : Nat} (w1 : (Lit.int .i64 lv).wf = true) (w2 : (Lit.int .i64 x).wf = true) (hU : ∀ l y, U' l y = if l = lv ∧ y = x then some b else U l y) : UD U' (D.put (kU lv x) (.held (.pointer (some ⟨b, 0, none⟩)))) := by
  obtain ⟨h1, h2⟩ := h
  have hkl : WideAt.IsKeyLit (kU lv x) := lawU.key (keyU lv x w1 w2)
  refine ⟨h1.put hkl _, fun l y w3 w4 => ?_⟩
  rw [hU l y]
  by_cases e : l = lv ∧ y = x
  · obtain ⟨rfl, rfl⟩ := e
    rw [if_pos ⟨rfl, rfl⟩]
    exact ⟨has_put_same h1.isMap hkl _, atKey_put_same h1.isMap hkl _ _⟩
  · rw [if_neg e]
    have hne : kU l y ≠ kU lv x := fun h9 => e (kU_inj w3 w4 w1 w2 h9)
    rw [has_put_other hne, atKey_put_other hne]
    exact h2 l y w3 w4

/-- The whole store: cells, and a map of unknowns. -/
structure Stor (w : World) (sb mb n : Nat) (t : Int) (X : Nat → Prop) (f : Nat → CC) (lk : Nat → Option Nat) (d : Nat → Nat) (K : (Option Addr × Nat × Nat) → List Nat) (U : Int → Int → Option Nat) (D : DataW Value) : Prop where
  sto : CSto w X f lk d K
  s0 : w.cell? ⟨sb, 0, none⟩ = some (.map (some mb))
  s1 : w.cell? ⟨sb, 1, none⟩ = some (.int .i64 t)
  sX : ¬ X sb
  map : w.ownsMap Tryz.prog 116 heldP mb n D
  ud : UD U D
  inX : ∀ l x b, U l x = some b → X b
  nil : K (none, 0, 0) = []

theorem ownsMap_but {w w' : World} {S : Nat → Prop} {b n : Nat} {D : DataW Value} {k : TypeId} {R : Value → Option (DataW Value × List MemPlace)} (h : w.ownsMap Tryz.prog k R b n D) (hb : But S w w') (hn : ¬ S b) : w'.ownsMap Tryz.prog k R b n D := by
  obtain ⟨es, clock, h1, h2⟩ := h
  exact ⟨es, clock, (hb.block b (Array.getElem?_eq_some_iff.1 h1).1 hn).trans h1, h2⟩

theorem Stor.mX {w : World} {sb mb n : Nat} {t : Int} {X : Nat → Prop} {f : Nat → CC} {lk : Nat → Option Nat} {d : Nat → Nat} {K : (Option Addr × Nat × Nat) → List Nat} {U : Int → Int → Option Nat} {D : DataW Value} (h : Stor w sb mb n t X f lk d K U D) : ¬ X mb := by
  intro hx
  obtain ⟨es, clock, h1, _⟩ := h.map
  have := h.sto.cells.at' mb hx
  unfold CellAt at this
  rw [h1] at this
  cases this

/-- Nothing of the store has changed. -/
theorem Stor.below {w w' : World} {sb mb n : Nat} {t : Int} {X : Nat → Prop} {f : Nat → CC} {lk : Nat → Option Nat} {d : Nat → Nat} {K : (Option Addr × Nat × Nat) → List Nat} {U : Int → Int → Option Nat} {D : DataW Value} (h : Stor w sb mb n t X f lk d K U D) (hb : Below w.heap.size w w') : Stor w' sb mb n t X f lk d K U D := by
  have hF : But (fun _ => False) w w' := But.ofBelow hb
  exact ⟨h.sto.short (h.sto.cells.but hF (fun _ _ h => h)) h.sto.acyc (But.ofBelow hb), (bcell hb sb 0 (lt_of_cell h.s0)).trans h.s0, (bcell hb sb 1 (lt_of_cell h.s1)).trans h.s1, h.sX, ownsMap_but h.map hF (fun h => h), h.ud, h.inX, h.nil⟩

section
variable {P : Program} (w : World) {ops : Array Oper} {rest : List Oper} {o : Oper} {a : Act} {Q : Exit → Act → World → Prop}
end

theorem zeroCP (w : World) : (zeroValue 69).run Tryz.prog w = .ok (.pointer none) w := by kernel_rfl

set_option maxRecDepth 20000 in
set_option maxHeartbeats 2000000 in
theorem unknown_old (w : World) (sb mb n : Nat) (t : Int) (X : Nat → Prop) (f : Nat → CC) (lk : Nat → Option Nat) (d : Nat → Nat) (K : (Option Addr × Nat × Nat) → List Nat) (U : Int → Int → Option Nat) (D : DataW Value) (hS : Stor w sb mb n t X f lk d K U D) (nd : Nd) (lv : Int) (w1 : (Lit.int .i64 lv).wf = true) (w2 : (Lit.int .i64 nd.num).wf = true) (b : Nat) (hU : U lv nd.num = some b) :
    Calls Tryz.prog 52 #[.pointer (some ⟨sb, 0, none⟩), .agg #[.int .i64 nd.kind, .int .i64 nd.num, .string nd.text, .int .i64 nd.kids, .int .i64 nd.place], .int .i64 lv] w fun e w' => e = .returned (.pointer (some ⟨b, 0, none⟩)) ∧ Below w.heap.size w w' := by
  have hv := (hS.ud.2 lv nd.num w1 w2).2
  rw [hU] at hv
  simp only [ptr, Option.map_some] at hv
  have hkey := keyU lv nd.num w1 w2
  have s0 := hS.s0
  have hsl := lt_of_cell s0
  have HOWN : Hid (w.ownsMap Tryz.prog 116 heldP mb n D) := hS.map
  have HLK : Hid (∀ W : World, Below w.heap.size w W → (Instr.lookup 91 (.map (some mb)) (.agg #[.int .i64 lv, .int .i64 nd.num]) false).run Tryz.prog W = .ok (.pointer (some ⟨b, 0, none⟩)) W) := by
    intro W hW
    obtain ⟨v', ps, hrun, hv'⟩ := (ownsMap_but HOWN.out (But.ofBelow (S := fun _ => False) hW) (fun h => h)).lookup lawU Tryz.underlying91 (zeroCP W) (zd := .held (.pointer none)) (zp := []) rfl hkey
    rw [hv] at hv'
    have h9 := heldP_inv hv'
    simp only [Prod.mk.injEq, DataW.held.injEq] at h9
    rw [hrun, ← h9.1]
  have hbA : Below w.heap.size w ((w.alloc (.cells #[.int .i64 nd.kind, .int .i64 nd.num, .string nd.text, .int .i64 nd.kids, .int .i64 nd.place] 40)).alloc (.cells #[.int .i64 lv, .int .i64 nd.num] 116)) := ((Below.refl _ w).alloc (Nat.le_refl _) _).alloc (by simp) _
  have HL1 := HLK.out _ hbA.drew
  have HL2 := HLK.out _ hbA.drew.drew
  clear hS hkey hv
  go_enter Tryz.func52, Tryz.ntmps52
  go_wp2_with fail
  go_region
  go_wp2_with fail
  go_region
  go_wp2
  go_ret
  exact ⟨rfl, hbA.drew.drew⟩

/-- A cell that has been made for an unknown. -/
def leafC (nd : Nd) (lv : Int) : CC := ⟨0, nd, (none, 0, 0), 0, lv, 0, none, 0, 0⟩

set_option maxRecDepth 20000 in
set_option maxHeartbeats 2000000 in
theorem unknown_new (w : World) (sb mb n : Nat) (hn : n ≤ 1000000) (t : Int) (X : Nat → Prop) (f : Nat → CC) (lk : Nat → Option Nat) (d : Nat → Nat) (K : (Option Addr × Nat × Nat) → List Nat) (U : Int → Int → Option Nat) (D : DataW Value) (hS : Stor w sb mb n t X f lk d K U D) (nd : Nd) (lv : Int) (w1 : (Lit.int .i64 lv).wf = true) (w2 : (Lit.int .i64 nd.num).wf = true) (hU : U lv nd.num = none) :
    Calls Tryz.prog 52 #[.pointer (some ⟨sb, 0, none⟩), .agg #[.int .i64 nd.kind, .int .i64 nd.num, .string nd.text, .int .i64 nd.kids, .int .i64 nd.place], .int .i64 lv] w fun e w' => ∃ b, w.heap.size ≤ b ∧ e = .returned (.pointer (some ⟨b, 0, none⟩)) ∧ CellAt w' b (leafC nd lv) none ∧ w'.ownsMap Tryz.prog 116 heldP mb (n + 1) (D.put (kU lv nd.num) (.held (.pointer (some ⟨b, 0, none⟩)))) ∧ But (· = mb) w w' := by
  have hv := (hS.ud.2 lv nd.num w1 w2).2
  rw [hU] at hv
  simp only [ptr, Option.map_none] at hv
  have hkey := keyU lv nd.num w1 w2
  have s0 := hS.s0
  have hsl := lt_of_cell s0
  have hml := hS.map.lt
  have hsm : sb ≠ mb := by
    rintro rfl
    obtain ⟨es, clock, h1, _⟩ := hS.map
    rw [World.cell?] at s0
    simp [h1] at s0
  have HOWN : Hid (w.ownsMap Tryz.prog 116 heldP mb n D) := hS.map
  have hbA : Below w.heap.size w ((w.alloc (.cells #[.int .i64 nd.kind, .int .i64 nd.num, .string nd.text, .int .i64 nd.kids, .int .i64 nd.place] 40)).alloc (.cells #[.int .i64 lv, .int .i64 nd.num] 116)) := ((Below.refl _ w).alloc (Nat.le_refl _) _).alloc (by simp) _
  have HL1 : (Instr.lookup 91 (.map (some mb)) (.agg #[.int .i64 lv, .int .i64 nd.num]) false).run Tryz.prog ((w.alloc (.cells #[.int .i64 nd.kind, .int .i64 nd.num, .string nd.text, .int .i64 nd.kids, .int .i64 nd.place] 40)).alloc (.cells #[.int .i64 lv, .int .i64 nd.num] 116)).drew = .ok (.pointer none) ((w.alloc (.cells #[.int .i64 nd.kind, .int .i64 nd.num, .string nd.text, .int .i64 nd.kids, .int .i64 nd.place] 40)).alloc (.cells #[.int .i64 lv, .int .i64 nd.num] 116)).drew := by
    obtain ⟨v', ps, hrun, hv'⟩ := (ownsMap_but HOWN.out (But.ofBelow (S := fun _ => False) hbA.drew) (fun h => h)).lookup lawU Tryz.underlying91 (zeroCP _) (zd := .held (.pointer none)) (zp := []) rfl hkey
    rw [hv] at hv'
    have h9 := heldP_inv hv'
    simp only [Prod.mk.injEq, DataW.held.injEq] at h9
    rw [hrun, ← h9.1]
  clear hS hv
  go_enter Tryz.func52, Tryz.ntmps52
  go_wp2_with fail
  go_region
  go_wp2_with fail
  have hbD := hbA.drew
  have hzD : ((w.alloc (.cells #[.int .i64 nd.kind, .int .i64 nd.num, .string nd.text, .int .i64 nd.kids, .int .i64 nd.place] 40)).alloc (.cells #[.int .i64 lv, .int .i64 nd.num] 116)).drew.heap.size = w.heap.size + 2 := by simp
  have k0 : ((w.alloc (.cells #[.int .i64 nd.kind, .int .i64 nd.num, .string nd.text, .int .i64 nd.kids, .int .i64 nd.place] 40)).alloc (.cells #[.int .i64 lv, .int .i64 nd.num] 116)).drew.heap[w.heap.size]? = some (.cells #[.int .i64 nd.kind, .int .i64 nd.num, .string nd.text, .int .i64 nd.kids, .int .i64 nd.place] 40 (0, 0)) := by
    show ((w.alloc (.cells #[.int .i64 nd.kind, .int .i64 nd.num, .string nd.text, .int .i64 nd.kids, .int .i64 nd.place] 40)).alloc (.cells #[.int .i64 lv, .int .i64 nd.num] 116)).heap[w.heap.size]? = _
    rw [heap_alloc_old _ _ (by simp)]
    exact heap_alloc_new _ _
  have k1 : ((w.alloc (.cells #[.int .i64 nd.kind, .int .i64 nd.num, .string nd.text, .int .i64 nd.kids, .int .i64 nd.place] 40)).alloc (.cells #[.int .i64 lv, .int .i64 nd.num] 116)).drew.heap[w.heap.size + 1]? = some (.cells #[.int .i64 lv, .int .i64 nd.num] 116 (0, 0)) := by
    show ((w.alloc (.cells #[.int .i64 nd.kind, .int .i64 nd.num, .string nd.text, .int .i64 nd.kids, .int .i64 nd.place] 40)).alloc (.cells #[.int .i64 lv, .int .i64 nd.num] 116)).heap[w.heap.size + 1]? = _
    have h9 := heap_alloc_new (w.alloc (.cells #[.int .i64 nd.kind, .int .i64 nd.num, .string nd.text, .int .i64 nd.kids, .int .i64 nd.place] 40)) (.cells #[.int .i64 lv, .int .i64 nd.num] 116)
    simpa using h9
  have s1 := (bcell hbD sb 0 hsl).trans s0
  have how1 := ownsMap_but HOWN.out (But.ofBelow (S := fun _ => False) hbD) (fun h => h)
  clear HL1 hbA
  generalize ((w.alloc (.cells #[.int .i64 nd.kind, .int .i64 nd.num, .string nd.text, .int .i64 nd.kids, .int .i64 nd.place] 40)).alloc (.cells #[.int .i64 lv, .int .i64 nd.num] 116)).drew = W1 at *
  obtain ⟨z, hz⟩ : ∃ z, w.heap.size = z := ⟨_, rfl⟩
  have hz1 : w.heap.size + 2 = z + 2 := by rw [hz]
  rw [hz] at k0 k1 hsl hml
  rw [hz1] at hzD
  (try rw [hz])
  have n0 : W1.cell? ⟨z, 0, none⟩ = some (.int .i64 nd.kind) := by rw [cell_of_row _ _ _ _ 40 (0, 0) k0]; rfl
  have n1 : W1.cell? ⟨z, 1, none⟩ = some (.int .i64 nd.num) := by rw [cell_of_row _ _ _ _ 40 (0, 0) k0]; rfl
  have n2 : W1.cell? ⟨z, 2, none⟩ = some (.string nd.text) := by rw [cell_of_row _ _ _ _ 40 (0, 0) k0]; rfl
  have n3 : W1.cell? ⟨z, 3, none⟩ = some (.int .i64 nd.kids) := by rw [cell_of_row _ _ _ _ 40 (0, 0) k0]; rfl
  have n4 : W1.cell? ⟨z, 4, none⟩ = some (.int .i64 nd.place) := by rw [cell_of_row _ _ _ _ 40 (0, 0) k0]; rfl
  have q0 : W1.cell? ⟨z + 1, 0, none⟩ = some (.int .i64 lv) := by rw [cell_of_row _ _ _ _ 116 (0, 0) k1]; rfl
  have q1 : W1.cell? ⟨z + 1, 1, none⟩ = some (.int .i64 nd.num) := by rw [cell_of_row _ _ _ _ 116 (0, 0) k1]; rfl
  obtain ⟨w4, hup, hown4, hgrow4⟩ := (how1.alloc (.cells #[.int .i64 0, .int .i64 nd.kind, .int .i64 nd.num, .string nd.text, .int .i64 nd.kids, .int .i64 nd.place, .slice none 0 0, .int .i64 0, .int .i64 lv, .pointer none, .int .i64 0, .pointer none, .int .i64 0, .int .i64 0] 109)).drew.update lawU Tryz.underlying91 (by unfold maxLen; omega) (val := .pointer (some ⟨W1.heap.size, 0, none⟩)) hkey (d := .held (.pointer (some ⟨W1.heap.size, 0, none⟩))) (ps := []) rfl
  have hb3 : Below W1.heap.size W1 (W1.alloc (.cells #[.int .i64 0, .int .i64 nd.kind, .int .i64 nd.num, .string nd.text, .int .i64 nd.kids, .int .i64 nd.place, .slice none 0 0, .int .i64 0, .int .i64 lv, .pointer none, .int .i64 0, .pointer none, .int .i64 0, .int .i64 0] 109)).drew := ((Below.refl _ W1).alloc (Nat.le_refl _) _).drew
  have hz3 : (W1.alloc (.cells #[.int .i64 0, .int .i64 nd.kind, .int .i64 nd.num, .string nd.text, .int .i64 nd.kids, .int .i64 nd.place, .slice none 0 0, .int .i64 0, .int .i64 lv, .pointer none, .int .i64 0, .pointer none, .int .i64 0, .int .i64 0] 109)).drew.heap.size = W1.heap.size + 1 := World.size_alloc _ _
  have hBm := but_grownP hgrow4
  have HAT : Hid (CellAt w4 W1.heap.size (leafC nd lv) none) := by
    have h9 := heap_alloc_new W1 (.cells #[.int .i64 0, .int .i64 nd.kind, .int .i64 nd.num, .string nd.text, .int .i64 nd.kids, .int .i64 nd.place, .slice none 0 0, .int .i64 0, .int .i64 lv, .pointer none, .int .i64 0, .pointer none, .int .i64 0, .int .i64 0] 109)
    have h8 := (hBm.block W1.heap.size (by omega) (by omega)).trans h9
    exact h8
  have HBW : Hid (But (· = mb) w w4) := ((But.ofBelow hbD).trans (But.ofBelow hb3)).trans hBm
  have hs4 : w4.cell? ⟨sb, 0, none⟩ = some (.map (some mb)) := (hBm.cellB (b := sb) (o := 0) (by omega) hsm).trans ((bcell hb3 sb 0 (by omega)).trans s1)
  have r0 : w4.cell? ⟨z + 1, 0, none⟩ = some (.int .i64 lv) := (hBm.cellB (b := z + 1) (o := 0) (by omega) (by omega)).trans ((bcell hb3 (z + 1) 0 (by omega)).trans q0)
  have r1 : w4.cell? ⟨z + 1, 1, none⟩ = some (.int .i64 nd.num) := (hBm.cellB (b := z + 1) (o := 1) (by omega) (by omega)).trans ((bcell hb3 (z + 1) 1 (by omega)).trans q1)
  have HL4 : (Instr.lookup 91 (.map (some mb)) (.agg #[.int .i64 lv, .int .i64 nd.num]) false).run Tryz.prog w4.drew = .ok (.pointer (some ⟨W1.heap.size, 0, none⟩)) w4.drew := by
    obtain ⟨v', ps, hrun, hv'⟩ := hown4.drew.lookup lawU Tryz.underlying91 (zeroCP _) (zd := .held (.pointer none)) (zp := []) rfl hkey
    rw [atKey_put_same (how1.tidy lawU).isMap (lawU.key hkey)] at hv'
    have h9 := heldP_inv hv'
    simp only [Prod.mk.injEq, DataW.held.injEq] at h9
    rw [hrun, ← h9.1]
  have HOW4 : Hid (w4.ownsMap Tryz.prog 116 heldP mb (n + 1) (D.put (kU lv nd.num) (.held (.pointer (some ⟨W1.heap.size, 0, none⟩))))) := hown4
  have hWz : w.heap.size ≤ W1.heap.size := hbD.size
  have hW1 : sb < W1.heap.size := by omega
  have hW2 : z < W1.heap.size := by omega
  have hW3 : z + 1 < W1.heap.size := by omega
  clear hown4 hgrow4 hBm hb3 hbD k0 k1 how1 hkey s0 hml HOWN hz3 hzD hz1
  go_region
  clear hup n0 n1 n2 n3 n4 q0 q1 s1
  go_wp2_with fail
  go_region
  go_wp2
  go_ret
  exact ⟨W1.heap.size, by omega, rfl, HAT.out, HOW4.out.drew, HBW.out.drew⟩

end Go.Proofs.YthioecjcnajmgaaGreatDoor

namespace Go.Proofs.YthioecjcnajmgaaGreatDoor

open Go.RowKit Go.Maps Go.WideMaps

theorem lits_int {m : Nat} {tt : TypeId} (hu : Tryz.prog.underlying tt = some (.int .i64)) {v : Value} {ls : List Lit} (h : Tryz.prog.keyLits (m + 1) tt [v] = some ls) : ∃ x, v = .int .i64 x ∧ (Lit.int .i64 x).wf = true ∧ ls = [.int .i64 x] := by
  unfold Program.keyLits at h
  rw [hu] at h
  cases v <;> simp at h
  rename_i k n
  obtain ⟨⟨rfl, h1⟩, rfl⟩ := h
  exact ⟨n, rfl, h1, rfl⟩

set_option maxRecDepth 20000 in
theorem keyU_inv {key : Value} {kl : Lit} (h : keyOf Tryz.prog 116 key = some kl) : ∃ p : Int × Int, key = .agg #[.int .i64 p.1, .int .i64 p.2] ∧ (Lit.int .i64 p.1).wf = true ∧ (Lit.int .i64 p.2).wf = true ∧ kl = kU p.1 p.2 := by
  have h0 := h
  unfold keyOf at h
  simp only [Tryz.underlying116] at h
  split at h
  · rename_i hf
    simp only [Bool.and_eq_true] at hf
    have hs : ∃ m, Tryz.prog.types.size + 1 = m + 2 := ⟨Tryz.prog.types.size - 1, by have h9 : 0 < Tryz.prog.types.size := Nat.lt_of_le_of_lt (Nat.zero_le _) rowU; omega⟩
    obtain ⟨m, hm⟩ := hs
    rw [hm] at h
    obtain ⟨ls, hls, _⟩ := Option.map_eq_some_iff.1 h
    unfold Program.keyLits at hls
    simp only [Tryz.underlying116] at hls
    split at hls
    · rename_i hc
      obtain ⟨hlen, _⟩ := hc
      rw [cellsU] at hlen
      have hag : ∃ c0 c1, key = .agg #[c0, c1] := by
        have hf2 := hf.2
        obtain ⟨cs, rfl⟩ : ∃ cs, key = .agg cs := by
          cases key <;> first | exact ⟨_, rfl⟩ | (exfalso; simp [Value.formed, Tryz.underlying116] at hf2)
        simp only [Value.cells] at hlen
        match cs, hlen with
        | ⟨[c0, c1]⟩, _ => exact ⟨c0, c1, rfl⟩
      obtain ⟨c0, c1, rfl⟩ := hag
      simp only [Value.cells, List.mapM_cons, List.mapM_nil, cells3K, cells2K, List.drop_zero, List.drop_succ_cons, List.take_succ_cons, List.take_zero] at hls
      cases e0 : Tryz.prog.keyLits (m + 1) 3 [c0] with
      | none => rw [e0] at hls; simp at hls
      | some l0 =>
        cases e1 : Tryz.prog.keyLits (m + 1) 2 [c1] with
        | none => rw [e0, e1] at hls; simp at hls
        | some l1 =>
          obtain ⟨x, rfl, wx, _⟩ := lits_int Tryz.underlying3 e0
          obtain ⟨y, rfl, wy, _⟩ := lits_int Tryz.underlying2 e1
          refine ⟨(x, y), rfl, wx, wy, ?_⟩
          have h9 := keyU x y wx wy
          rw [h9] at h0
          exact (Option.some.inj h0).symm
    · cases hls
  · cases h

theorem ranges_but {w w' : World} {S : Nat → Prop} {k : TypeId} {R : Value → Option (DataW Value × List MemPlace)} {b r n : Nat} {D : DataW Value} {left : Lit → Bool} {cnt : Nat} (h : w.ranges Tryz.prog k R b r n D left cnt) (hb : But S w w') (h1 : ¬ S b) (h2 : ¬ S r) : w'.ranges Tryz.prog k R b r n D left cnt := by
  obtain ⟨es, clock, since, seen, c0, a1, a2, a3, a4, a5, a6⟩ := h
  exact ⟨es, clock, since, seen, c0, (hb.block b (Array.getElem?_eq_some_iff.1 a1).1 h1).trans a1, a2, a3, a4, (hb.block r (Array.getElem?_eq_some_iff.1 a5).1 h2).trans a5, a6⟩

theorem ranges_kind {w : World} {k : TypeId} {R : Value → Option (DataW Value × List MemPlace)} {b r n : Nat} {D : DataW Value} {left : Lit → Bool} {cnt : Nat} (h : w.ranges Tryz.prog k R b r n D left cnt) : (∀ cs t f, w.heap[r]? ≠ some (.cells cs t f)) ∧ (∀ cs t f, w.heap[b]? ≠ some (.cells cs t f)) := by
  obtain ⟨es, clock, since, seen, c0, a1, _, _, _, a5, _⟩ := h
  refine ⟨fun cs t f e => ?_, fun cs t f e => ?_⟩
  · rw [a5] at e; cases e
  · rw [a1] at e; cases e

theorem kU_same {lv nu lv' nu' : Int} (h1 : (Lit.int .i64 lv).wf = true) (h2 : (Lit.int .i64 nu).wf = true) (h3 : (Lit.int .i64 lv').wf = true) (h4 : (Lit.int .i64 nu').wf = true) : (kU lv nu).sameKey (kU lv' nu') = decide (lv = lv' ∧ nu = nu') := by
  by_cases h : lv = lv' ∧ nu = nu'
  · obtain ⟨rfl, rfl⟩ := h
    rw [WideAt.sameKey_self (lawU.key (keyU lv nu h1 h2))]
    simp
  · rw [decide_eq_false h]
    cases e : (kU lv nu).sameKey (kU lv' nu')
    · rfl
    · exact absurd (kU_inj h1 h2 h3 h4 (WideAt.sameKey_eq e)) h

end Go.Proofs.YthioecjcnajmgaaGreatDoor

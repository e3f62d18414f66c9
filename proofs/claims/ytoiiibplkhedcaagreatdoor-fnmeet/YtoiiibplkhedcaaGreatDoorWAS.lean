import Derived.Test.YtoiiibplkhedcaaGreatDoorWAR
import Derived.Maps.OwnSet
import Derived.Maps.OwnOps
import Derived.Maps.OwnIn
import Derived.DeepKeys4
set_option maxRecDepth 20000
set_option maxHeartbeats 4000000
namespace Go.Proofs.YtoiiibplkhedcaaGreatDoor
open Go.RowKit Go.Maps Go.WideMaps
theorem Jae : laidOutB Tryz.prog = true := by kernel_rfl
theorem rowU : (127 : TypeId) < Tryz.prog.types.size := of_decide_eq_true (by kernel_rfl)
theorem Jdq : (match Tryz.prog.underlying 127 with | some (.array _ _) | some (.struct _) => true | _ => false) = true := by kernel_rfl
theorem lawU : Keyed Tryz.prog 127 := Keyed.of_law (deep_law_laid Jae (m := 2) (by omega) rowU (by kernel_rfl) Jdq)
theorem Qxx : Tryz.prog.cellsOf 127 = 2 := by kernel_rfl
theorem Jdr : Tryz.prog.keyType 127 = true := by kernel_rfl
theorem Qxy : Tryz.prog.cellsOf 3 = 1 := by kernel_rfl
theorem Qxz : Tryz.prog.cellsOf 2 = 1 := by kernel_rfl
def kU (lv nu : Int) : Lit := .string (keyBytes [.int .i64 lv, .int .i64 nu])
theorem keyU (lv nu : Int) (h1 : (Lit.int .i64 lv).wf = true) (h2 : (Lit.int .i64 nu).wf = true) : keyOf Tryz.prog 127 (.agg #[.int .i64 lv, .int .i64 nu]) = some (kU lv nu) := by
  unfold keyOf
  simp only [Tryz.underlying127]
  rw [if_pos (by simp [Jdr, Value.formed, Tryz.underlying127, Qxx])]
  have hs : ∃ m, Tryz.prog.types.size + 1 = m + 2 := ⟨Tryz.prog.types.size - 1, by have h9 : 0 < Tryz.prog.types.size := Nat.lt_of_le_of_lt (Nat.zero_le _) rowU; omega⟩
  obtain ⟨m, hm⟩ := hs
  rw [hm]
  unfold Program.keyLits
  simp only [Tryz.underlying127, Value.cells]
  rw [if_pos ⟨by rw [Qxx]; rfl, by simp⟩, List.mapM_cons, List.mapM_cons, List.mapM_nil]
  simp [Qxy, Qxz, Program.keyLits, Tryz.underlying3, Tryz.underlying2, h1, h2, kU]
theorem Jbg {lv nu lv' nu' : Int} (h1 : (Lit.int .i64 lv).wf = true) (h2 : (Lit.int .i64 nu).wf = true) (h3 : (Lit.int .i64 lv').wf = true) (h4 : (Lit.int .i64 nu').wf = true) (h : kU lv nu = kU lv' nu') : lv = lv' ∧ nu = nu' := by
  have e1 := keyU lv nu h1 h2
  have e2 := keyU lv' nu' h3 h4
  rw [← h] at e2
  have e := lawU.inj e1 e2
  simp only [Value.agg.injEq] at e
  have e9 := congrArg Array.toList e
  simp only [List.cons.injEq, Value.int.injEq, true_and, and_true] at e9
  exact e9
def Qce : Value → Option (DataW Value × List MemPlace)
  | .pointer a => some (.held (.pointer a), [])
  | _ => none
theorem Qep {v : Value} {z : DataW Value × List MemPlace} (h : Qce v = some z) : z = (.held v, []) := by
  unfold Qce at h
  split at h
  · simp only [Option.some.injEq] at h
    exact h.symm
  · cases h
def UD (U : Int → Int → Option Nat) (D : DataW Value) : Prop :=
  Tidy D ∧ ∀ lv nu, (Lit.int .i64 lv).wf = true → (Lit.int .i64 nu).wf = true → Maps.has D (kU lv nu) = (U lv nu).isSome ∧ D.atKey (kU lv nu) (.held (.pointer none)) = .held (ptr (U lv nu))
theorem UD.start : UD (fun _ _ => none) (.map []) := ⟨tidy_empty, fun _ _ _ _ => ⟨rfl, rfl⟩⟩
theorem UD.put {U U' : Int → Int → Option Nat} {D : DataW Value} (h : UD U D) {lv x : Int} {b : Nat} (w1 : (Lit.int .i64 lv).wf = true) (w2 : (Lit.int .i64 x).wf = true) (hU : ∀ l y, U' l y = if l = lv ∧ y = x then some b else U l y) : UD U' (D.put (kU lv x) (.held (.pointer (some ⟨b, 0, none⟩)))) := by
  obtain ⟨h1, h2⟩ := h
  have hkl : WideAt.IsKeyLit (kU lv x) := lawU.key (keyU lv x w1 w2)
  refine ⟨h1.put hkl _, fun l y w3 w4 => ?_⟩
  rw [hU l y]
  by_cases e : l = lv ∧ y = x
  · obtain ⟨rfl, rfl⟩ := e
    rw [if_pos ⟨rfl, rfl⟩]
    exact ⟨has_put_same h1.isMap hkl _, atKey_put_same h1.isMap hkl _ _⟩
  · rw [if_neg e]
    have hne : kU l y ≠ kU lv x := fun h9 => e (Jbg w3 w4 w1 w2 h9)
    rw [has_put_other hne, atKey_put_other hne]
    exact h2 l y w3 w4
structure Stor (w : World) (sb mb n : Nat) (t : Int) (X : Nat → Prop) (f : Nat → CC) (lk : Nat → Option Nat) (d : Nat → Nat) (K : (Option Addr × Nat × Nat) → List Nat) (U : Int → Int → Option Nat) (D : DataW Value) : Prop where
  sto : CSto w X f lk d K
  s0 : w.cell? ⟨sb, 0, none⟩ = some (.map (some mb))
  s1 : w.cell? ⟨sb, 1, none⟩ = some (.int .i64 t)
  sX : ¬ X sb
  map : w.ownsMap Tryz.prog 127 Qce mb n D
  ud : UD U D
  inX : ∀ l x b, U l x = some b → X b
  nil : K (none, 0, 0) = []
theorem Qbm {w w' : World} {S : Nat → Prop} {b n : Nat} {D : DataW Value} {k : TypeId} {R : Value → Option (DataW Value × List MemPlace)} (h : w.ownsMap Tryz.prog k R b n D) (hb : But S w w') (hn : ¬ S b) : w'.ownsMap Tryz.prog k R b n D := by
  obtain ⟨es, clock, h1, h2⟩ := h
  exact ⟨es, clock, (hb.block b (Array.getElem?_eq_some_iff.1 h1).1 hn).trans h1, h2⟩
theorem Stor.mX {w : World} {sb mb n : Nat} {t : Int} {X : Nat → Prop} {f : Nat → CC} {lk : Nat → Option Nat} {d : Nat → Nat} {K : (Option Addr × Nat × Nat) → List Nat} {U : Int → Int → Option Nat} {D : DataW Value} (h : Stor w sb mb n t X f lk d K U D) : ¬ X mb := by
  intro hx
  obtain ⟨es, clock, h1, _⟩ := h.map
  have := h.sto.cells.at' mb hx
  unfold CellAt at this
  rw [h1] at this
  cases this
theorem Stor.below {w w' : World} {sb mb n : Nat} {t : Int} {X : Nat → Prop} {f : Nat → CC} {lk : Nat → Option Nat} {d : Nat → Nat} {K : (Option Addr × Nat × Nat) → List Nat} {U : Int → Int → Option Nat} {D : DataW Value} (h : Stor w sb mb n t X f lk d K U D) (hb : Below w.heap.size w w') : Stor w' sb mb n t X f lk d K U D := by
  have hF : But (fun _ => False) w w' := But.ofBelow hb
  exact ⟨h.sto.short (h.sto.cells.but hF (fun _ _ h => h)) h.sto.acyc (But.ofBelow hb), (Qfd hb sb 0 (Qaa h.s0)).trans h.s0, (Qfd hb sb 1 (Qaa h.s1)).trans h.s1, h.sX, Qbm h.map hF (fun h => h), h.ud, h.inX, h.nil⟩
section
variable {P : Program} (w : World) {ops : Array Oper} {rest : List Oper} {o : Oper} {a : Act} {Q : Exit → Act → World → Prop}
end
theorem Qum (w : World) : (zeroValue 64).run Tryz.prog w = .ok (.pointer none) w := by kernel_rfl
theorem Qpz (w : World) (sb mb n : Nat) (t : Int) (X : Nat → Prop) (f : Nat → CC) (lk : Nat → Option Nat) (d : Nat → Nat) (K : (Option Addr × Nat × Nat) → List Nat) (U : Int → Int → Option Nat) (D : DataW Value) (hS : Stor w sb mb n t X f lk d K U D) (nd : Nd) (lv : Int) (w1 : (Lit.int .i64 lv).wf = true) (w2 : (Lit.int .i64 nd.num).wf = true) (b : Nat) (hU : U lv nd.num = some b) :
    Calls Tryz.prog 63 #[.pointer (some ⟨sb, 0, none⟩), .agg #[.int .i64 nd.kind, .int .i64 nd.num, .string nd.text, .int .i64 nd.kids, .int .i64 nd.place], .int .i64 lv] w fun e w' => e = .returned (.pointer (some ⟨b, 0, none⟩)) ∧ Below w.heap.size w w' := by
  have hv := (hS.ud.2 lv nd.num w1 w2).2
  rw [hU] at hv
  simp only [ptr, Option.map_some] at hv
  have hkey := keyU lv nd.num w1 w2
  have s0 := hS.s0
  have hsl := Qaa s0
  have HOWN : Hid (w.ownsMap Tryz.prog 127 Qce mb n D) := hS.map
  have HLK : Hid (∀ W : World, Below w.heap.size w W → (Instr.lookup 102 (.map (some mb)) (.agg #[.int .i64 lv, .int .i64 nd.num]) false).run Tryz.prog W = .ok (.pointer (some ⟨b, 0, none⟩)) W) := by
    intro W hW
    obtain ⟨v', ps, hrun, hv'⟩ := (Qbm HOWN.out (But.ofBelow (S := fun _ => False) hW) (fun h => h)).lookup lawU Tryz.underlying102 (Qum W) (zd := .held (.pointer none)) (zp := []) rfl hkey
    rw [hv] at hv'
    have h9 := Qep hv'
    simp only [Prod.mk.injEq, DataW.held.injEq] at h9
    rw [hrun, ← h9.1]
  have hbA : Below w.heap.size w ((w.alloc (.cells #[.int .i64 nd.kind, .int .i64 nd.num, .string nd.text, .int .i64 nd.kids, .int .i64 nd.place] 43)).alloc (.cells #[.int .i64 lv, .int .i64 nd.num] 127)) := ((Below.refl _ w).alloc (Nat.le_refl _) _).alloc (by simp) _
  have HL1 := HLK.out _ hbA.drew
  have HL2 := HLK.out _ hbA.drew.drew
  clear hS hkey hv
  go_enter Tryz.func63, Tryz.ntmps63
  go_wp2_with fail
  go_region
  go_wp2_with fail
  go_region
  go_wp2
  go_ret
  exact ⟨rfl, hbA.drew.drew⟩
def Qdd (nd : Nd) (lv : Int) : CC := ⟨0, nd, (none, 0, 0), 0, lv, 0, none, 0, 0⟩
theorem Qqa (w : World) (sb mb n : Nat) (hn : n ≤ 1000000) (t : Int) (X : Nat → Prop) (f : Nat → CC) (lk : Nat → Option Nat) (d : Nat → Nat) (K : (Option Addr × Nat × Nat) → List Nat) (U : Int → Int → Option Nat) (D : DataW Value) (hS : Stor w sb mb n t X f lk d K U D) (nd : Nd) (lv : Int) (w1 : (Lit.int .i64 lv).wf = true) (w2 : (Lit.int .i64 nd.num).wf = true) (hU : U lv nd.num = none) :
    Calls Tryz.prog 63 #[.pointer (some ⟨sb, 0, none⟩), .agg #[.int .i64 nd.kind, .int .i64 nd.num, .string nd.text, .int .i64 nd.kids, .int .i64 nd.place], .int .i64 lv] w fun e w' => ∃ b, w.heap.size ≤ b ∧ e = .returned (.pointer (some ⟨b, 0, none⟩)) ∧ CellAt w' b (Qdd nd lv) none ∧ w'.ownsMap Tryz.prog 127 Qce mb (n + 1) (D.put (kU lv nd.num) (.held (.pointer (some ⟨b, 0, none⟩)))) ∧ But (· = mb) w w' := by
  have hv := (hS.ud.2 lv nd.num w1 w2).2
  rw [hU] at hv
  simp only [ptr, Option.map_none] at hv
  have hkey := keyU lv nd.num w1 w2
  have s0 := hS.s0
  have hsl := Qaa s0
  have hml := hS.map.lt
  have hsm : sb ≠ mb := by
    rintro rfl
    obtain ⟨es, clock, h1, _⟩ := hS.map
    rw [World.cell?] at s0
    simp [h1] at s0
  have HOWN : Hid (w.ownsMap Tryz.prog 127 Qce mb n D) := hS.map
  have hbA : Below w.heap.size w ((w.alloc (.cells #[.int .i64 nd.kind, .int .i64 nd.num, .string nd.text, .int .i64 nd.kids, .int .i64 nd.place] 43)).alloc (.cells #[.int .i64 lv, .int .i64 nd.num] 127)) := ((Below.refl _ w).alloc (Nat.le_refl _) _).alloc (by simp) _
  have HL1 : (Instr.lookup 102 (.map (some mb)) (.agg #[.int .i64 lv, .int .i64 nd.num]) false).run Tryz.prog ((w.alloc (.cells #[.int .i64 nd.kind, .int .i64 nd.num, .string nd.text, .int .i64 nd.kids, .int .i64 nd.place] 43)).alloc (.cells #[.int .i64 lv, .int .i64 nd.num] 127)).drew = .ok (.pointer none) ((w.alloc (.cells #[.int .i64 nd.kind, .int .i64 nd.num, .string nd.text, .int .i64 nd.kids, .int .i64 nd.place] 43)).alloc (.cells #[.int .i64 lv, .int .i64 nd.num] 127)).drew := by
    obtain ⟨v', ps, hrun, hv'⟩ := (Qbm HOWN.out (But.ofBelow (S := fun _ => False) hbA.drew) (fun h => h)).lookup lawU Tryz.underlying102 (Qum _) (zd := .held (.pointer none)) (zp := []) rfl hkey
    rw [hv] at hv'
    have h9 := Qep hv'
    simp only [Prod.mk.injEq, DataW.held.injEq] at h9
    rw [hrun, ← h9.1]
  clear hS hv
  go_enter Tryz.func63, Tryz.ntmps63
  go_wp2_with fail
  go_region
  go_wp2_with fail
  have hbD := hbA.drew
  have hzD : ((w.alloc (.cells #[.int .i64 nd.kind, .int .i64 nd.num, .string nd.text, .int .i64 nd.kids, .int .i64 nd.place] 43)).alloc (.cells #[.int .i64 lv, .int .i64 nd.num] 127)).drew.heap.size = w.heap.size + 2 := by simp
  have k0 : ((w.alloc (.cells #[.int .i64 nd.kind, .int .i64 nd.num, .string nd.text, .int .i64 nd.kids, .int .i64 nd.place] 43)).alloc (.cells #[.int .i64 lv, .int .i64 nd.num] 127)).drew.heap[w.heap.size]? = some (.cells #[.int .i64 nd.kind, .int .i64 nd.num, .string nd.text, .int .i64 nd.kids, .int .i64 nd.place] 43 (0, 0)) := by
    show ((w.alloc (.cells #[.int .i64 nd.kind, .int .i64 nd.num, .string nd.text, .int .i64 nd.kids, .int .i64 nd.place] 43)).alloc (.cells #[.int .i64 lv, .int .i64 nd.num] 127)).heap[w.heap.size]? = _
    rw [heap_alloc_old _ _ (by simp)]
    exact heap_alloc_new _ _
  have k1 : ((w.alloc (.cells #[.int .i64 nd.kind, .int .i64 nd.num, .string nd.text, .int .i64 nd.kids, .int .i64 nd.place] 43)).alloc (.cells #[.int .i64 lv, .int .i64 nd.num] 127)).drew.heap[w.heap.size + 1]? = some (.cells #[.int .i64 lv, .int .i64 nd.num] 127 (0, 0)) := by
    show ((w.alloc (.cells #[.int .i64 nd.kind, .int .i64 nd.num, .string nd.text, .int .i64 nd.kids, .int .i64 nd.place] 43)).alloc (.cells #[.int .i64 lv, .int .i64 nd.num] 127)).heap[w.heap.size + 1]? = _
    have h9 := heap_alloc_new (w.alloc (.cells #[.int .i64 nd.kind, .int .i64 nd.num, .string nd.text, .int .i64 nd.kids, .int .i64 nd.place] 43)) (.cells #[.int .i64 lv, .int .i64 nd.num] 127)
    simpa using h9
  have s1 := (Qfd hbD sb 0 hsl).trans s0
  have how1 := Qbm HOWN.out (But.ofBelow (S := fun _ => False) hbD) (fun h => h)
  clear HL1 hbA
  generalize ((w.alloc (.cells #[.int .i64 nd.kind, .int .i64 nd.num, .string nd.text, .int .i64 nd.kids, .int .i64 nd.place] 43)).alloc (.cells #[.int .i64 lv, .int .i64 nd.num] 127)).drew = W1 at *
  obtain ⟨z, hz⟩ : ∃ z, w.heap.size = z := ⟨_, rfl⟩
  have hz1 : w.heap.size + 2 = z + 2 := by rw [hz]
  rw [hz] at k0 k1 hsl hml
  rw [hz1] at hzD
  (try rw [hz])
  have n0 : W1.cell? ⟨z, 0, none⟩ = some (.int .i64 nd.kind) := by rw [cell_of_row _ _ _ _ 43 (0, 0) k0]; rfl
  have n1 : W1.cell? ⟨z, 1, none⟩ = some (.int .i64 nd.num) := by rw [cell_of_row _ _ _ _ 43 (0, 0) k0]; rfl
  have n2 : W1.cell? ⟨z, 2, none⟩ = some (.string nd.text) := by rw [cell_of_row _ _ _ _ 43 (0, 0) k0]; rfl
  have n3 : W1.cell? ⟨z, 3, none⟩ = some (.int .i64 nd.kids) := by rw [cell_of_row _ _ _ _ 43 (0, 0) k0]; rfl
  have n4 : W1.cell? ⟨z, 4, none⟩ = some (.int .i64 nd.place) := by rw [cell_of_row _ _ _ _ 43 (0, 0) k0]; rfl
  have q0 : W1.cell? ⟨z + 1, 0, none⟩ = some (.int .i64 lv) := by rw [cell_of_row _ _ _ _ 127 (0, 0) k1]; rfl
  have q1 : W1.cell? ⟨z + 1, 1, none⟩ = some (.int .i64 nd.num) := by rw [cell_of_row _ _ _ _ 127 (0, 0) k1]; rfl
  obtain ⟨w4, hup, hown4, hgrow4⟩ := (how1.alloc (.cells #[.int .i64 0, .int .i64 nd.kind, .int .i64 nd.num, .string nd.text, .int .i64 nd.kids, .int .i64 nd.place, .slice none 0 0, .int .i64 0, .int .i64 lv, .pointer none, .int .i64 0, .pointer none, .int .i64 0, .int .i64 0] 120)).drew.update lawU Tryz.underlying102 (by unfold maxLen; omega) (val := .pointer (some ⟨W1.heap.size, 0, none⟩)) hkey (d := .held (.pointer (some ⟨W1.heap.size, 0, none⟩))) (ps := []) rfl
  have hb3 : Below W1.heap.size W1 (W1.alloc (.cells #[.int .i64 0, .int .i64 nd.kind, .int .i64 nd.num, .string nd.text, .int .i64 nd.kids, .int .i64 nd.place, .slice none 0 0, .int .i64 0, .int .i64 lv, .pointer none, .int .i64 0, .pointer none, .int .i64 0, .int .i64 0] 120)).drew := ((Below.refl _ W1).alloc (Nat.le_refl _) _).drew
  have hz3 : (W1.alloc (.cells #[.int .i64 0, .int .i64 nd.kind, .int .i64 nd.num, .string nd.text, .int .i64 nd.kids, .int .i64 nd.place, .slice none 0 0, .int .i64 0, .int .i64 lv, .pointer none, .int .i64 0, .pointer none, .int .i64 0, .int .i64 0] 120)).drew.heap.size = W1.heap.size + 1 := World.size_alloc _ _
  have hBm := Qcj hgrow4
  have HAT : Hid (CellAt w4 W1.heap.size (Qdd nd lv) none) := by
    have h9 := heap_alloc_new W1 (.cells #[.int .i64 0, .int .i64 nd.kind, .int .i64 nd.num, .string nd.text, .int .i64 nd.kids, .int .i64 nd.place, .slice none 0 0, .int .i64 0, .int .i64 lv, .pointer none, .int .i64 0, .pointer none, .int .i64 0, .int .i64 0] 120)
    have h8 := (hBm.block W1.heap.size (by omega) (by omega)).trans h9
    exact h8
  have HBW : Hid (But (· = mb) w w4) := ((But.ofBelow hbD).trans (But.ofBelow hb3)).trans hBm
  have hs4 : w4.cell? ⟨sb, 0, none⟩ = some (.map (some mb)) := (hBm.cellB (b := sb) (o := 0) (by omega) hsm).trans ((Qfd hb3 sb 0 (by omega)).trans s1)
  have r0 : w4.cell? ⟨z + 1, 0, none⟩ = some (.int .i64 lv) := (hBm.cellB (b := z + 1) (o := 0) (by omega) (by omega)).trans ((Qfd hb3 (z + 1) 0 (by omega)).trans q0)
  have r1 : w4.cell? ⟨z + 1, 1, none⟩ = some (.int .i64 nd.num) := (hBm.cellB (b := z + 1) (o := 1) (by omega) (by omega)).trans ((Qfd hb3 (z + 1) 1 (by omega)).trans q1)
  have HL4 : (Instr.lookup 102 (.map (some mb)) (.agg #[.int .i64 lv, .int .i64 nd.num]) false).run Tryz.prog w4.drew = .ok (.pointer (some ⟨W1.heap.size, 0, none⟩)) w4.drew := by
    obtain ⟨v', ps, hrun, hv'⟩ := hown4.drew.lookup lawU Tryz.underlying102 (Qum _) (zd := .held (.pointer none)) (zp := []) rfl hkey
    rw [atKey_put_same (how1.tidy lawU).isMap (lawU.key hkey)] at hv'
    have h9 := Qep hv'
    simp only [Prod.mk.injEq, DataW.held.injEq] at h9
    rw [hrun, ← h9.1]
  have HOW4 : Hid (w4.ownsMap Tryz.prog 127 Qce mb (n + 1) (D.put (kU lv nd.num) (.held (.pointer (some ⟨W1.heap.size, 0, none⟩))))) := hown4
  have hWz : w.heap.size ≤ W1.heap.size := hbD.size
  have hW1 : sb < W1.heap.size := by omega
  have hW2 : z < W1.heap.size := by omega
  have hW3 : z + 1 < W1.heap.size := by omega
  clear hown4 hgrow4 hBm hb3 hbD k0 k1 how1 hkey s0 hml HOWN hz3 hzD hz1
  go_region
  clear hup n0 n1 n2 n3 n4 q0 q1 s1
  go_wp2_with fail
  go_region
  go_wp2
  go_ret
  exact ⟨W1.heap.size, by omega, rfl, HAT.out, HOW4.out.drew, HBW.out.drew⟩
end Go.Proofs.YtoiiibplkhedcaaGreatDoor
namespace Go.Proofs.YtoiiibplkhedcaaGreatDoor
open Go.RowKit Go.Maps Go.WideMaps
theorem Qsd {m : Nat} {tt : TypeId} (hu : Tryz.prog.underlying tt = some (.int .i64)) {v : Value} {ls : List Lit} (h : Tryz.prog.keyLits (m + 1) tt [v] = some ls) : ∃ x, v = .int .i64 x ∧ (Lit.int .i64 x).wf = true ∧ ls = [.int .i64 x] := by
  unfold Program.keyLits at h
  rw [hu] at h
  cases v <;> simp at h
  rename_i k n
  obtain ⟨⟨rfl, h1⟩, rfl⟩ := h
  exact ⟨n, rfl, h1, rfl⟩
theorem Qgg {key : Value} {kl : Lit} (h : keyOf Tryz.prog 127 key = some kl) : ∃ p : Int × Int, key = .agg #[.int .i64 p.1, .int .i64 p.2] ∧ (Lit.int .i64 p.1).wf = true ∧ (Lit.int .i64 p.2).wf = true ∧ kl = kU p.1 p.2 := by
  have h0 := h
  unfold keyOf at h
  simp only [Tryz.underlying127] at h
  split at h
  · rename_i hf
    simp only [Bool.and_eq_true] at hf
    have hs : ∃ m, Tryz.prog.types.size + 1 = m + 2 := ⟨Tryz.prog.types.size - 1, by have h9 : 0 < Tryz.prog.types.size := Nat.lt_of_le_of_lt (Nat.zero_le _) rowU; omega⟩
    obtain ⟨m, hm⟩ := hs
    rw [hm] at h
    obtain ⟨ls, hls, _⟩ := Option.map_eq_some_iff.1 h
    unfold Program.keyLits at hls
    simp only [Tryz.underlying127] at hls
    split at hls
    · rename_i hc
      obtain ⟨hlen, _⟩ := hc
      rw [Qxx] at hlen
      have hag : ∃ c0 c1, key = .agg #[c0, c1] := by
        have hf2 := hf.2
        obtain ⟨cs, rfl⟩ : ∃ cs, key = .agg cs := by
          cases key <;> first | exact ⟨_, rfl⟩ | (exfalso; simp [Value.formed, Tryz.underlying127] at hf2)
        simp only [Value.cells] at hlen
        match cs, hlen with
        | ⟨[c0, c1]⟩, _ => exact ⟨c0, c1, rfl⟩
      obtain ⟨c0, c1, rfl⟩ := hag
      simp only [Value.cells, List.mapM_cons, List.mapM_nil, Qxy, Qxz, List.drop_zero, List.drop_succ_cons, List.take_succ_cons, List.take_zero] at hls
      cases e0 : Tryz.prog.keyLits (m + 1) 3 [c0] with
      | none => rw [e0] at hls; simp at hls
      | some l0 =>
        cases e1 : Tryz.prog.keyLits (m + 1) 2 [c1] with
        | none => rw [e0, e1] at hls; simp at hls
        | some l1 =>
          obtain ⟨x, rfl, wx, _⟩ := Qsd Tryz.underlying3 e0
          obtain ⟨y, rfl, wy, _⟩ := Qsd Tryz.underlying2 e1
          refine ⟨(x, y), rfl, wx, wy, ?_⟩
          have h9 := keyU x y wx wy
          rw [h9] at h0
          exact (Option.some.inj h0).symm
    · cases hls
  · cases h
theorem Qek {w w' : World} {S : Nat → Prop} {k : TypeId} {R : Value → Option (DataW Value × List MemPlace)} {b r n : Nat} {D : DataW Value} {left : Lit → Bool} {cnt : Nat} (h : w.ranges Tryz.prog k R b r n D left cnt) (hb : But S w w') (h1 : ¬ S b) (h2 : ¬ S r) : w'.ranges Tryz.prog k R b r n D left cnt := by
  obtain ⟨es, clock, since, seen, c0, a1, a2, a3, a4, a5, a6⟩ := h
  exact ⟨es, clock, since, seen, c0, (hb.block b (Array.getElem?_eq_some_iff.1 a1).1 h1).trans a1, a2, a3, a4, (hb.block r (Array.getElem?_eq_some_iff.1 a5).1 h2).trans a5, a6⟩
theorem Qcu {w : World} {k : TypeId} {R : Value → Option (DataW Value × List MemPlace)} {b r n : Nat} {D : DataW Value} {left : Lit → Bool} {cnt : Nat} (h : w.ranges Tryz.prog k R b r n D left cnt) : (∀ cs t f, w.heap[r]? ≠ some (.cells cs t f)) ∧ (∀ cs t f, w.heap[b]? ≠ some (.cells cs t f)) := by
  obtain ⟨es, clock, since, seen, c0, a1, _, _, _, a5, _⟩ := h
  refine ⟨fun cs t f e => ?_, fun cs t f e => ?_⟩
  · rw [a5] at e; cases e
  · rw [a1] at e; cases e
theorem Qjz {lv nu lv' nu' : Int} (h1 : (Lit.int .i64 lv).wf = true) (h2 : (Lit.int .i64 nu).wf = true) (h3 : (Lit.int .i64 lv').wf = true) (h4 : (Lit.int .i64 nu').wf = true) : (kU lv nu).sameKey (kU lv' nu') = decide (lv = lv' ∧ nu = nu') := by
  by_cases h : lv = lv' ∧ nu = nu'
  · obtain ⟨rfl, rfl⟩ := h
    rw [WideAt.sameKey_self (lawU.key (keyU lv nu h1 h2))]
    simp
  · rw [decide_eq_false h]
    cases e : (kU lv nu).sameKey (kU lv' nu')
    · rfl
    · exact absurd (Jbg h1 h2 h3 h4 (WideAt.sameKey_eq e)) h
end Go.Proofs.YtoiiibplkhedcaaGreatDoor
namespace Go.Proofs.YtoiiibplkhedcaaGreatDoor
open Go.RowKit Go.Maps
theorem WMem.reset {w : World} {X : Nat → Prop} {f : Nat → CC} {sn : Nat → Int} {lk : Nat → Option Nat} {d : Nat → Nat} {K : (Option Addr × Nat × Nat) → List Nat} {sb mb : Nat} {now t0 I0 L0 : Int} {sa : Option Addr} {sl sc : Nat} {P0 : List PSt} (h : WMem w X f sn lk d K sb mb now t0 I0 L0 (sa, sl, sc) P0) (t I L : Int) : WMem ((((w.setCell ⟨sb, 2, none⟩ (.int .i64 t)).setCell ⟨sb, 3, none⟩ (.int .i64 I)).setCell ⟨sb, 4, none⟩ (.int .i64 L)).setCell ⟨sb, 5, none⟩ (.slice sa 0 sc)) X f sn lk d K sb mb now t I L (sa, 0, sc) [] := by
  have hb : But (· = sb) w ((((w.setCell ⟨sb, 2, none⟩ (.int .i64 t)).setCell ⟨sb, 3, none⟩ (.int .i64 I)).setCell ⟨sb, 4, none⟩ (.int .i64 L)).setCell ⟨sb, 5, none⟩ (.slice sa 0 sc)) := ((((But.refl (· = sb) w).setCell (p := ⟨sb, 2, none⟩) rfl _).setCell (p := ⟨sb, 3, none⟩) rfl _).setCell (p := ⟨sb, 4, none⟩) rfl _).setCell (p := ⟨sb, 5, none⟩) rfl _
  have hty : ∀ cur, w.heap[sb]? ≠ some (.cells cur 64 (0, 0)) := by
    intro cur e
    have h9 := h.blk
    unfold SBlk at h9
    rw [h9] at e
    simp at e
  refine ⟨h.sto.aside hb h.sbX hty, ?_, ?_, rfl, by simp⟩
  · have h1 := heap_setCell_same w sb 2 _ 107 (.int .i64 t) h.blk
    have h2 := heap_setCell_same _ sb 3 _ 107 (.int .i64 I) h1
    have h3 := heap_setCell_same _ sb 4 _ 107 (.int .i64 L) h2
    have h4 := heap_setCell_same _ sb 5 _ 107 (.slice sa 0 sc) h3
    simpa [SBlk] using h4
  · refine Qft ?_ hb (fun g hg e => ?_)
    · rcases h.row.2 with ⟨e, _⟩ | ⟨g, cap, cur, e, _⟩
      · simp only [Value.slice.injEq] at e
        obtain ⟨e1, _, e3⟩ := e
        exact ⟨rfl, .inl ⟨by simp only; rw [e1, e3], rfl⟩⟩
      · simp only [Value.slice.injEq] at e
        obtain ⟨e1, _, _⟩ := e
        have h9 := h.row
        simp only at h9
        rw [e1] at h9 ⊢
        have h8 := Qdt h9 0 (Nat.zero_le _)
        simpa [Qar] using h8
    · cases hsa : sa with
      | none => rw [hsa] at hg; cases hg
      | some ad =>
        rw [hsa] at hg
        simp only [Value.ownBlock, Option.some.injEq] at hg
        exact (h.ownX (g := g) (by simp only; rw [hsa]; simp only [Value.ownBlock, hg])).2.1 e
theorem WMem.aside {w w' : World} {X : Nat → Prop} {f : Nat → CC} {sn : Nat → Int} {lk : Nat → Option Nat} {d : Nat → Nat} {K : (Option Addr × Nat × Nat) → List Nat} {sb mb : Nat} {now t I L : Int} {s : Option Addr × Nat × Nat} {P : List PSt} (h : WMem w X f sn lk d K sb mb now t I L s P) {z : Nat} (hb : But (· = z) w w') (hz : ∀ cs t f, w.heap[z]? ≠ some (.cells cs t f)) : WMem w' X f sn lk d K sb mb now t I L s P := by
  have hzX : ¬ X z := fun hx => hz _ _ _ (h.sto.cells.at' z hx)
  have hzs : z ≠ sb := fun e => hz _ _ _ (e ▸ h.blk)
  refine ⟨h.sto.aside hb hzX (fun cur => hz cur _ _), (hb.block sb (Array.getElem?_eq_some_iff.1 h.blk).1 (fun e => hzs e.symm)).trans h.blk, Qft h.row hb (fun g hg e => ?_), h.len, fun x hx => (h.rest x hx).but hb (fun g e cur => by rw [e]; exact hz cur _ _)⟩
  obtain ⟨cur, hc⟩ := h.own hg
  rw [e] at hc
  exact hz _ _ _ hc
theorem SBlk.inj {w : World} {sb mb mb' : Nat} {now now' t t' I I' L L' : Int} {s s' : Option Addr × Nat × Nat} (h : SBlk w sb mb now t I L s) (h' : SBlk w sb mb' now' t' I' L' s') : s = s' := by
  unfold SBlk at h h'
  rw [h] at h'
  simp only [Option.some.injEq, Obj.cells.injEq, and_true] at h'
  have e := congrArg Array.toList h'
  simp only [List.cons.injEq, Value.slice.injEq, and_true] at e
  obtain ⟨_, _, _, _, _, e1, e2, e3⟩ := e
  exact Prod.ext e1 (Prod.ext e2 e3)
theorem OwnNew.trans {o0 o1 : Option Nat} {z z1 : Nat} {s s1 : Option Addr × Nat × Nat} (h : OwnNew o0 z s1) (ho : o1 = (Value.slice s1.1 s1.2.1 s1.2.2).ownBlock) (h1 : OwnNew o1 z1 s) (hz : z ≤ z1) : OwnNew o0 z s := by
  rcases h1 with h1 | ⟨g, hg, hl⟩
  · rcases h with h | ⟨g, hg, hl⟩
    · exact .inl (h1.trans (ho.trans h))
    · exact .inr ⟨g, h1.trans (ho.trans hg), hl⟩
  · exact .inr ⟨g, hg, by omega⟩
def Jco (X : Nat → Prop) (f : Nat → CC) (lk : Nat → Option Nat) (d : Nat → Nat) (K : (Option Addr × Nat × Nat) → List Nat) (hf : Nat → Nat) (sb mb n : Nat) (now t L0 : Int) (o0 : Option Nat) (U : Int → Int → Option Nat) (D : DataW Value) (w : World) (b : Bool) (w' : World) : Prop :=
  But (fun i => X i ∨ i = sb ∨ o0 = some i) w w' ∧ w'.ownsMap Tryz.prog 127 Qce mb n D ∧ (∃ sn sa sl sc P, WMem w' X f sn lk d K sb mb now t (L0 + 1) (L0 + 1 + 1) (sa, sl, sc) P ∧ (∀ b, X b → sn b ≤ L0 + 1 + 1) ∧ OwnNew o0 w.heap.size (sa, sl, sc)) ∧
    (b = true → ∃ lv nu c x, U lv nu = some c ∧ Downs (Qbc K f t) hf (hf c) x ∧ Downs (Qbc K f t) hf x x) ∧ (b = false → ∃ (Lf : Nat → Prop) (rk : Nat → Nat), LeftOk (Qbc K f t) hf Lf rk ∧ ∀ lv nu c, (Lit.int .i64 lv).wf = true → (Lit.int .i64 nu).wf = true → U lv nu = some c → Lf (hf c))
theorem Qmw (X : Nat → Prop) (f : Nat → CC) (sn0 : Nat → Int) (lk : Nat → Option Nat) (d dt : Nat → Nat) (K : (Option Addr × Nat × Nat) → List Nat) (hf : Nat → Nat) (xs : List Nat) (sb mb n : Nat) (now t t0 I0 L0 : Int) (h0 : 0 ≤ L0) (hL : L0 ≤ 1000000) (sa : Option Addr) (sl sc : Nat) (P0 : List PSt) (U : Int → Int → Option Nat) (D : DataW Value) (w : World) (hW : WMem w X f sn0 lk d K sb mb now t0 I0 L0 (sa, sl, sc) P0) (hown : w.ownsMap Tryz.prog 127 Qce mb n D) (HUD : Hid (UD U D)) (HUX : Hid (∀ l x b, U l x = some b → X b)) (HA : Hid (Acyc (tdAt Classical.propDecidable X f t) dt)) (HI : Hid (∀ b j, X b → (f b).td = some j → X j)) (HH : Hid (∀ k, Hd (tdAt Classical.propDecidable X f t) k (hf k))) (HXH : Hid (∀ k, X k → X (hf k))) (HKX : Hid (∀ q, X q → (∀ k ∈ Qbc K f t q, X k) ∧ (Qbc K f t q).length ≤ 20000)) (HXS : Hid (∀ b, X b → b ∈ xs)) (hxs : xs.length ≤ 900000)
    (HSM : Hid (∀ b, X b → sn0 b ≤ L0)) :
    Calls Tryz.prog 78 #[.pointer (some ⟨sb, 0, none⟩), .int .i64 t] w fun e w' => ∃ b, e = .returned (.bool b) ∧ Jco X f lk d K hf sb mb n now t L0 (Value.slice sa sl sc).ownBlock U D w b w' := by
  obtain ⟨s0, s1, s2, s3, s4, s5, s6, s7⟩ := hW.blk.cell
  simp only at s5
  have f2 : w.frozen? ⟨sb, 2, none⟩ = false := frozen_of_row w sb 2 _ 107 hW.blk
  have f3 : w.frozen? ⟨sb, 3, none⟩ = false := frozen_of_row w sb 3 _ 107 hW.blk
  have f4 : w.frozen? ⟨sb, 4, none⟩ = false := frozen_of_row w sb 4 _ 107 hW.blk
  have hWr := hW.reset t (L0 + 1) (L0 + 1 + 1)
  have hbr : But (· = sb) w ((((w.setCell ⟨sb, 2, none⟩ (.int .i64 t)).setCell ⟨sb, 3, none⟩ (.int .i64 (L0 + 1))).setCell ⟨sb, 4, none⟩ (.int .i64 (L0 + 1 + 1))).setCell ⟨sb, 5, none⟩ (.slice sa 0 sc)) := ((((But.refl (· = sb) w).setCell (p := ⟨sb, 2, none⟩) rfl _).setCell (p := ⟨sb, 3, none⟩) rfl _).setCell (p := ⟨sb, 4, none⟩) rfl _).setCell (p := ⟨sb, 5, none⟩) rfl _
  have hmsb : mb ≠ sb := by
    intro e
    obtain ⟨es, clock, h1, _⟩ := hown
    have h9 := hW.blk
    unfold SBlk at h9
    rw [← e, h1] at h9
    cases h9
  have hownr := Qbm hown hbr hmsb
  have hzr : ((((w.setCell ⟨sb, 2, none⟩ (.int .i64 t)).setCell ⟨sb, 3, none⟩ (.int .i64 (L0 + 1))).setCell ⟨sb, 4, none⟩ (.int .i64 (L0 + 1 + 1))).setCell ⟨sb, 5, none⟩ (.slice sa 0 sc)).heap.size = w.heap.size := by simp only [Qak]
  have HBR : Hid (But (fun i => X i ∨ i = sb ∨ (Value.slice sa sl sc).ownBlock = some i) w ((((w.setCell ⟨sb, 2, none⟩ (.int .i64 t)).setCell ⟨sb, 3, none⟩ (.int .i64 (L0 + 1))).setCell ⟨sb, 4, none⟩ (.int .i64 (L0 + 1 + 1))).setCell ⟨sb, 5, none⟩ (.slice sa 0 sc))) := hbr.mono (fun i e => .inr (.inl e))
  have HOW : Hid ((Value.slice sa 0 sc).ownBlock = (Value.slice sa sl sc).ownBlock) := by
    show (Value.slice sa 0 sc).ownBlock = _
    cases sa <;> rfl
  clear hW hown hbr
  go_enter Tryz.func78, Tryz.ntmps78
  go_wp2_with (first
    | (at_range; refine wpList_range_own _ rfl _ 102 rfl 127 64 lawU Tryz.underlying102 Qce mb n D rfl hownr ?_; intro w5 hrg0 hg0 hs0)
    | go_in)
  (try go_frame)
  have hB5 : But (fun _ => False) ((((w.setCell ⟨sb, 2, none⟩ (.int .i64 t)).setCell ⟨sb, 3, none⟩ (.int .i64 (L0 + 1))).setCell ⟨sb, 4, none⟩ (.int .i64 (L0 + 1 + 1))).setCell ⟨sb, 5, none⟩ (.slice sa 0 sc)) w5 := ⟨hg0.os, hg0.tape, hg0.output, hg0.size, fun k hk _ => hg0.block k hk (by simp)⟩
  have hW5 := hWr.still hB5
  have hBw5 : But (fun i => X i ∨ i = sb ∨ (Value.slice sa sl sc).ownBlock = some i) w w5 := HBR.out.trans (hB5.mono (fun _ h => h.elim))
  rw [hzr] at hrg0
  (try rw [hzr])
  clear hB5 hg0 hs0 hownr hWr HBR hzr s0 s1 s2 s3 s4 s5 s6 f2 f3 f4
  go_loopw [] (fun wr => ∃ (left : Lit → Bool) (cnt : Nat) (sn : Nat → Int) (sa' : Option Addr) (sl' sc' : Nat), wr.ranges Tryz.prog 127 Qce mb w.heap.size n D left cnt ∧ WMem wr X f sn lk d K sb mb now t (L0 + 1) (L0 + 1 + 1) (sa', sl', sc') [] ∧ (∀ b, X b → sn b = L0 + 1 + 1 ∨ sn b < L0 + 1) ∧ (∃ rk, LeftOk (Qbc K f t) hf (fun b => X b ∧ sn b = L0 + 1 + 1) rk) ∧ (∀ lv nu c, (Lit.int .i64 lv).wf = true → (Lit.int .i64 nu).wf = true → U lv nu = some c → left (kU lv nu) = false → sn (hf c) = L0 + 1 + 1) ∧ But (fun i => X i ∨ i = sb ∨ (Value.slice sa sl sc).ownBlock = some i) w wr ∧ OwnNew (Value.slice sa sl sc).ownBlock w.heap.size (sa', sl', sc')) (fun wr => wr.rangeLeft mb w.heap.size)
  case atStart =>
    refine ⟨_, _, sn0, sa, 0, sc, hrg0, hW5, fun b hb => .inr (by have := HSM.out b hb; omega), ⟨fun _ => 0, ⟨fun q hq => ?_⟩⟩, fun lv nu c h1 h2 hu hl => ?_, hBw5, .inl HOW.out⟩
    · have h9 := HSM.out q hq.1
      have h8 := hq.2
      omega
    · have h9 := (HUD.out.2 lv nu h1 h2).1
      rw [hl, hu] at h9
      cases h9
  case round =>
    clear hrg0 hW5 hBw5
    obtain ⟨left, cnt, sn, sa1, sl1, sc1, hrg, hW, hsm, hlf, hvis, hB, hO⟩ := hrel
    have hinvK : ∀ key kl, keyOf Tryz.prog 127 key = some kl → ∃ x : Int × Int, key = (fun x : Int × Int => Value.agg #[.int .i64 x.1, .int .i64 x.2]) x := fun key kl hk => by obtain ⟨x, hx, _⟩ := Qgg hk; exact ⟨x, hx⟩
    have hinvV : ∀ v y, Qce v = some y → ∃ q : Option Addr, v = Value.pointer q := fun v y hv => by
      cases v <;> first | exact ⟨_, rfl⟩ | (simp [Qce] at hv)
    go_wp2_with (first
      | (at_next; refine wpList_next_ranges _ rfl _ rfl 127 lawU Qce (fun x : Int × Int => Value.agg #[.int .i64 x.1, .int .i64 x.2]) Value.pointer hinvK hinvV mb w.heap.size n D left cnt rfl hrg ?_ ?_)
      | go_in)
    · intro hc0 hl0
      have HRES : Hid (Jco X f lk d K hf sb mb n now t L0 (Value.slice sa sl sc).ownBlock U D w false wr) := by
        obtain ⟨rk, hrk⟩ := hlf
        refine ⟨hB, hrg.owns, ⟨sn, sa1, sl1, sc1, [], hW, fun b hb => by rcases hsm b hb with h | h <;> omega, hO⟩, (fun h => by cases h), fun _ => ⟨_, rk, hrk, fun lv nu c h1 h2 hu => ⟨HXH.out c (HUX.out lv nu c hu), hvis lv nu c h1 h2 hu (by rw [hl0])⟩⟩⟩
      clear hinvK hinvV hrg hW hsm hlf hvis hB hO hl0
      go_wp2
      go_ret
      exact ⟨false, rfl, HRES.out⟩
    · intro lv nu q kl yd yp w6 cnt6 hkey hleft hv hat hrg6 hlt6 hg6 hs6 hen
      obtain ⟨⟨lv', nu'⟩, ex, wl, wn, rfl⟩ := Qgg hkey
      obtain ⟨rfl, rfl⟩ : lv = lv' ∧ nu = nu' := by
        simp only [Value.agg.injEq] at ex
        have e9 := congrArg Array.toList ex
        simpa using e9
      simp only at wl wn hrg6 hleft hat
      have hyd := Qep hv
      simp only [Prod.mk.injEq] at hyd
      obtain ⟨rfl, rfl⟩ := hyd
      have hhas : Maps.has D (kU lv nu) = true := Maps.has_true_of_atKey hat
      obtain ⟨hu1, hu2⟩ := HUD.out.2 lv nu wl wn
      rw [hhas] at hu1
      obtain ⟨b, hUb⟩ := Option.isSome_iff_exists.1 hu1.symm
      have hq : q = some ⟨b, 0, none⟩ := by
        have h9 := (hat (.held (.pointer none))).symm.trans hu2
        rw [hUb] at h9
        simpa [ptr] using h9
      subst hq
      have hXb : X b := HUX.out lv nu b hUb
      have hrk := Qcu hrg
      have hbut6 : But (· = w.heap.size) wr w6 := Qcj hg6
      have hW6 := hW.aside hbut6 hrk.1
      have hB6 : But (fun i => X i ∨ i = sb ∨ (Value.slice sa sl sc).ownBlock = some i) w w6 := ⟨hbut6.os.trans hB.os, hbut6.tape.trans hB.tape, hbut6.output.trans hB.output, Nat.le_trans hB.size hbut6.size, fun i hi hn => (hbut6.block i (by have := hB.size; omega) (by omega)).trans (hB.block i hi hn)⟩
      have HCL := Qud X f sn lk d dt K hf xs sb mb now t (L0 + 1) (L0 + 1 + 1) (by omega) sa1 sl1 sc1 w6 hW6 HA HI HH HXH HKX HXS hxs hsm hlf b hXb
      have hm7 : wr.rangeLeft mb w.heap.size = cnt := hrg.left_eq
      obtain ⟨u0, _, _, _, _, _, _, u7⟩ := hW6.blk.cell
      have HNX : Hid (∀ w7 b7 n7, Qim X f lk d K hf xs sb mb now t (L0 + 1) (L0 + 1 + 1) sn (hf b) (Value.slice sa1 sl1 sc1).ownBlock w6 (.bool b7) w7 n7 → (b7 = false → ∃ sn2 sa sl sc, WMem w7 X f sn2 lk d K sb mb now t (L0 + 1) (L0 + 1 + 1) (sa, sl, sc) [] ∧ WInv X (Qbc K f t) hf (L0 + 1) (L0 + 1 + 1) sn sn2 [] false (hf b)) →
          (b7 = true → Jco X f lk d K hf sb mb n now t L0 (Value.slice sa sl sc).ownBlock U D w true w7) ∧ (b7 = false → ∃ (sn2 : Nat → Int) (sa' : Option Addr) (sl' sc' : Nat), w7.ranges Tryz.prog 127 Qce mb w.heap.size n D (fun z => left z && !z.sameKey (kU lv nu)) cnt6 ∧ WMem w7 X f sn2 lk d K sb mb now t (L0 + 1) (L0 + 1 + 1) (sa', sl', sc') [] ∧ (∀ b, X b → sn2 b = L0 + 1 + 1 ∨ sn2 b < L0 + 1) ∧ (∃ rk, LeftOk (Qbc K f t) hf (fun b => X b ∧ sn2 b = L0 + 1 + 1) rk) ∧ (∀ lv' nu' c, (Lit.int .i64 lv').wf = true → (Lit.int .i64 nu').wf = true → U lv' nu' = some c → (left (kU lv' nu') && !(kU lv' nu').sameKey (kU lv nu)) = false → sn2 (hf c) = L0 + 1 + 1) ∧ But (fun i => X i ∨ i = sb ∨ (Value.slice sa sl sc).ownBlock = some i) w w7 ∧ OwnNew (Value.slice sa sl sc).ownBlock w.heap.size (sa', sl', sc'))) := by
        rintro w7 b7 n7 ⟨snx, sax, slx, scx, Px, clx, ecl, hWx, hVx, _, hBx, hOx⟩ hfin
        simp only [Value.bool.injEq] at ecl
        subst ecl
        have hO7 : OwnNew (Value.slice sa sl sc).ownBlock w.heap.size (sax, slx, scx) := hO.trans rfl hOx hB6.size
        have hB7 : But (fun i => X i ∨ i = sb ∨ (Value.slice sa sl sc).ownBlock = some i) w w7 := Qnd hB6 hO hBx
        have hno : ∀ q, (∀ cs t f, w6.heap[q]? ≠ some (.cells cs t f)) → ¬ (X q ∨ q = sb ∨ (Value.slice sa1 sl1 sc1).ownBlock = some q) := by
          rintro q hq (h9 | h9 | h9)
          · exact hq _ _ _ (hW6.sto.cells.at' q h9)
          · exact hq _ _ _ (h9 ▸ hW6.blk)
          · obtain ⟨cur, hc⟩ := hW6.own h9
            exact hq _ _ _ hc
        have hrk6 := Qcu hrg6
        have hrg7 := Qek hrg6 hBx (hno mb hrk6.2) (hno w.heap.size hrk6.1)
        refine ⟨fun e => ?_, fun e => ?_⟩
        · subst e
          exact ⟨hB7, hrg7.owns, ⟨snx, sax, slx, scx, Px, hWx, fun b hb => by rcases hVx.small b hb with h | h | h <;> omega, hO7⟩, fun _ => by obtain ⟨x, y1, y2⟩ := hVx.yes rfl; exact ⟨lv, nu, b, x, hUb, y1, y2⟩, (fun h => by cases h)⟩
        · obtain ⟨sn2, sa2, sl2, sc2, hW2, hV2⟩ := hfin e
          have es : ((sax, slx, scx) : Option Addr × Nat × Nat) = (sa2, sl2, sc2) := hWx.blk.inj hW2.blk
          rw [es] at hO7
          obtain ⟨_, p2, p3⟩ := hV2.no rfl
          refine ⟨sn2, sa2, sl2, sc2, hrg7, hW2, fun b hb => ?_, p2, fun lv' nu' c h1 h2 hu hl => ?_, hB7, hO7⟩
          · rcases hV2.small b hb with h | h | h
            · have := (hV2.ins b hb).1 h
              simp at this
            · exact .inl h
            · exact .inr h
          · by_cases hs : lv' = lv ∧ nu' = nu
            · obtain ⟨rfl, rfl⟩ := hs
              rw [hUb] at hu
              cases hu
              rcases p3 with p3 | p3
              · simp at p3
              · exact p3.2
            · have h9 := Qjz h1 h2 wl wn
              rw [decide_eq_false hs] at h9
              rw [h9] at hl
              simp only [Bool.not_false, Bool.and_true] at hl
              exact hV2.keep _ (HXH.out c (HUX.out lv' nu' c hu)) (hvis lv' nu' c h1 h2 hu hl)
      clear ex hinvK hinvV hkey hv hat hu1 hu2 hhas hrk hbut6 hrg6 hg6 hrg hW hW6 hsm hlf hvis hB hB6 hO
      go_wp2_with fail
      refine HCL.mono ?_
      rintro e w7 ⟨b7, n7, rfl, hC7, hf7⟩
      obtain ⟨hT, hF⟩ := HNX.out w7 b7 n7 hC7 hf7
      clear HCL HNX hC7 hf7
      cases b7 with
      | true =>
        have HRES := hT rfl
        clear hT hF
        go_wp2
        go_ret
        exact ⟨true, rfl, HRES⟩
      | false =>
        obtain ⟨sn2, sa2, sl2, sc2, hrg7, hrest⟩ := hF rfl
        clear hT hF
        go_wp2
        go_roundw
        case rel => exact ⟨_, cnt6, sn2, sa2, sl2, sc2, hrg7, hrest⟩
        case measure => rw [hrg7.left_eq, hm7]; exact hlt6
end Go.Proofs.YtoiiibplkhedcaaGreatDoor

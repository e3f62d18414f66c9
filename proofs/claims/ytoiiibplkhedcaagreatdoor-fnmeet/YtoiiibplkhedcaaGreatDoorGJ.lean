import Derived.Test.YtoiiibplkhedcaaGreatDoorProg
import Derived.Test.YtoiiibplkhedcaaGreatDoorGA
import Derived.WalkKit
import Derived.Deep.QuietTactic
import Derived.BigQuiet
import Derived.Test.YtoiiibplkhedcaaGreatDoorGD
namespace Go.Proofs.YtoiiibplkhedcaaGreatDoor
open Go.RowKit
structure CC where
  id : Int
  nd : Nd
  ks : Option Addr × Nat × Nat
  told : Int
  lv : Int
  rk : Int
  td : Option Nat
  si : Int
  sn : Int
def ptr (o : Option Nat) : Value := .pointer (o.map fun b => ⟨b, 0, none⟩)
def CellAt (w : World) (b : Nat) (c : CC) (l : Option Nat) : Prop :=
  w.heap[b]? = some (.cells #[.int .i64 c.id, .int .i64 c.nd.kind, .int .i64 c.nd.num, .string c.nd.text, .int .i64 c.nd.kids, .int .i64 c.nd.place, .slice c.ks.1 c.ks.2.1 c.ks.2.2, .int .i64 c.told, .int .i64 c.lv, ptr l, .int .i64 c.rk, ptr c.td, .int .i64 c.si, .int .i64 c.sn] 120 (0, 0))
structure Cells (w : World) (X : Nat → Prop) (f : Nat → CC) (lk : Nat → Option Nat) : Prop where
  at' : ∀ b, X b → CellAt w b (f b) (lk b)
  link : ∀ b j, lk b = some j → X b ∧ X j
inductive Hd (lk : Nat → Option Nat) : Nat → Nat → Prop
  | root {i : Nat} : lk i = none → Hd lk i i
  | step {i j r : Nat} : lk i = some j → Hd lk j r → Hd lk i r
theorem Hd.is_root {lk : Nat → Option Nat} {i r : Nat} (h : Hd lk i r) : lk r = none := by
  induction h with
  | root h => exact h
  | step _ _ ih => exact ih
theorem Hd.fun {lk : Nat → Option Nat} {i r r' : Nat} (h : Hd lk i r) (h' : Hd lk i r') : r = r' := by
  induction h with
  | root h =>
    cases h' with
    | root _ => rfl
    | step h1 _ => rw [h] at h1; cases h1
  | step h1 _ ih =>
    cases h' with
    | root h2 => rw [h1] at h2; cases h2
    | step h2 h3 => rw [h1] at h2; cases h2; exact ih h3
def Acyc (lk : Nat → Option Nat) (d : Nat → Nat) : Prop := ∀ i j, lk i = some j → d j < d i
theorem CellAt.cell {w : World} {b : Nat} {c : CC} {l : Option Nat} (h : CellAt w b c l) :
    w.cell? ⟨b, 0, none⟩ = some (.int .i64 c.id) ∧ w.cell? ⟨b, 1, none⟩ = some (.int .i64 c.nd.kind) ∧ w.cell? ⟨b, 2, none⟩ = some (.int .i64 c.nd.num) ∧ w.cell? ⟨b, 3, none⟩ = some (.string c.nd.text) ∧ w.cell? ⟨b, 4, none⟩ = some (.int .i64 c.nd.kids) ∧ w.cell? ⟨b, 5, none⟩ = some (.int .i64 c.nd.place) ∧ w.cell? ⟨b, 6, none⟩ = some (.slice c.ks.1 c.ks.2.1 c.ks.2.2) ∧ w.cell? ⟨b, 7, none⟩ = some (.int .i64 c.told) ∧ w.cell? ⟨b, 8, none⟩ = some (.int .i64 c.lv) ∧ w.cell? ⟨b, 9, none⟩ = some (ptr l) ∧ w.cell? ⟨b, 10, none⟩ = some (.int .i64 c.rk) ∧ w.cell? ⟨b, 11, none⟩ = some (ptr c.td) ∧ w.cell? ⟨b, 12, none⟩ = some (.int .i64 c.si) ∧ w.cell? ⟨b, 13, none⟩ = some (.int .i64 c.sn) := by
  refine ⟨?_, ?_, ?_, ?_, ?_, ?_, ?_, ?_, ?_, ?_, ?_, ?_, ?_, ?_⟩
  all_goals
    rw [cell_of_row _ b _ _ 120 (0, 0) h]
    rfl
theorem CellAt.frozen {w : World} {b : Nat} {c : CC} {l : Option Nat} (h : CellAt w b c l) (o : Nat) : w.frozen? ⟨b, o, none⟩ = false := frozen_of_row w b o _ 120 h
theorem CellAt.lt {w : World} {b : Nat} {c : CC} {l : Option Nat} (h : CellAt w b c l) : b < w.heap.size := (Array.getElem?_eq_some_iff.1 h).1
theorem CellAt.relink {w : World} {b : Nat} {c : CC} {l : Option Nat} (h : CellAt w b c l) (l' : Option Nat) : CellAt (w.setCell ⟨b, 9, none⟩ (ptr l')) b c l' := by
  have h9 := heap_setCell_same w b 9 _ 120 (ptr l') h
  simpa [CellAt] using h9
theorem CellAt.but {S : Nat → Prop} {w w' : World} {b : Nat} {c : CC} {l : Option Nat} (h : CellAt w b c l) (hb : But S w w') (hn : ¬ S b) : CellAt w' b c l := (hb.block b h.lt hn).trans h
theorem Cells.but {S : Nat → Prop} {w w' : World} {X : Nat → Prop} {f : Nat → CC} {lk : Nat → Option Nat} (h : Cells w X f lk) (hb : But S w w') (hn : ∀ b, X b → ¬ S b) : Cells w' X f lk :=
  ⟨fun b hx => (h.at' b hx).but hb (hn b hx), h.link⟩
theorem Cells.relink {w : World} {X : Nat → Prop} {f : Nat → CC} {lk : Nat → Option Nat} (h : Cells w X f lk) {b j : Nat} (hb : X b) (hj : X j) : Cells (w.setCell ⟨b, 9, none⟩ (ptr (some j))) X f (fun i => if i = b then some j else lk i) := by
  refine ⟨fun x hx => ?_, fun x y e => ?_⟩
  · by_cases hxb : x = b
    · subst hxb
      rw [if_pos rfl]
      exact (h.at' x hx).relink (some j)
    · rw [if_neg hxb]
      have hs : But (· = b) w (w.setCell ⟨b, 9, none⟩ (ptr (some j))) := (But.refl (· = b) w).setCell (p := ⟨b, 9, none⟩) rfl _
      exact (h.at' x hx).but hs hxb
  · by_cases hxb : x = b
    · subst hxb
      rw [if_pos rfl] at e
      simp only [Option.some.injEq] at e
      subst e
      exact ⟨hb, hj⟩
    · rw [if_neg hxb] at e
      exact h.link x y e
def SameHd (lk lk' : Nat → Option Nat) : Prop := ∀ i r, Hd lk i r ↔ Hd lk' i r
theorem SameHd.refl (lk : Nat → Option Nat) : SameHd lk lk := fun _ _ => Iff.rfl
theorem SameHd.trans {a b c : Nat → Option Nat} (h : SameHd a b) (h' : SameHd b c) : SameHd a c := fun i r => (h i r).trans (h' i r)
theorem Hd.low {lk : Nat → Option Nat} {d : Nat → Nat} (ha : Acyc lk d) {i r : Nat} (h : Hd lk i r) : d r ≤ d i ∧ (i ≠ r → d r < d i) := by
  induction h with
  | root _ => exact ⟨Nat.le_refl _, fun h => absurd rfl h⟩
  | step h1 _ ih =>
    have := ha _ _ h1
    exact ⟨by omega, fun _ => by omega⟩
theorem same_short {lk : Nat → Option Nat} {d : Nat → Nat} (ha : Acyc lk d) {b r : Nat} (hb : Hd lk b r) (hne : b ≠ r) : SameHd lk (fun i => if i = b then some r else lk i) ∧ Acyc (fun i => if i = b then some r else lk i) d := by
  have hr0 := hb.is_root
  have hr1 : (fun i => if i = b then some r else lk i) r = none := by
    show (if r = b then some r else lk r) = none
    rw [if_neg (fun e => hne e.symm)]
    exact hr0
  refine ⟨fun i q => ⟨fun h => ?_, fun h => ?_⟩, fun i j e => ?_⟩
  · induction h with
    | @root i h1 =>
      refine Hd.root ?_
      show (if i = b then some r else lk i) = none
      by_cases hi : i = b
      · subst hi
        exact absurd ((Hd.root h1).fun hb) hne
      · rw [if_neg hi]; exact h1
    | @step i j q h1 h2 ih =>
      by_cases hi : i = b
      · subst hi
        have e : q = r := (Hd.step h1 h2).fun hb
        subst e
        exact Hd.step (j := q) (by show (if i = i then some q else lk i) = some q; rw [if_pos rfl]) (Hd.root hr1)
      · exact Hd.step (j := j) (by show (if i = b then some r else lk i) = some j; rw [if_neg hi]; exact h1) ih
  · induction h with
    | @root i h1 =>
      have h1 : (if i = b then some r else lk i) = none := h1
      by_cases hi : i = b
      · rw [if_pos hi] at h1; cases h1
      · rw [if_neg hi] at h1
        exact Hd.root h1
    | @step i j q h1 h2 ih =>
      have h1 : (if i = b then some r else lk i) = some j := h1
      by_cases hi : i = b
      · rw [if_pos hi] at h1
        simp only [Option.some.injEq] at h1
        subst h1
        subst hi
        have e : q = r := ih.fun (Hd.root hr0)
        subst e
        exact hb
      · rw [if_neg hi] at h1
        exact Hd.step h1 ih
  · have e : (if i = b then some r else lk i) = some j := e
    by_cases hi : i = b
    · rw [if_pos hi] at e
      simp only [Option.some.injEq] at e
      subst e
      subst hi
      exact (hb.low ha).2 hne
    · rw [if_neg hi] at e
      exact ha i j e
def blk : Value → Nat
  | .pointer (some a) => a.block
  | _ => 0
theorem run_neq_ptr_other {P : Program} {w : World} {tp te : TypeId} {j : TypeInfo} {a b : Addr} {ca cb : Array Value} {ta tb : TypeId} (hp : P.underlying tp = some (.pointer te)) (hte : P.info? te = some j) (hsz : j.size ≠ 0)
    (hne : a ≠ b) (ha : w.heap[a.block]? = some (.cells ca ta (0, 0))) (hb : w.heap[b.block]? = some (.cells cb tb (0, 0))) :
    (binOp .neq tp (.pointer (some a)) (.pointer (some b))).run P w = .ok (.bool true) w := by
  have h : ∀ d : Nat, (Op.equalIn (d + 1) tp (.pointer (some a)) (.pointer (some b))).run P w = .ok false w := fun d => by
    simp [Op.equalIn, run_underlying hp, sizeOf, typeInfo, hte, hsz, run_sameAddr_other w hne ha hb]
  simp only [binOp]
  simp [Op.equal, Op.maxDepth, h 9999]
theorem run_eql_ptr_other {P : Program} {w : World} {tp te : TypeId} {j : TypeInfo} {a b : Addr} {ca cb : Array Value} {ta tb : TypeId} (hp : P.underlying tp = some (.pointer te)) (hte : P.info? te = some j) (hsz : j.size ≠ 0)
    (hne : a ≠ b) (ha : w.heap[a.block]? = some (.cells ca ta (0, 0))) (hb : w.heap[b.block]? = some (.cells cb tb (0, 0))) :
    (binOp .eql tp (.pointer (some a)) (.pointer (some b))).run P w = .ok (.bool false) w := by
  have h : ∀ d : Nat, (Op.equalIn (d + 1) tp (.pointer (some a)) (.pointer (some b))).run P w = .ok false w := fun d => by
    simp [Op.equalIn, run_underlying hp, sizeOf, typeInfo, hte, hsz, run_sameAddr_other w hne ha hb]
  simp only [binOp]
  simp [Op.equal, Op.maxDepth, h 9999]
theorem run_eql_ptr_same {P : Program} {w : World} {tp te : TypeId} {j : TypeInfo} (a : Addr) (hp : P.underlying tp = some (.pointer te)) (hte : P.info? te = some j) :
    (binOp .eql tp (.pointer (some a)) (.pointer (some a))).run P w = .ok (.bool true) w := by
  have h : ∀ d : Nat, (Op.equalIn (d + 1) tp (.pointer (some a)) (.pointer (some a))).run P w = .ok true w := fun d => by
    simp [Op.equalIn, run_underlying hp, sizeOf, typeInfo, hte, run_sameAddr_same]
  simp only [binOp]
  simp [Op.equal, Op.maxDepth, h 9999]
theorem run_neq_ptr_same' {P : Program} {w : World} {tp te : TypeId} {j : TypeInfo} (a : Addr) (hp : P.underlying tp = some (.pointer te)) (hte : P.info? te = some j) :
    (binOp .neq tp (.pointer (some a)) (.pointer (some a))).run P w = .ok (.bool false) w := by
  have h : ∀ d : Nat, (Op.equalIn (d + 1) tp (.pointer (some a)) (.pointer (some a))).run P w = .ok true w := fun d => by
    simp [Op.equalIn, run_underlying hp, sizeOf, typeInfo, hte, run_sameAddr_same]
  simp only [binOp]
  simp [Op.equal, Op.maxDepth, h 9999]
theorem u_cp : Tryz.prog.underlying 64 = some (.pointer 120) := Tryz.underlying64
theorem infoCell : (Tryz.prog.info? 120).map (fun i => i.size) = some 14 := by kernel_rfl
theorem u_cell : ∃ j, Tryz.prog.info? 120 = some j ∧ j.size ≠ 0 := by
  obtain ⟨j, hj, hz⟩ := Option.map_eq_some_iff.1 infoCell
  exact ⟨j, hj, by rw [hz]; decide⟩
set_option maxRecDepth 20000 in
set_option maxHeartbeats 2000000 in
theorem head_any (X : Nat → Prop) (f : Nat → CC) (lk : Nat → Option Nat) (d : Nat → Nat) (HA : Hid (Acyc lk d)) (w : World) (hC : Cells w X f lk) (b r : Nat) (hX : X b) (hr : Hd lk b r) :
    Calls Tryz.prog 60 #[.pointer (some ⟨b, 0, none⟩)] w fun e w' => e = .returned (.pointer (some ⟨r, 0, none⟩)) ∧ ∃ lk', Cells w' X f lk' ∧ SameHd lk lk' ∧ Acyc lk' d ∧ But X w w' ∧ w'.heap.size = w.heap.size := by
  go_enter Tryz.func60, Tryz.ntmps60
  go_wp2
  go_loopw [3] (fun v wr => ∃ k : Nat, X k ∧ v = .pointer (some ⟨k, 0, none⟩) ∧ Hd lk k r ∧ wr = w) (fun v _ => d (blk v))
  case atStart => exact ⟨b, hX, rfl, hr, rfl⟩
  case round =>
    obtain ⟨k, hk, rfl, hrt, rfl⟩ := hrel
    obtain ⟨_, _, _, _, _, _, _, _, _, c7, _, _, _, _⟩ := (hC.at' k hk).cell
    cases hl : lk k with
    | none =>
      have e : k = r := by
        cases hrt with
        | root _ => rfl
        | step h1 _ => rw [hl] at h1; cases h1
      subst e
      rw [hl] at c7
      simp only [ptr, Option.map_none] at c7
      have hr9 := hr
      clear hrt hr
      go_wp2
      go_loopw [0] (fun v wq => ∃ (i : Nat) (lk' : Nat → Option Nat), X i ∧ v = .pointer (some ⟨i, 0, none⟩) ∧ Hd lk' i k ∧ Cells wq X f lk' ∧ SameHd lk lk' ∧ Acyc lk' d ∧ But X wr wq ∧ wq.heap.size = wr.heap.size) (fun v _ => d (blk v))
      case atStart => exact ⟨b, lk, hX, rfl, hr9, hC, SameHd.refl _, HA.out, But.refl _ _, rfl⟩
      case round =>
        obtain ⟨i, lk', hi, rfl, hrt, hC', hS, hA', hB, hsz⟩ := hrel
        by_cases hik : i = k
        · subst hik
          obtain ⟨j9, hj9, _⟩ := u_cell
          have hq := run_neq_ptr_same' (w := wr) ⟨i, 0, none⟩ u_cp hj9
          clear hC c7 hl hr9
          go_wp2
          go_ret
          exact ⟨rfl, lk', hC', hS, hA', hB, hsz⟩
        · obtain ⟨_, _, _, _, _, _, _, _, _, d7, _, _, _, _⟩ := (hC'.at' i hi).cell
          have hfz := (hC'.at' i hi).frozen 9
          obtain ⟨j, hj⟩ : ∃ j, lk' i = some j := by
            cases h9 : lk' i with
            | none =>
              cases hrt with
              | root _ => exact absurd rfl hik
              | step h1 _ => rw [h9] at h1; cases h1
            | some j => exact ⟨j, rfl⟩
          have hjX := (hC'.link i j hj).2
          have hkX := hk
          have hdj := hA' i j hj
          have hjk : Hd lk' j k := by
            cases hrt with
            | root h1 => rw [hj] at h1; cases h1
            | step h1 h2 => rw [hj] at h1; cases h1; exact h2
          rw [hj] at d7
          simp only [ptr, Option.map_some] at d7
          obtain ⟨hS2, hA2⟩ := same_short hA' hrt hik
          have hC2 := hC'.relink (j := k) hi hkX
          have hB2 := hB.setCell (p := ⟨i, 9, none⟩) hi (ptr (some k))
          have hS3 := hS.trans hS2
          have hj3 : Hd (fun x => if x = i then some k else lk' x) j k := (hS2 j k).1 hjk
          simp only [ptr, Option.map_some] at hC2 hB2
          obtain ⟨j9, hj9, hz9⟩ := u_cell
          have hq := run_neq_ptr_other (w := wr) u_cp hj9 hz9 (a := ⟨i, 0, none⟩) (b := ⟨k, 0, none⟩) (by simp) (hC'.at' i hi) (hC'.at' k hkX)
          clear hC c7 hl hr9 hrt hjk hj hC' hS hS2 hA' hB
          go_wp2
          go_roundw
          case rel => exact ⟨j, _, hjX, rfl, hj3, hC2, hS3, hA2, hB2, by simp [hsz]⟩
          case measure => simpa [blk] using hdj
    | some j =>
      have hj := (hC.link k j hl).2
      have hrj : Hd lk j r := by
        cases hrt with
        | root h1 => rw [hl] at h1; cases h1
        | step h1 h2 => rw [hl] at h1; cases h1; exact h2
      have hdj := HA.out k j hl
      rw [hl] at c7
      simp only [ptr, Option.map_some] at c7
      clear hrt hl
      go_wp2
      go_roundw
      case rel => exact ⟨j, hj, rfl, hrj, trivial⟩
      case measure => simpa [blk] using hdj
end Go.Proofs.YtoiiibplkhedcaaGreatDoor

namespace Go.Proofs.YtoiiibplkhedcaaGreatDoor
open Go.RowKit
def CC.open? (c : CC) : Bool := c.nd.kind == 61 && decide (1 ≤ c.lv)
set_option maxRecDepth 20000 in
set_option maxHeartbeats 2000000 in
theorem isOpen_any (w : World) (b : Nat) (c : CC) (l : Option Nat) (hc : CellAt w b c l) :
    Calls Tryz.prog 92 #[.pointer (some ⟨b, 0, none⟩)] w fun e w' => e = .returned (.bool c.open?) ∧ w' = w := by
  obtain ⟨_, c0, _, _, _, _, _, _, c6, _, _, _, _, _⟩ := hc.cell
  go_enter Tryz.func92, Tryz.ntmps92
  go_wp2
  · rename_i h9
    go_ret
    exact ⟨by simp [CC.open?, h9], rfl⟩
  · rename_i h9
    go_ret
    exact ⟨by simp [CC.open?, h9], rfl⟩
theorem Cells.drewN {w : World} {X : Nat → Prop} {f : Nat → CC} {lk : Nat → Option Nat} (h : Cells w X f lk) (n : Nat) : Cells (w.drewN n) X f lk := ⟨fun b hb => h.at' b hb, h.link⟩
theorem Cells.drew {w : World} {X : Nat → Prop} {f : Nat → CC} {lk : Nat → Option Nat} (h : Cells w X f lk) : Cells w.drew X f lk := ⟨fun b hb => h.at' b hb, h.link⟩
theorem But.drew {S : Nat → Prop} {a w : World} (h : But S a w) : But S a w.drew := ⟨h.os, h.tape, h.output, h.size, h.block⟩
theorem But.drewN {S : Nat → Prop} {a w : World} (h : But S a w) (n : Nat) : But S a (w.drewN n) := ⟨h.os, h.tape, h.output, h.size, h.block⟩
theorem But.cellB {S : Nat → Prop} {w w' : World} (h : But S w w') {b o : Nat} (hl : b < w.heap.size) (hn : ¬ S b) : w'.cell? ⟨b, o, none⟩ = w.cell? ⟨b, o, none⟩ := by
  unfold World.cell?
  rw [h.block b hl hn]
theorem Cells.upd {w w' : World} {X : Nat → Prop} {f : Nat → CC} {lk : Nat → Option Nat} (h : Cells w X f lk) {b : Nat} {c' : CC} (hc : CellAt w' b c' (lk b)) (hb : But (· = b) w w') : Cells w' X (fun i => if i = b then c' else f i) lk := by
  refine ⟨fun x hx => ?_, h.link⟩
  by_cases hxb : x = b
  · subst hxb
    rw [if_pos rfl]
    exact hc
  · rw [if_neg hxb]
    exact (h.at' x hx).but hb hxb
theorem Cells.rerank {w : World} {X : Nat → Prop} {f : Nat → CC} {lk : Nat → Option Nat} (h : Cells w X f lk) {b : Nat} (hb : X b) (r : Int) : Cells (w.setCell ⟨b, 10, none⟩ (.int .i64 r)) X (fun i => if i = b then { f b with rk := r } else f i) lk := by
  refine h.upd ?_ ((But.refl (· = b) w).setCell (p := ⟨b, 10, none⟩) rfl _)
  have h9 := heap_setCell_same w b 10 _ 120 (.int .i64 r) (h.at' b hb)
  simpa [CellAt] using h9
theorem Cells.says {w : World} {X : Nat → Prop} {f : Nat → CC} {lk : Nat → Option Nat} (h : Cells w X f lk) {b : Nat} (hb : X b) (c : CC) (t : Int) :
    Cells ((((((((w.setCell ⟨b, 1, none⟩ (.int .i64 c.nd.kind)).setCell ⟨b, 2, none⟩ (.int .i64 c.nd.num)).setCell ⟨b, 3, none⟩ (.string c.nd.text)).setCell ⟨b, 4, none⟩ (.int .i64 c.nd.kids)).setCell ⟨b, 5, none⟩ (.int .i64 c.nd.place)).setCell ⟨b, 6, none⟩ (.slice c.ks.1 c.ks.2.1 c.ks.2.2)).setCell ⟨b, 8, none⟩ (.int .i64 c.lv)).setCell ⟨b, 7, none⟩ (.int .i64 t)) X
      (fun i => if i = b then { f b with nd := c.nd, ks := c.ks, lv := c.lv, told := t } else f i) lk := by
  refine h.upd ?_ ?_
  · have h0 := heap_setCell_same w b 1 _ 120 (.int .i64 c.nd.kind) (h.at' b hb)
    have h1 := heap_setCell_same _ b 2 _ 120 (.int .i64 c.nd.num) h0
    have h2 := heap_setCell_same _ b 3 _ 120 (.string c.nd.text) h1
    have h3 := heap_setCell_same _ b 4 _ 120 (.int .i64 c.nd.kids) h2
    have h4 := heap_setCell_same _ b 5 _ 120 (.int .i64 c.nd.place) h3
    have h5 := heap_setCell_same _ b 6 _ 120 (.slice c.ks.1 c.ks.2.1 c.ks.2.2) h4
    have h6 := heap_setCell_same _ b 8 _ 120 (.int .i64 c.lv) h5
    have h7 := heap_setCell_same _ b 7 _ 120 (.int .i64 t) h6
    simpa [CellAt] using h7
  · exact (((((((((But.refl (· = b) w).setCell (p := ⟨b, 1, none⟩) rfl (.int .i64 c.nd.kind)).setCell (p := ⟨b, 2, none⟩) rfl (.int .i64 c.nd.num)).setCell (p := ⟨b, 3, none⟩) rfl (.string c.nd.text)).setCell (p := ⟨b, 4, none⟩) rfl (.int .i64 c.nd.kids)).setCell (p := ⟨b, 5, none⟩) rfl (.int .i64 c.nd.place)).setCell (p := ⟨b, 6, none⟩) rfl (.slice c.ks.1 c.ks.2.1 c.ks.2.2)).setCell (p := ⟨b, 8, none⟩) rfl (.int .i64 c.lv)).setCell (p := ⟨b, 7, none⟩) rfl (.int .i64 t))
theorem Cells.ties {w : World} {X : Nat → Prop} {f : Nat → CC} {lk : Nat → Option Nat} (h : Cells w X f lk) {b j : Nat} (hb : X b) (hj : X j) (t : Int) :
    Cells (((w.setCell ⟨b, 9, none⟩ (ptr (some j))).setCell ⟨b, 11, none⟩ (ptr (some j))).setCell ⟨b, 12, none⟩ (.int .i64 t)) X
      (fun i => if i = b then { f b with td := some j, si := t } else f i) (fun i => if i = b then some j else lk i) := by
  have h1 := h.relink hb hj
  refine h1.upd ?_ ?_
  · have h2 := heap_setCell_same _ b 11 _ 120 (ptr (some j)) (h1.at' b hb)
    have h3 := heap_setCell_same _ b 12 _ 120 (.int .i64 t) h2
    simpa [CellAt] using h3
  · exact ((But.refl (· = b) _).setCell (p := ⟨b, 11, none⟩) rfl _).setCell (p := ⟨b, 12, none⟩) rfl _
def tiedF (f : Nat → CC) (a h q : Nat) (r t : Int) : Nat → CC := fun i => if i = q then { f q with td := some h, si := t } else if i = h then (if (f h).nd.kind = 61 then { f h with rk := r, nd := (f a).nd, ks := (f a).ks, lv := (f a).lv, told := t } else { f h with rk := r }) else f i
set_option maxRecDepth 20000 in
set_option maxHeartbeats 2000000 in
theorem tie_any (X : Nat → Prop) (f : Nat → CC) (lk : Nat → Option Nat) (w : World) (hC : Cells w X f lk) (sb : Nat) (t : Int) (hsX : ¬ X sb) (hst : w.cell? ⟨sb, 1, none⟩ = some (.int .i64 t)) (a b : Nat) (hXa : X a) (hXb : X b) (hab : a ≠ b) (ha : lk a = none) (hb : lk b = none) :
    Calls Tryz.prog 94 #[.pointer (some ⟨sb, 0, none⟩), .pointer (some ⟨a, 0, none⟩), .pointer (some ⟨b, 0, none⟩)] w fun e w' => e = .returned (.tuple #[]) ∧ ∃ h q r, (h = a ∧ q = b ∨ h = b ∧ q = a) ∧ Cells w' X (tiedF f a h q r t) (fun i => if i = q then some h else lk i) ∧ But X w w' ∧ w'.heap.size = w.heap.size := by
  obtain ⟨a0, a1, a2, a3, a4, a5, a6, a7, a8, a9, a10, a11, a12, a13⟩ := (hC.at' a hXa).cell
  obtain ⟨b0, b1, b2, b3, b4, b5, b6, b7, b8, b9, b10, b11, b12, b13⟩ := (hC.at' b hXb).cell
  have fa := (hC.at' a hXa).frozen
  have fb := (hC.at' b hXb).frozen
  have hsa : sb ≠ a := fun e => hsX (e ▸ hXa)
  have hsb : sb ≠ b := fun e => hsX (e ▸ hXb)
  go_enter Tryz.func94, Tryz.ntmps94
  rcases Int.lt_trichotomy (f a).rk (f b).rk with hlt | heq | hgt
  · by_cases hm : (f b).nd.kind = 61
    · go_wp2
      go_quiet (fail)
      go_wp2
      go_quiet (fail)
      go_wp2
      generalize hW : World.setCell _ _ _ = w5
      obtain ⟨f5, hf5, hC5⟩ : ∃ f5, f5 = (fun i => if i = a then { f a with td := some b, si := t } else f i) ∧ Cells w5 X f5 (fun i => if i = a then some b else lk i) := by
        subst hW
        exact ⟨_, rfl, (hC.drewN _).ties hXa hXb t⟩
      have hB5 : But X w w5 := by
        subst hW
        exact ((((But.refl X w).drewN _).setCell (p := ⟨a, 9, none⟩) hXa _).setCell (p := ⟨a, 11, none⟩) hXa _).setCell (p := ⟨a, 12, none⟩) hXa _
      have hz5 : w5.heap.size = w.heap.size := by
        subst hW
        simp [World.drewN]
      have hst5 : w5.cell? ⟨sb, 1, none⟩ = some (.int .i64 t) := (hB5.cellB (lt_of_cell hst) hsX).trans hst
      have HF5 : Hid (f5 = (fun i => if i = a then { f a with td := some b, si := t } else f i)) := hf5
      clear hW hC a0 a1 a2 a3 a4 a5 a6 a7 a8 a9 a10 a11 a12 a13 b0 b1 b2 b3 b4 b5 b6 b7 b8 b9 b10 b11 b12 b13 fa fb hf5 hst
      obtain ⟨a0, a1, a2, a3, a4, a5, a6, a7, a8, a9, a10, a11, a12, a13⟩ := (hC5.at' a hXa).cell
      obtain ⟨b0, b1, b2, b3, b4, b5, b6, b7, b8, b9, b10, b11, b12, b13⟩ := (hC5.at' b hXb).cell
      have fa := (hC5.at' a hXa).frozen
      have fb := (hC5.at' b hXb).frozen
      go_region
      go_end0
      refine ⟨rfl, b, a, (f b).rk, .inr ⟨rfl, rfl⟩, ?_, ?_, ?_⟩
      · have h9 := (hC5.says hXb (f5 a) t).drew
        have e9 : (fun i => if i = b then { f5 b with nd := (f5 a).nd, ks := (f5 a).ks, lv := (f5 a).lv, told := t } else f5 i) = tiedF f a b a (f b).rk t := by
          funext i
          rw [HF5.out]
          unfold tiedF
          by_cases i1 : i = a
          · subst i1
            simp [hab]
          · by_cases i2 : i = b
            · subst i2
              simp [hab.symm, hm]
            · simp [i1, i2]
        rw [e9] at h9
        exact h9
      · refine hB5.trans ?_
        exact (((((((((But.refl X w5).setCell (p := ⟨b, 1, none⟩) hXb _).setCell (p := ⟨b, 2, none⟩) hXb _).setCell (p := ⟨b, 3, none⟩) hXb _).setCell (p := ⟨b, 4, none⟩) hXb _).setCell (p := ⟨b, 5, none⟩) hXb _).setCell (p := ⟨b, 6, none⟩) hXb _).setCell (p := ⟨b, 8, none⟩) hXb _).setCell (p := ⟨b, 7, none⟩) hXb _).drew
      · simp [World.drew, hz5]
    · have tm : ((f b).nd.kind == 61) = false := by simpa using hm
      go_wp2
      go_quiet (fail)
      go_wp2
      go_quiet (fail)
      go_wp2
      generalize hW : World.setCell _ _ _ = w5
      obtain ⟨f5, hf5, hC5⟩ : ∃ f5, f5 = (fun i => if i = a then { f a with td := some b, si := t } else f i) ∧ Cells w5 X f5 (fun i => if i = a then some b else lk i) := by
        subst hW
        exact ⟨_, rfl, (hC.drewN _).ties hXa hXb t⟩
      have hB5 : But X w w5 := by
        subst hW
        exact ((((But.refl X w).drewN _).setCell (p := ⟨a, 9, none⟩) hXa _).setCell (p := ⟨a, 11, none⟩) hXa _).setCell (p := ⟨a, 12, none⟩) hXa _
      have hz5 : w5.heap.size = w.heap.size := by
        subst hW
        simp [World.drewN]
      clear hW
      go_end0
      refine ⟨rfl, b, a, (f b).rk, .inr ⟨rfl, rfl⟩, ?_, hB5, hz5⟩
      have e9 : (fun i => if i = a then { f a with td := some b, si := t } else f i) = tiedF f a b a (f b).rk t := by
          funext i
          unfold tiedF
          by_cases i1 : i = a
          · subst i1
            simp
          · by_cases i2 : i = b
            · subst i2
              simp [hab.symm, hm]
            · simp [i1, i2]
      rw [hf5, e9] at hC5
      exact hC5
  · by_cases hm : (f a).nd.kind = 61
    · go_wp2
      go_quiet (fail)
      go_wp2
      go_quiet (fail)
      go_wp2
      generalize hW : World.setCell _ _ _ = w5
      obtain ⟨r, f5, hf5, hC5⟩ : ∃ r f5, f5 = (fun i => if i = b then { (fun i => if i = a then { f a with rk := r } else f i) b with td := some a, si := t } else (fun i => if i = a then { f a with rk := r } else f i) i) ∧ Cells w5 X f5 (fun i => if i = b then some a else lk i) := by
        subst hW
        exact ⟨_, _, rfl, ((hC.drewN _).rerank hXa _).ties hXb hXa t⟩
      have hB5 : But X w w5 := by
        subst hW
        exact (((((But.refl X w).drewN _).setCell (p := ⟨a, 10, none⟩) hXa _).setCell (p := ⟨b, 9, none⟩) hXb _).setCell (p := ⟨b, 11, none⟩) hXb _).setCell (p := ⟨b, 12, none⟩) hXb _
      have hz5 : w5.heap.size = w.heap.size := by
        subst hW
        simp [World.drewN]
      have hst5 : w5.cell? ⟨sb, 1, none⟩ = some (.int .i64 t) := (hB5.cellB (lt_of_cell hst) hsX).trans hst
      have HF5 : Hid (f5 = (fun i => if i = b then { (fun i => if i = a then { f a with rk := r } else f i) b with td := some a, si := t } else (fun i => if i = a then { f a with rk := r } else f i) i)) := hf5
      clear hW hC a0 a1 a2 a3 a4 a5 a6 a7 a8 a9 a10 a11 a12 a13 b0 b1 b2 b3 b4 b5 b6 b7 b8 b9 b10 b11 b12 b13 fa fb hf5 hst
      obtain ⟨a0, a1, a2, a3, a4, a5, a6, a7, a8, a9, a10, a11, a12, a13⟩ := (hC5.at' a hXa).cell
      obtain ⟨b0, b1, b2, b3, b4, b5, b6, b7, b8, b9, b10, b11, b12, b13⟩ := (hC5.at' b hXb).cell
      have fa := (hC5.at' a hXa).frozen
      have fb := (hC5.at' b hXb).frozen
      go_region
      go_end0
      refine ⟨rfl, a, b, r, .inl ⟨rfl, rfl⟩, ?_, ?_, ?_⟩
      · have h9 := (hC5.says hXa (f5 a) t).drew
        have e9 : (fun i => if i = a then { f5 a with nd := (f5 a).nd, ks := (f5 a).ks, lv := (f5 a).lv, told := t } else f5 i) = tiedF f a a b r t := by
          funext i
          rw [HF5.out]
          unfold tiedF
          by_cases i1 : i = b
          · subst i1
            simp [hab.symm]
          · by_cases i2 : i = a
            · subst i2
              simp [hab, hm]
            · simp [i1, i2]
        rw [e9] at h9
        exact h9
      · refine hB5.trans ?_
        exact (((((((((But.refl X w5).setCell (p := ⟨a, 1, none⟩) hXa _).setCell (p := ⟨a, 2, none⟩) hXa _).setCell (p := ⟨a, 3, none⟩) hXa _).setCell (p := ⟨a, 4, none⟩) hXa _).setCell (p := ⟨a, 5, none⟩) hXa _).setCell (p := ⟨a, 6, none⟩) hXa _).setCell (p := ⟨a, 8, none⟩) hXa _).setCell (p := ⟨a, 7, none⟩) hXa _).drew
      · simp [World.drew, hz5]
    · have tm : ((f a).nd.kind == 61) = false := by simpa using hm
      go_wp2
      go_quiet (fail)
      go_wp2
      go_quiet (fail)
      go_wp2
      generalize hW : World.setCell _ _ _ = w5
      obtain ⟨r, f5, hf5, hC5⟩ : ∃ r f5, f5 = (fun i => if i = b then { (fun i => if i = a then { f a with rk := r } else f i) b with td := some a, si := t } else (fun i => if i = a then { f a with rk := r } else f i) i) ∧ Cells w5 X f5 (fun i => if i = b then some a else lk i) := by
        subst hW
        exact ⟨_, _, rfl, ((hC.drewN _).rerank hXa _).ties hXb hXa t⟩
      have hB5 : But X w w5 := by
        subst hW
        exact (((((But.refl X w).drewN _).setCell (p := ⟨a, 10, none⟩) hXa _).setCell (p := ⟨b, 9, none⟩) hXb _).setCell (p := ⟨b, 11, none⟩) hXb _).setCell (p := ⟨b, 12, none⟩) hXb _
      have hz5 : w5.heap.size = w.heap.size := by
        subst hW
        simp [World.drewN]
      clear hW
      go_end0
      refine ⟨rfl, a, b, r, .inl ⟨rfl, rfl⟩, ?_, hB5, hz5⟩
      have e9 : (fun i => if i = b then { (fun i => if i = a then { f a with rk := r } else f i) b with td := some a, si := t } else (fun i => if i = a then { f a with rk := r } else f i) i) = tiedF f a a b r t := by
          funext i
          unfold tiedF
          by_cases i1 : i = b
          · subst i1
            simp [hab.symm]
          · by_cases i2 : i = a
            · subst i2
              simp [hab, hm]
            · simp [i1, i2]
      rw [hf5, e9] at hC5
      exact hC5
  · by_cases hm : (f a).nd.kind = 61
    · go_wp2
      go_quiet (fail)
      go_wp2
      go_quiet (fail)
      go_wp2
      generalize hW : World.setCell _ _ _ = w5
      obtain ⟨f5, hf5, hC5⟩ : ∃ f5, f5 = (fun i => if i = b then { f b with td := some a, si := t } else f i) ∧ Cells w5 X f5 (fun i => if i = b then some a else lk i) := by
        subst hW
        exact ⟨_, rfl, (hC.drewN _).ties hXb hXa t⟩
      have hB5 : But X w w5 := by
        subst hW
        exact ((((But.refl X w).drewN _).setCell (p := ⟨b, 9, none⟩) hXb _).setCell (p := ⟨b, 11, none⟩) hXb _).setCell (p := ⟨b, 12, none⟩) hXb _
      have hz5 : w5.heap.size = w.heap.size := by
        subst hW
        simp [World.drewN]
      have hst5 : w5.cell? ⟨sb, 1, none⟩ = some (.int .i64 t) := (hB5.cellB (lt_of_cell hst) hsX).trans hst
      have HF5 : Hid (f5 = (fun i => if i = b then { f b with td := some a, si := t } else f i)) := hf5
      clear hW hC a0 a1 a2 a3 a4 a5 a6 a7 a8 a9 a10 a11 a12 a13 b0 b1 b2 b3 b4 b5 b6 b7 b8 b9 b10 b11 b12 b13 fa fb hf5 hst
      obtain ⟨a0, a1, a2, a3, a4, a5, a6, a7, a8, a9, a10, a11, a12, a13⟩ := (hC5.at' a hXa).cell
      obtain ⟨b0, b1, b2, b3, b4, b5, b6, b7, b8, b9, b10, b11, b12, b13⟩ := (hC5.at' b hXb).cell
      have fa := (hC5.at' a hXa).frozen
      have fb := (hC5.at' b hXb).frozen
      go_region
      go_end0
      refine ⟨rfl, a, b, (f a).rk, .inl ⟨rfl, rfl⟩, ?_, ?_, ?_⟩
      · have h9 := (hC5.says hXa (f5 a) t).drew
        have e9 : (fun i => if i = a then { f5 a with nd := (f5 a).nd, ks := (f5 a).ks, lv := (f5 a).lv, told := t } else f5 i) = tiedF f a a b (f a).rk t := by
          funext i
          rw [HF5.out]
          unfold tiedF
          by_cases i1 : i = b
          · subst i1
            simp [hab.symm]
          · by_cases i2 : i = a
            · subst i2
              simp [hab, hm]
            · simp [i1, i2]
        rw [e9] at h9
        exact h9
      · refine hB5.trans ?_
        exact (((((((((But.refl X w5).setCell (p := ⟨a, 1, none⟩) hXa _).setCell (p := ⟨a, 2, none⟩) hXa _).setCell (p := ⟨a, 3, none⟩) hXa _).setCell (p := ⟨a, 4, none⟩) hXa _).setCell (p := ⟨a, 5, none⟩) hXa _).setCell (p := ⟨a, 6, none⟩) hXa _).setCell (p := ⟨a, 8, none⟩) hXa _).setCell (p := ⟨a, 7, none⟩) hXa _).drew
      · simp [World.drew, hz5]
    · have tm : ((f a).nd.kind == 61) = false := by simpa using hm
      go_wp2
      go_quiet (fail)
      go_wp2
      go_quiet (fail)
      go_wp2
      generalize hW : World.setCell _ _ _ = w5
      obtain ⟨f5, hf5, hC5⟩ : ∃ f5, f5 = (fun i => if i = b then { f b with td := some a, si := t } else f i) ∧ Cells w5 X f5 (fun i => if i = b then some a else lk i) := by
        subst hW
        exact ⟨_, rfl, (hC.drewN _).ties hXb hXa t⟩
      have hB5 : But X w w5 := by
        subst hW
        exact ((((But.refl X w).drewN _).setCell (p := ⟨b, 9, none⟩) hXb _).setCell (p := ⟨b, 11, none⟩) hXb _).setCell (p := ⟨b, 12, none⟩) hXb _
      have hz5 : w5.heap.size = w.heap.size := by
        subst hW
        simp [World.drewN]
      clear hW
      go_end0
      refine ⟨rfl, a, b, (f a).rk, .inl ⟨rfl, rfl⟩, ?_, hB5, hz5⟩
      have e9 : (fun i => if i = b then { f b with td := some a, si := t } else f i) = tiedF f a a b (f a).rk t := by
          funext i
          unfold tiedF
          by_cases i1 : i = b
          · subst i1
            simp
          · by_cases i2 : i = a
            · subst i2
              simp [hab, hm]
            · simp [i1, i2]
      rw [hf5, e9] at hC5
      exact hC5
end Go.Proofs.YtoiiibplkhedcaaGreatDoor

namespace Go.Proofs.YtoiiibplkhedcaaGreatDoor
abbrev DT := List Nat → Option Nd
def con (n : Nd) (ds : List DT) : DT
  | [] => some n
  | i :: p => match ds[i]? with
    | some d => d p
    | none => none
theorem con_nd {n m : Nd} {ds es : List DT} (h : con n ds = con m es) : n = m := by
  have := congrFun h []
  simpa [con] using this
theorem con_kids {n m : Nd} {ds es : List DT} (h : con n ds = con m es) (hl : ds.length = es.length) : ds = es := by
  apply List.ext_getElem hl
  intro i h1 h2
  funext p
  have := congrFun h (i :: p)
  simpa [con, List.getElem?_eq_getElem h1, List.getElem?_eq_getElem h2] using this
structure GC where
  nd : Nd
  ks : List Nat
  op : Bool
def SatC (X : Nat → Prop) (g : Nat → GC) (lk : Nat → Option Nat) (θ : Nat → DT) : Prop :=
  (∀ i j, lk i = some j → θ i = θ j) ∧ ∀ i, X i → lk i = none → (g i).op = false → θ i = con (g i).nd ((g i).ks.map θ)
def SatW (X : Nat → Prop) (g : Nat → GC) (lk : Nat → Option Nat) (b : Nat) (θ : Nat → DT) : Prop :=
  (∀ i j, lk i = some j → θ i = θ j) ∧ ∀ i, X i → i ≠ b → lk i = none → (g i).op = false → θ i = con (g i).nd ((g i).ks.map θ)
theorem sat_w {X : Nat → Prop} {g : Nat → GC} {lk : Nat → Option Nat} {b : Nat} {θ : Nat → DT} (hX : X b) (hb : lk b = none) : SatC X g lk θ ↔ SatW X g lk b θ ∧ ((g b).op = false → θ b = con (g b).nd ((g b).ks.map θ)) := by
  constructor
  · rintro ⟨h1, h2⟩
    exact ⟨⟨h1, fun i hi _ => h2 i hi⟩, h2 b hX hb⟩
  · rintro ⟨⟨h1, h2⟩, h3⟩
    refine ⟨h1, fun i hi hl ho => ?_⟩
    by_cases hib : i = b
    · subst hib; exact h3 ho
    · exact h2 i hi hib hl ho
def tied (lk : Nat → Option Nat) (h q : Nat) : Nat → Option Nat := fun i => if i = q then some h else lk i
theorem sat_tie {X : Nat → Prop} {g g' : Nat → GC} {lk : Nat → Option Nat} {a b h q : Nat} (hXa : X a) (hXb : X b) (hab : a ≠ b) (ha : lk a = none) (hb : lk b = none) (hq : h = a ∧ q = b ∨ h = b ∧ q = a) (hg : g' h = g a) (hg' : ∀ i, i ≠ h → g' i = g i) (θ : Nat → DT) :
    SatC X g' (tied lk h q) θ ↔ SatW X g lk b θ ∧ θ a = θ b := by
  have hhq : h ≠ q := by
    rcases hq with ⟨rfl, rfl⟩ | ⟨rfl, rfl⟩
    · exact hab
    · exact fun e => hab e.symm
  have hlq : lk q = none := by rcases hq with ⟨rfl, rfl⟩ | ⟨rfl, rfl⟩ <;> assumption
  have hlh : lk h = none := by rcases hq with ⟨rfl, rfl⟩ | ⟨rfl, rfl⟩ <;> assumption
  have hXh : X h := by rcases hq with ⟨rfl, rfl⟩ | ⟨rfl, rfl⟩ <;> assumption
  have hth : tied lk h q h = none := by simp [tied, hhq, hlh]
  have hother : ∀ i, i ≠ h → i ≠ q → i ≠ a ∧ i ≠ b := by rcases hq with ⟨rfl, rfl⟩ | ⟨rfl, rfl⟩ <;> exact fun i h1 h2 => by simp_all
  have habq : ∀ i, i ≠ a → i ≠ b → i ≠ h ∧ i ≠ q := by rcases hq with ⟨rfl, rfl⟩ | ⟨rfl, rfl⟩ <;> exact fun i h1 h2 => by simp_all
  constructor
  · rintro ⟨h1, h2⟩
    have e0 : θ q = θ h := h1 q h (by simp [tied])
    have e1 : θ a = θ b := by rcases hq with ⟨rfl, rfl⟩ | ⟨rfl, rfl⟩ <;> simp [e0]
    have eh : θ h = θ a := by rcases hq with ⟨rfl, rfl⟩ | ⟨rfl, rfl⟩ <;> simp [e1]
    refine ⟨⟨fun i j e => ?_, fun i hi hib hl ho => ?_⟩, e1⟩
    · refine h1 i j ?_
      have : i ≠ q := fun e9 => by subst e9; rw [hlq] at e; cases e
      simp [tied, this, e]
    · by_cases hia : i = a
      · subst hia
        have := h2 h hXh hth (by rw [hg]; exact ho)
        rw [hg, eh] at this
        exact this
      · obtain ⟨n1, n2⟩ := habq i hia hib
        have := h2 i hi (by simp [tied, n2, hl]) (by rw [hg' i n1]; exact ho)
        rw [hg' i n1] at this
        exact this
  · rintro ⟨⟨h1, h2⟩, e1⟩
    have eh : θ h = θ a := by rcases hq with ⟨rfl, rfl⟩ | ⟨rfl, rfl⟩ <;> simp [e1]
    have eq : θ q = θ a := by rcases hq with ⟨rfl, rfl⟩ | ⟨rfl, rfl⟩ <;> simp [e1]
    refine ⟨fun i j e => ?_, fun i hi hl ho => ?_⟩
    · by_cases hiq : i = q
      · subst hiq
        simp [tied] at e
        subst e
        rw [eq, eh]
      · simp only [tied, hiq, if_false] at e
        exact h1 i j e
    · have hiq : i ≠ q := fun e9 => by subst e9; simp [tied] at hl
      simp only [tied, hiq, if_false] at hl
      by_cases hih : i = h
      · subst hih
        rw [hg] at ho ⊢
        rw [eh]
        exact h2 a hXa hab ha ho
      · obtain ⟨n1, n2⟩ := hother i hih hiq
        rw [hg' i hih] at ho ⊢
        exact h2 i hi n2 hl ho
theorem sat_open {X : Nat → Prop} {g g' : Nat → GC} {lk : Nat → Option Nat} {a b h q : Nat} (hXa : X a) (hXb : X b) (hab : a ≠ b) (ha : lk a = none) (hb : lk b = none) (hq : h = a ∧ q = b ∨ h = b ∧ q = a) (hg : g' h = g a) (hg' : ∀ i, i ≠ h → g' i = g i) (ho : (g b).op = true) (θ : Nat → DT) :
    SatC X g' (tied lk h q) θ ↔ SatC X g lk θ ∧ θ a = θ b := by
  rw [sat_tie hXa hXb hab ha hb hq hg hg', sat_w (g := g) hXb hb]
  constructor
  · rintro ⟨h1, h2⟩
    exact ⟨⟨h1, fun e => by rw [ho] at e; cases e⟩, h2⟩
  · rintro ⟨⟨h1, _⟩, h2⟩
    exact ⟨h1, h2⟩
theorem sat_both {X : Nat → Prop} {g g' : Nat → GC} {lk : Nat → Option Nat} {a b h q : Nat} (hXa : X a) (hXb : X b) (hab : a ≠ b) (ha : lk a = none) (hb : lk b = none) (hq : h = a ∧ q = b ∨ h = b ∧ q = a) (hg : g' h = g a) (hg' : ∀ i, i ≠ h → g' i = g i) (hoa : (g a).op = false) (hob : (g b).op = false) (hn : (g a).nd = (g b).nd) (hl : (g a).ks.length = (g b).ks.length) (θ : Nat → DT) :
    (SatC X g' (tied lk h q) θ ∧ (g a).ks.map θ = (g b).ks.map θ) ↔ SatC X g lk θ ∧ θ a = θ b := by
  rw [sat_tie hXa hXb hab ha hb hq hg hg', sat_w (g := g) hXb hb]
  constructor
  · rintro ⟨⟨h1, h2⟩, h3⟩
    refine ⟨⟨h1, fun _ => ?_⟩, h2⟩
    rw [← h2, ← hn, ← h3]
    exact h1.2 a hXa hab ha hoa
  · rintro ⟨⟨h1, h3⟩, h2⟩
    refine ⟨⟨h1, h2⟩, ?_⟩
    have e1 := h1.2 a hXa hab ha hoa
    have e2 := h3 hob
    rw [← h2, e1] at e2
    exact con_kids e2 (by simpa using hl)
theorem sat_clash {X : Nat → Prop} {g : Nat → GC} {lk : Nat → Option Nat} {a b : Nat} (hXa : X a) (hXb : X b) (ha : lk a = none) (hb : lk b = none) (hoa : (g a).op = false) (hob : (g b).op = false) (hn : (g a).nd ≠ (g b).nd) (θ : Nat → DT) (hs : SatC X g lk θ) : θ a ≠ θ b := by
  intro e
  have e1 := hs.2 a hXa ha hoa
  have e2 := hs.2 b hXb hb hob
  rw [← e, e1] at e2
  exact hn (con_nd e2)
end Go.Proofs.YtoiiibplkhedcaaGreatDoor

namespace Go.Proofs.YtoiiibplkhedcaaGreatDoor
open Go.RowKit
def KidRow (w : World) (X : Nat → Prop) (s : Option Addr × Nat × Nat) (l : List Nat) : Prop :=
  (s.2.1 = l.length ∧ l.length ≤ 20000 ∧ l.length ≤ s.2.2) ∧ (l = [] ∨ ∃ g cur, s.1 = some ⟨g, 0, none⟩ ∧ ¬ X g ∧ g < w.heap.size ∧ w.heap[g]? = some (.cells cur 64 (0, 0)) ∧ ∀ i (h : i < l.length), cur[i]? = some (.pointer (some ⟨l[i], 0, none⟩)))
structure CSto (w : World) (X : Nat → Prop) (f : Nat → CC) (lk : Nat → Option Nat) (d : Nat → Nat) (K : (Option Addr × Nat × Nat) → List Nat) : Prop where
  cells : Cells w X f lk
  acyc : Acyc lk d
  rows : ∀ b, X b → KidRow w X (f b).ks (K (f b).ks)
  inX : ∀ b, X b → ∀ k ∈ K (f b).ks, X k
  arity : ∀ b, X b → ((K (f b).ks).length : Int) = (f b).nd.kids
  met : ∀ b, X b → (f b).nd.kind = 61 → K (f b).ks = []
  low : ∀ b, X b → (f b).lv ≤ 1
def gc (K : (Option Addr × Nat × Nat) → List Nat) (f : Nat → CC) : Nat → GC := fun i => ⟨(f i).nd, K (f i).ks, (f i).open?⟩
theorem KidRow.but {w w' : World} {X : Nat → Prop} {s : Option Addr × Nat × Nat} {l : List Nat} (h : KidRow w X s l) (hb : But X w w') : KidRow w' X s l := by
  refine ⟨h.1, ?_⟩
  rcases h.2 with e | ⟨g, cur, h1, h2, h3, h4, h5⟩
  · exact .inl e
  · exact .inr ⟨g, cur, h1, h2, Nat.lt_of_lt_of_le h3 hb.size, (hb.block g h3 h2).trans h4, h5⟩
theorem Acyc.head {lk : Nat → Option Nat} {d : Nat → Nat} (ha : Acyc lk d) : ∀ n i, d i < n → ∃ r, Hd lk i r := by
  intro n
  induction n with
  | zero => intro i h; omega
  | succ n ih =>
    intro i h
    cases e : lk i with
    | none => exact ⟨i, .root e⟩
    | some j =>
      obtain ⟨r, hr⟩ := ih j (by have := ha i j e; omega)
      exact ⟨r, .step e hr⟩
theorem Hd.inX {w : World} {X : Nat → Prop} {f : Nat → CC} {lk : Nat → Option Nat} (h : Cells w X f lk) {i r : Nat} (hr : Hd lk i r) (hi : X i) : X r := by
  induction hr with
  | root _ => exact hi
  | step h1 _ ih => exact ih (h.link _ _ h1).2
theorem Hd.sat {X : Nat → Prop} {g : Nat → GC} {lk : Nat → Option Nat} {θ : Nat → DT} (hs : SatC X g lk θ) {i r : Nat} (hr : Hd lk i r) : θ i = θ r := by
  induction hr with
  | root _ => rfl
  | step h1 _ ih => exact (hs.1 _ _ h1).trans ih
theorem sat_links {lk : Nat → Option Nat} {d : Nat → Nat} (ha : Acyc lk d) {θ : Nat → DT} : (∀ i j, lk i = some j → θ i = θ j) ↔ ∀ i r, Hd lk i r → θ i = θ r := by
  constructor
  · intro h i r hr
    induction hr with
    | root _ => rfl
    | step h1 _ ih => exact (h _ _ h1).trans ih
  · intro h i j e
    obtain ⟨r, hr⟩ := ha.head _ j (Nat.lt_succ_self _)
    rw [h i r (.step e hr), h j r hr]
theorem root_iff (lk : Nat → Option Nat) (i : Nat) : lk i = none ↔ Hd lk i i := by
  constructor
  · exact fun h => .root h
  · exact fun h => h.is_root
theorem SameHd.sat {X : Nat → Prop} {g : Nat → GC} {lk lk' : Nat → Option Nat} {d d' : Nat → Nat} (h : SameHd lk lk') (ha : Acyc lk d) (ha' : Acyc lk' d') (θ : Nat → DT) : SatC X g lk' θ ↔ SatC X g lk θ := by
  unfold SatC
  rw [sat_links ha, sat_links ha']
  constructor
  · rintro ⟨h1, h2⟩
    exact ⟨fun i r hr => h1 i r ((h i r).1 hr), fun i hi hl => h2 i hi ((root_iff lk' i).2 ((h i i).1 ((root_iff lk i).1 hl)))⟩
  · rintro ⟨h1, h2⟩
    exact ⟨fun i r hr => h1 i r ((h i r).2 hr), fun i hi hl => h2 i hi ((root_iff lk i).2 ((h i i).2 ((root_iff lk' i).1 hl)))⟩
theorem acyc_tied {lk : Nat → Option Nat} {d : Nat → Nat} (ha : Acyc lk d) {h q : Nat} (hh : lk h = none) (hq : lk q = none) (hne : h ≠ q) : ∃ d', Acyc (tied lk h q) d' := by
  classical
  refine ⟨fun i => d i + if Hd lk i q then d h + 1 else 0, fun i j e => ?_⟩
  by_cases hi : i = q
  · subst hi
    simp [tied] at e
    subst e
    have h1 : Hd lk i i := .root hq
    have h2 : ¬ Hd lk h i := fun h9 => hne ((Hd.root hh).fun h9)
    simp [h1, h2]
    omega
  · simp only [tied, hi, if_false] at e
    have h1 : Hd lk i q ↔ Hd lk j q := by
      constructor
      · intro h9
        cases h9 with
        | root h8 => rw [h8] at e; cases e
        | step h8 h7 => rw [h8] at e; cases e; exact h7
      · exact fun h9 => .step e h9
    have := ha i j e
    by_cases h9 : Hd lk j q
    · simp [h1.2 h9, h9]; omega
    · have : ¬ Hd lk i q := fun h8 => h9 (h1.1 h8)
      simp [this, h9]; omega
theorem CSto.short {w w' : World} {X : Nat → Prop} {f : Nat → CC} {lk lk' : Nat → Option Nat} {d : Nat → Nat} {K : (Option Addr × Nat × Nat) → List Nat} (h : CSto w X f lk d K) (hc : Cells w' X f lk') (ha : Acyc lk' d) (hb : But X w w') : CSto w' X f lk' d K :=
  ⟨hc, ha, fun b hx => (h.rows b hx).but hb, h.inX, h.arity, h.met, h.low⟩
def CC.core (c : CC) : Nd × (Option Addr × Nat × Nat) × Int := (c.nd, c.ks, c.lv)
theorem core_parts {c d : CC} (h : c.core = d.core) : c.nd = d.nd ∧ c.ks = d.ks ∧ c.lv = d.lv := by
  simp only [CC.core, Prod.mk.injEq] at h
  exact ⟨h.1, h.2.1, h.2.2⟩
theorem tiedF_rest (f : Nat → CC) {a h q : Nat} (r t : Int) : ∀ i, i ≠ h → (tiedF f a h q r t i).core = (f i).core := by
  intro i hi
  unfold tiedF
  by_cases e : i = q
  · subst e
    rw [if_pos rfl]
    rfl
  · rw [if_neg e, if_neg hi]
theorem tiedF_head (f : Nat → CC) {a h q : Nat} (hne : h ≠ q) (r t : Int) : (tiedF f a h q r t h).core = if (f h).nd.kind = 61 then (f a).core else (f h).core := by
  unfold tiedF
  rw [if_neg hne, if_pos rfl]
  split <;> rfl
theorem CSto.tied {w w' : World} {X : Nat → Prop} {f f' : Nat → CC} {lk : Nat → Option Nat} {d : Nat → Nat} {K : (Option Addr × Nat × Nat) → List Nat} (H : CSto w X f lk d K) {a b h q : Nat} (hXa : X a) (hXh : X h) (hab : a ≠ b) (ha : lk a = none) (hb : lk b = none) (hq : h = a ∧ q = b ∨ h = b ∧ q = a)
    (hc : Cells w' X f' (tied lk h q)) (hf : ∀ i, i ≠ h → (f' i).core = (f i).core) (e1 : (f' h).core = (f a).core ∨ (f' h).core = (f h).core) (hB : But X w w') : ∃ d', CSto w' X f' (tied lk h q) d' K := by
  have hhq : h ≠ q := by
    rcases hq with ⟨rfl, rfl⟩ | ⟨rfl, rfl⟩
    · exact hab
    · exact fun e => hab e.symm
  have hlq : lk q = none := by rcases hq with ⟨rfl, rfl⟩ | ⟨rfl, rfl⟩ <;> assumption
  have hlh : lk h = none := by rcases hq with ⟨rfl, rfl⟩ | ⟨rfl, rfl⟩ <;> assumption
  obtain ⟨d', hd'⟩ := acyc_tied H.acyc hlh hlq hhq
  have key : ∀ x, X x → ∃ y, X y ∧ (f' x).core = (f y).core := by
    intro x hx
    by_cases e : x = h
    · subst e
      rcases e1 with e1 | e1
      · exact ⟨a, hXa, e1⟩
      · exact ⟨x, hXh, e1⟩
    · exact ⟨x, hx, hf x e⟩
  refine ⟨d', hc, hd', fun x hx => ?_, fun x hx => ?_, fun x hx => ?_, fun x hx => ?_, fun x hx => ?_⟩
  all_goals
    obtain ⟨y, hy, e9⟩ := key x hx
    obtain ⟨n1, n2, n3⟩ := core_parts e9
  · rw [n2]; exact (H.rows y hy).but hB
  · rw [n2]; exact H.inX y hy
  · rw [n1, n2]; exact H.arity y hy
  · rw [n1, n2]; exact H.met y hy
  · rw [n3]; exact H.low y hy
theorem gc_core {K : (Option Addr × Nat × Nat) → List Nat} {f f' : Nat → CC} {a h : Nat} (e : (f' h).core = (f a).core) : gc K f' h = gc K f a := by
  obtain ⟨n1, n2, n3⟩ := core_parts e
  simp [gc, CC.open?, n1, n2, n3]
end Go.Proofs.YtoiiibplkhedcaaGreatDoor

namespace Go.Proofs.YtoiiibplkhedcaaGreatDoor
open Go.RowKit
def MayTie (x y : CC) : Prop := (y.open? = true ∧ (x.open? = true → x.nd.num ≤ y.nd.num)) ∨ (x.open? = false ∧ y.open? = false ∧ x.nd = y.nd)
inductive Ties (X : Nat → Prop) (t : Int) (f : Nat → CC) (lk : Nat → Option Nat) : (Nat → CC) → (Nat → Option Nat) → Prop
  | same {lk' : Nat → Option Nat} : SameHd lk lk' → Ties X t f lk f lk'
  | step {f1 : Nat → CC} {lk1 lk2 : Nat → Option Nat} {a b h q : Nat} {r : Int} : Ties X t f lk f1 lk1 → X a → X b → a ≠ b → lk1 a = none → lk1 b = none → (h = a ∧ q = b ∨ h = b ∧ q = a) → MayTie (f1 a) (f1 b) → SameHd (tied lk1 h q) lk2 → Ties X t f lk (tiedF f1 a h q r t) lk2
theorem Ties.refl (X : Nat → Prop) (t : Int) (f : Nat → CC) (lk : Nat → Option Nat) : Ties X t f lk f lk := .same (SameHd.refl lk)
theorem Ties.short {X : Nat → Prop} {t : Int} {f f' : Nat → CC} {lk lk' lk2 : Nat → Option Nat} (h : Ties X t f lk f' lk') (hs : SameHd lk' lk2) : Ties X t f lk f' lk2 := by
  cases h with
  | same h1 => exact .same (h1.trans hs)
  | step h1 h2 h3 h4 h5 h6 h7 h8 h9 => exact .step h1 h2 h3 h4 h5 h6 h7 h8 (h9.trans hs)
theorem Ties.trans {X : Nat → Prop} {t : Int} {f f1 f2 : Nat → CC} {lk lk1 lk2 : Nat → Option Nat} (h : Ties X t f lk f1 lk1) (h' : Ties X t f1 lk1 f2 lk2) : Ties X t f lk f2 lk2 := by
  induction h' with
  | same h1 => exact h.short h1
  | step _ h2 h3 h4 h5 h6 h7 h8 h9 ih => exact .step ih h2 h3 h4 h5 h6 h7 h8 h9
theorem SameHd.symm {a b : Nat → Option Nat} (h : SameHd a b) : SameHd b a := fun i r => (h i r).symm
theorem CSto.still {w w' : World} {X : Nat → Prop} {f : Nat → CC} {lk : Nat → Option Nat} {d : Nat → Nat} {K : (Option Addr × Nat × Nat) → List Nat} (h : CSto w X f lk d K) (hb : But (fun _ => False) w w') : CSto w' X f lk d K :=
  h.short (h.cells.but hb (fun _ _ h => h)) h.acyc (hb.mono (fun _ h => h.elim))
end Go.Proofs.YtoiiibplkhedcaaGreatDoor

namespace Go.Proofs.YtoiiibplkhedcaaGreatDoor
open Go.RowKit
/-! What a store was at a time. -/
noncomputable def tdAt (X : Nat → Prop) (f : Nat → CC) (t : Int) (b : Nat) : Option Nat := by
  classical
  exact if X b ∧ (f b).si ≤ t then (f b).td else none
def gcAt (K : (Option Addr × Nat × Nat) → List Nat) (f : Nat → CC) (t : Int) : Nat → GC := fun i => ⟨(f i).nd, K (f i).ks, decide (t < (f i).told) || (f i).open?⟩
theorem tdAt_some {X : Nat → Prop} {f : Nat → CC} {t : Int} {b j : Nat} : tdAt X f t b = some j ↔ X b ∧ (f b).si ≤ t ∧ (f b).td = some j := by
  unfold tdAt
  by_cases h : X b ∧ (f b).si ≤ t
  · rw [if_pos h]
    exact ⟨fun e => ⟨h.1, h.2, e⟩, fun e => e.2.2⟩
  · rw [if_neg h]
    exact ⟨(fun e => by cases e), fun e => absurd ⟨e.1, e.2.1⟩ h⟩
theorem tdAt_none {X : Nat → Prop} {f : Nat → CC} {t : Int} {b : Nat} : tdAt X f t b = none ↔ (X b → (f b).si ≤ t → (f b).td = none) := by
  unfold tdAt
  by_cases h : X b ∧ (f b).si ≤ t
  · rw [if_pos h]
    exact ⟨fun e _ _ => e, fun e => e h.1 h.2⟩
  · rw [if_neg h]
    exact ⟨fun _ h1 h2 => absurd ⟨h1, h2⟩ h, fun _ => rfl⟩
structure Hist (X : Nat → Prop) (f : Nat → CC) (lk : Nat → Option Nat) (now : Int) : Prop where
  now0 : 0 ≤ now
  hd : SameHd lk (tdAt X f now)
  acyc : ∃ d, Acyc (tdAt X f now) d
  inX : ∀ b j, X b → (f b).td = some j → X j
  si : ∀ b j, X b → (f b).td = some j → (f b).si ≤ now
  told : ∀ b, X b → 0 ≤ (f b).told ∧ (f b).told ≤ now
  open' : ∀ b, X b → (f b).nd.kind = 61 → (f b).lv = 1
theorem Hist.isOpen {X : Nat → Prop} {f : Nat → CC} {lk : Nat → Option Nat} {now : Int} (h : Hist X f lk now) {b : Nat} (hb : X b) : (f b).open? = decide ((f b).nd.kind = 61) := by
  unfold CC.open?
  by_cases hk : (f b).nd.kind = 61
  · simp [hk, h.open' b hb hk]
  · simp [hk]
theorem hd_tied {lk : Nat → Option Nat} {h q : Nat} (hh : lk h = none) (hq : lk q = none) (hne : h ≠ q) (i r : Nat) : Hd (tied lk h q) i r ↔ (Hd lk i r ∧ r ≠ q) ∨ (Hd lk i q ∧ r = h) := by
  have hth : tied lk h q h = none := by simp [tied, hne, hh]
  constructor
  · intro H
    induction H with
    | @root i e =>
      have hiq : i ≠ q := fun e9 => by subst e9; simp [tied] at e
      simp only [tied, hiq, if_false] at e
      exact .inl ⟨.root e, hiq⟩
    | @step i j r e _ ih =>
      by_cases hiq : i = q
      · subst hiq
        simp only [tied, if_true, Option.some.injEq] at e
        subst e
        rcases ih with ⟨h1, h2⟩ | ⟨h1, h2⟩
        · exact .inr ⟨.root hq, h1.fun (.root hh)⟩
        · exact absurd ((Hd.root hh).fun h1) hne
      · simp only [tied, hiq, if_false] at e
        rcases ih with ⟨h1, h2⟩ | ⟨h1, h2⟩
        · exact .inl ⟨.step e h1, h2⟩
        · exact .inr ⟨.step e h1, h2⟩
  · have key : ∀ {i r}, Hd lk i r → r ≠ q → Hd (tied lk h q) i r := by
      intro i r H
      induction H with
      | @root i e => exact fun hr => .root (by simp [tied, hr, e])
      | @step i j r e _ ih =>
        intro hr
        have hiq : i ≠ q := fun e9 => by subst e9; rw [hq] at e; cases e
        exact .step (by simp [tied, hiq, e]) (ih hr)
    have key2 : ∀ {i r}, Hd lk i r → r = q → Hd (tied lk h q) i h := by
      intro i r H
      induction H with
      | @root i e => exact fun hr => by subst hr; exact .step (j := h) (by simp [tied]) (.root hth)
      | @step i j r e _ ih =>
        intro hr
        have hiq : i ≠ q := fun e9 => by subst e9; rw [hq] at e; cases e
        exact .step (by simp [tied, hiq, e]) (ih hr)
    rintro (⟨h1, h2⟩ | ⟨h1, rfl⟩)
    · exact key h1 h2
    · exact key2 h1 rfl
theorem SameHd.tied {lk lk' : Nat → Option Nat} (hs : SameHd lk lk') {h q : Nat} (hh : lk h = none) (hq : lk q = none) (hne : h ≠ q) : SameHd (tied lk h q) (tied lk' h q) := by
  have hh' : lk' h = none := (root_iff lk' h).2 ((hs h h).1 ((root_iff lk h).1 hh))
  have hq' : lk' q = none := (root_iff lk' q).2 ((hs q q).1 ((root_iff lk q).1 hq))
  intro i r
  rw [hd_tied hh hq hne, hd_tied hh' hq' hne, hs i r, hs i q]
theorem SameHd.rootN {lk lk' : Nat → Option Nat} (hs : SameHd lk lk') {i : Nat} (h : lk i = none) : lk' i = none := (root_iff lk' i).2 ((hs i i).1 ((root_iff lk i).1 h))
section
variable {X : Nat → Prop} {f : Nat → CC} {lk : Nat → Option Nat} {now : Int}
theorem Hist.tdNone (H : Hist X f lk now) {b : Nat} (hb : X b) (hl : lk b = none) : (f b).td = none := by
  have h9 := H.hd.rootN hl
  cases e : (f b).td with
  | none => rfl
  | some j => rw [tdAt_none] at h9; have := h9 hb (H.si b j hb e); rw [e] at this; cases this
theorem tdAt_tied {a h q : Nat} {r : Int} (hXq : X q) (hhq : h ≠ q) (tdq : (f q).td = none) (t : Int) : (t < now → tdAt X (tiedF f a h q r now) t = tdAt X f t) ∧ (now ≤ t → tdAt X (tiedF f a h q r now) t = tied (tdAt X f t) h q) := by
  have e1 : ∀ i, i ≠ q → ((tiedF f a h q r now i).td = (f i).td ∧ (tiedF f a h q r now i).si = (f i).si) := by
    intro i hi
    unfold tiedF
    rw [if_neg hi]
    split
    · rename_i e
      subst e
      split <;> exact ⟨rfl, rfl⟩
    · exact ⟨rfl, rfl⟩
  have e2 : (tiedF f a h q r now q).td = some h ∧ (tiedF f a h q r now q).si = now := by
    unfold tiedF
    rw [if_pos rfl]
    exact ⟨rfl, rfl⟩
  refine ⟨fun ht => ?_, fun ht => ?_⟩
  · funext i
    by_cases hi : i = q
    · subst hi
      have h1 : tdAt X (tiedF f a h i r now) t i = none := tdAt_none.2 (fun _ h9 => by rw [e2.2] at h9; omega)
      have h2 : tdAt X f t i = none := tdAt_none.2 (fun _ _ => tdq)
      rw [h1, h2]
    · unfold tdAt
      rw [(e1 i hi).1, (e1 i hi).2]
  · funext i
    by_cases hi : i = q
    · subst hi
      have h1 : tdAt X (tiedF f a h i r now) t i = some h := tdAt_some.2 ⟨hXq, by rw [e2.2]; exact ht, e2.1⟩
      rw [h1]
      simp [tied]
    · simp only [tied, hi, if_false]
      unfold tdAt
      rw [(e1 i hi).1, (e1 i hi).2]
theorem Hist.step (H : Hist X f lk now) {lk2 : Nat → Option Nat} {a b h q : Nat} {r : Int} (hXa : X a) (hXb : X b) (hab : a ≠ b) (ha : lk a = none) (hb : lk b = none) (hq : h = a ∧ q = b ∨ h = b ∧ q = a) (hs : SameHd (tied lk h q) lk2) : Hist X (tiedF f a h q r now) lk2 now := by
  have hhq : h ≠ q := by
    rcases hq with ⟨rfl, rfl⟩ | ⟨rfl, rfl⟩
    · exact hab
    · exact fun e => hab e.symm
  have hlq : lk q = none := by rcases hq with ⟨rfl, rfl⟩ | ⟨rfl, rfl⟩ <;> assumption
  have hlh : lk h = none := by rcases hq with ⟨rfl, rfl⟩ | ⟨rfl, rfl⟩ <;> assumption
  have hXq : X q := by rcases hq with ⟨rfl, rfl⟩ | ⟨rfl, rfl⟩ <;> assumption
  have hXh : X h := by rcases hq with ⟨rfl, rfl⟩ | ⟨rfl, rfl⟩ <;> assumption
  have ht := (tdAt_tied (f := f) (now := now) (a := a) (r := r) hXq hhq (H.tdNone hXq hlq) now).2 (Int.le_refl _)
  refine ⟨H.now0, ?_, ?_, fun i j hi e => ?_, fun i j hi e => ?_, fun i hi => ?_, fun i hi e => ?_⟩
  · rw [ht]
    exact hs.symm.trans (H.hd.tied hlh hlq hhq)
  · rw [ht]
    obtain ⟨d, hd⟩ := H.acyc
    exact acyc_tied hd (H.hd.rootN hlh) (H.hd.rootN hlq) hhq
  · by_cases hiq : i = q
    · subst hiq
      simp only [tiedF, if_true, Option.some.injEq] at e
      rw [← e]; exact hXh
    · unfold tiedF at e
      rw [if_neg hiq] at e
      split at e
      · rename_i e9
        subst e9
        split at e <;> exact H.inX i j hi e
      · exact H.inX i j hi e
  · by_cases hiq : i = q
    · subst hiq
      simp [tiedF]
    · unfold tiedF at e ⊢
      rw [if_neg hiq] at e ⊢
      split at e
      · rename_i e9
        subst e9
        simp only [if_true]
        split at e
        · rename_i hk; rw [if_pos hk]; exact H.si i j hi e
        · rename_i hk; rw [if_neg hk]; exact H.si i j hi e
      · rename_i hih
        rw [if_neg hih]
        exact H.si i j hi e
  · unfold tiedF
    split
    · rename_i e9; subst e9; exact H.told i hi
    · split
      · rename_i e9
        subst e9
        split
        · exact ⟨H.now0, Int.le_refl _⟩
        · exact H.told i hi
      · exact H.told i hi
  · unfold tiedF at e ⊢
    by_cases hiq : i = q
    · subst hiq
      rw [if_pos rfl] at e ⊢
      exact H.open' i hi e
    · rw [if_neg hiq] at e ⊢
      by_cases hih : i = h
      · subst hih
        rw [if_pos rfl] at e ⊢
        by_cases hk : (f i).nd.kind = 61
        · rw [if_pos hk] at e ⊢
          exact H.open' a hXa e
        · rw [if_neg hk] at e ⊢
          exact H.open' i hi e
      · rw [if_neg hih] at e ⊢
        exact H.open' i hi e
theorem satAt_step (K : (Option Addr × Nat × Nat) → List Nat) (H : Hist X f lk now) {a b h q : Nat} {r : Int} (hXa : X a) (hXb : X b) (hab : a ≠ b) (ha : lk a = none) (hb : lk b = none) (hq : h = a ∧ q = b ∨ h = b ∧ q = a) (t : Int) (ht : t < now) (θ : Nat → DT) : SatC X (gcAt K (tiedF f a h q r now) t) (tdAt X (tiedF f a h q r now) t) θ ↔ SatC X (gcAt K f t) (tdAt X f t) θ := by
  have hhq : h ≠ q := by
    rcases hq with ⟨rfl, rfl⟩ | ⟨rfl, rfl⟩
    · exact hab
    · exact fun e => hab e.symm
  have hlq : lk q = none := by rcases hq with ⟨rfl, rfl⟩ | ⟨rfl, rfl⟩ <;> assumption
  have hXq : X q := by rcases hq with ⟨rfl, rfl⟩ | ⟨rfl, rfl⟩ <;> assumption
  have hXh : X h := by rcases hq with ⟨rfl, rfl⟩ | ⟨rfl, rfl⟩ <;> assumption
  rw [(tdAt_tied (f := f) (now := now) (a := a) (r := r) hXq hhq (H.tdNone hXq hlq) t).1 ht]
  have key : ∀ i, X i → (gcAt K (tiedF f a h q r now) t i = gcAt K f t i) ∨ ((gcAt K (tiedF f a h q r now) t i).op = true ∧ (gcAt K f t i).op = true) := by
    intro i hi
    unfold gcAt tiedF
    by_cases hiq : i = q
    · subst hiq
      left
      simp [CC.open?]
    · by_cases hih : i = h
      · subst hih
        by_cases hk : (f i).nd.kind = 61
        · right
          have h1 := H.isOpen hi
          simp only [hk, decide_true] at h1
          simp [hiq, hk, h1, ht]
        · left
          simp [hiq, hk, CC.open?]
      · left
        simp [hiq, hih]
  constructor
  · rintro ⟨h1, h2⟩
    refine ⟨h1, fun i hi hl ho => ?_⟩
    rcases key i hi with e | ⟨e1, e2⟩
    · rw [← e] at ho ⊢
      exact h2 i hi hl ho
    · rw [e2] at ho; cases ho
  · rintro ⟨h1, h2⟩
    refine ⟨h1, fun i hi hl ho => ?_⟩
    rcases key i hi with e | ⟨e1, e2⟩
    · rw [e] at ho ⊢
      exact h2 i hi hl ho
    · rw [e1] at ho; cases ho
theorem Hist.satNow (K : (Option Addr × Nat × Nat) → List Nat) (H : Hist X f lk now) {d : Nat → Nat} (ha : Acyc lk d) (θ : Nat → DT) : SatC X (gcAt K f now) (tdAt X f now) θ ↔ SatC X (gc K f) lk θ := by
  obtain ⟨d', hd'⟩ := H.acyc
  rw [H.hd.sat (g := gcAt K f now) ha hd']
  have key : ∀ i, X i → gcAt K f now i = gc K f i := by
    intro i hi
    have := (H.told i hi).2
    unfold gcAt gc
    have h9 : decide (now < (f i).told) = false := decide_eq_false (by omega)
    rw [h9, Bool.false_or]
  constructor
  · rintro ⟨h1, h2⟩
    refine ⟨h1, fun i hi hl ho => ?_⟩
    rw [← key i hi] at ho ⊢
    exact h2 i hi hl ho
  · rintro ⟨h1, h2⟩
    refine ⟨h1, fun i hi hl ho => ?_⟩
    rw [key i hi] at ho ⊢
    exact h2 i hi hl ho
theorem Hist.short (H : Hist X f lk now) {lk2 : Nat → Option Nat} (hs : SameHd lk lk2) : Hist X f lk2 now :=
  { H with hd := hs.symm.trans H.hd }
theorem Ties.hist {f' : Nat → CC} {lk' : Nat → Option Nat} (h : Ties X now f lk f' lk') (H : Hist X f lk now) : Hist X f' lk' now ∧ ∀ K t θ, t < now → (SatC X (gcAt K f' t) (tdAt X f' t) θ ↔ SatC X (gcAt K f t) (tdAt X f t) θ) := by
  induction h with
  | same hs => exact ⟨H.short hs, fun _ _ _ _ => Iff.rfl⟩
  | step _ hXa hXb hab ha hb hq _ hs ih =>
    obtain ⟨h1, h2⟩ := ih
    exact ⟨h1.step hXa hXb hab ha hb hq hs, fun K t θ ht => (satAt_step K h1 hXa hXb hab ha hb hq t ht θ).trans (h2 K t θ ht)⟩
structure NumOk (X : Nat → Prop) (U : Int → Option Nat) (f : Nat → CC) (lk : Nat → Option Nat) : Prop where
  low : ∀ x b r, U x = some b → Hd lk b r → (f r).open? = true → (f r).nd.num ≤ x
  has : ∀ r, X r → lk r = none → (f r).open? = true → ∃ b, U (f r).nd.num = some b ∧ Hd lk b r
theorem NumOk.short {U : Int → Option Nat} (H : NumOk X U f lk) {lk2 : Nat → Option Nat} (hs : SameHd lk lk2) : NumOk X U f lk2 := by
  refine ⟨fun x b r hu hr ho => H.low x b r hu ((hs b r).2 hr) ho, fun r hX hl ho => ?_⟩
  obtain ⟨b, h1, h2⟩ := H.has r hX (hs.symm.rootN hl) ho
  exact ⟨b, h1, (hs b r).1 h2⟩
theorem open_core {c d : CC} (h : c.core = d.core) : c.open? = d.open? ∧ c.nd = d.nd := by
  obtain ⟨n1, n2, n3⟩ := core_parts h
  exact ⟨by simp [CC.open?, n1, n3], n1⟩
theorem NumOk.step {U : Int → Option Nat} (hU : NumOk X U f lk) (H : Hist X f lk now) {lk2 : Nat → Option Nat} {a b h q : Nat} {r : Int} (hXa : X a) (hXb : X b) (hab : a ≠ b) (ha : lk a = none) (hb : lk b = none) (hq : h = a ∧ q = b ∨ h = b ∧ q = a) (hm : MayTie (f a) (f b)) (hs : SameHd (tied lk h q) lk2) : NumOk X U (tiedF f a h q r now) lk2 := by
  have hhq : h ≠ q := by
    rcases hq with ⟨rfl, rfl⟩ | ⟨rfl, rfl⟩
    · exact hab
    · exact fun e => hab e.symm
  have hlq : lk q = none := by rcases hq with ⟨rfl, rfl⟩ | ⟨rfl, rfl⟩ <;> assumption
  have hlh : lk h = none := by rcases hq with ⟨rfl, rfl⟩ | ⟨rfl, rfl⟩ <;> assumption
  have hXh : X h := by rcases hq with ⟨rfl, rfl⟩ | ⟨rfl, rfl⟩ <;> assumption
  have hop : ∀ i, i ≠ h → (tiedF f a h q r now i).open? = (f i).open? ∧ (tiedF f a h q r now i).nd = (f i).nd := fun i hi => open_core (tiedF_rest f r now i hi)
  have hoh : (tiedF f a h q r now h).open? = true → (f a).open? = true ∧ (f b).open? = true ∧ (tiedF f a h q r now h).nd = (f a).nd := by
    intro ho
    have hc := tiedF_head f (a := a) hhq r now
    have ha61 := H.isOpen hXa
    have hb61 := H.isOpen hXb
    have hh61 := H.isOpen hXh
    by_cases hk : (f h).nd.kind = 61
    · rw [if_pos hk] at hc
      have hc := open_core hc
      rw [hc.1] at ho
      refine ⟨ho, ?_, hc.2⟩
      rcases hm with ⟨h1, _⟩ | ⟨h1, _⟩
      · exact h1
      · rw [h1] at ho; cases ho
    · rw [if_neg hk] at hc
      have hc := open_core hc
      rw [hc.1, hh61] at ho
      simp [hk] at ho
  refine NumOk.short ⟨fun x c r' hu hr ho => ?_, fun r' hX hl ho => ?_⟩ hs
  · rw [hd_tied hlh hlq hhq] at hr
    by_cases hrh : r' = h
    · subst hrh
      obtain ⟨o1, o2, o3⟩ := hoh ho
      rw [o3]
      have hle : (f a).nd.num ≤ (f b).nd.num := by
        rcases hm with ⟨_, h2⟩ | ⟨h1, _⟩
        · exact h2 o1
        · rw [h1] at o1; cases o1
      have hab' : Hd lk c a ∨ Hd lk c b := by
        rcases hq with ⟨rfl, rfl⟩ | ⟨rfl, rfl⟩
        · rcases hr with ⟨h1, _⟩ | ⟨h1, _⟩
          · exact .inl h1
          · exact .inr h1
        · rcases hr with ⟨h1, _⟩ | ⟨h1, _⟩
          · exact .inr h1
          · exact .inl h1
      rcases hab' with h1 | h1
      · exact hU.low x c a hu h1 o1
      · have := hU.low x c b hu h1 o2
        omega
    · rcases hr with ⟨h1, h2⟩ | ⟨_, h2⟩
      · rw [(hop r' hrh).1] at ho
        rw [(hop r' hrh).2]
        exact hU.low x c r' hu h1 ho
      · exact absurd h2 hrh
  · have hrq : r' ≠ q := fun e9 => by subst e9; simp [tied] at hl
    simp only [tied, hrq, if_false] at hl
    by_cases hrh : r' = h
    · subst hrh
      obtain ⟨o1, o2, o3⟩ := hoh ho
      obtain ⟨c, c1, c2⟩ := hU.has a hXa ha o1
      refine ⟨c, by rw [o3]; exact c1, ?_⟩
      rw [hd_tied hlh hlq hhq]
      rcases hq with ⟨rfl, rfl⟩ | ⟨rfl, rfl⟩
      · exact .inl ⟨c2, hab⟩
      · exact .inr ⟨c2, rfl⟩
    · rw [(hop r' hrh).1] at ho
      obtain ⟨c, c1, c2⟩ := hU.has r' hX hl ho
      refine ⟨c, by rw [(hop r' hrh).2]; exact c1, ?_⟩
      rw [hd_tied hlh hlq hhq]
      exact .inl ⟨c2, hrq⟩
theorem Ties.num {U : Int → Option Nat} {f' : Nat → CC} {lk' : Nat → Option Nat} (h : Ties X now f lk f' lk') (H : Hist X f lk now) (hU : NumOk X U f lk) : NumOk X U f' lk' := by
  induction h with
  | same hs => exact hU.short hs
  | step h1 hXa hXb hab ha hb hq hm hs ih => exact ih.step (h1.hist H).1 hXa hXb hab ha hb hq hm hs
end
end Go.Proofs.YtoiiibplkhedcaaGreatDoor

namespace Go.Proofs.YtoiiibplkhedcaaGreatDoor
def val (g : Nat → GC) (hd : Nat → Nat) : List Nat → Nat → Option Nd
  | [], i => some (g (hd i)).nd
  | j :: p, i => match (g (hd i)).ks[j]? with
    | some k => val g hd p k
    | none => none
theorem val_con (g : Nat → GC) (hd : Nat → Nat) (i : Nat) : (fun p => val g hd p i) = con (g (hd i)).nd ((g (hd i)).ks.map fun k => fun p => val g hd p k) := by
  funext p
  cases p with
  | nil => rfl
  | cons j p =>
    simp only [val, con, List.getElem?_map]
    cases (g (hd i)).ks[j]? <;> rfl
theorem sat_val {X : Nat → Prop} {g : Nat → GC} {lk : Nat → Option Nat} {hd : Nat → Nat} (h1 : ∀ i j, lk i = some j → hd i = hd j) (h2 : ∀ i, lk i = none → hd i = i) : SatC X g lk (fun i p => val g hd p i) := by
  refine ⟨fun i j e => ?_, fun i _ hl _ => ?_⟩
  · show (fun p => val g hd p i) = fun p => val g hd p j
    rw [val_con, val_con, h1 i j e]
  · have := val_con g hd i
    rw [h2 i hl] at this
    exact this
inductive Fin' : DT → List Nd → Prop
  | mk (n : Nd) (ds : List DT) (xss : List (List Nd)) (hl : ds.length = xss.length) (h : ∀ i (h1 : i < ds.length) (h2 : i < xss.length), Fin' ds[i] xss[i]) : Fin' (con n ds) (xss.flatten ++ [n])
theorem Fin'.root {d : DT} {xs : List Nd} (h : Fin' d xs) : ∃ n, d [] = some n := by
  cases h with
  | mk n ds xss _ _ => exact ⟨n, rfl⟩
theorem con_len {n m : Nd} {ds es : List DT} (h : con n ds = con m es) (h1 : ∀ d ∈ ds, ∃ k, d [] = some k) (h2 : ∀ d ∈ es, ∃ k, d [] = some k) : ds.length = es.length := by
  have key : ∀ {n m : Nd} {ds es : List DT}, con n ds = con m es → (∀ d ∈ es, ∃ k, d [] = some k) → ¬ ds.length < es.length := by
    intro n m ds es h h2 hlt
    have h9 := congrFun h [ds.length]
    obtain ⟨k, hk⟩ := h2 es[ds.length] (List.getElem_mem hlt)
    simp [con, List.getElem?_eq_getElem hlt, hk] at h9
  have a := key h h2
  have b := key h.symm h1
  omega
theorem Fin'.one {d : DT} {xs : List Nd} (h : Fin' d xs) : ∀ {ys : List Nd}, Fin' d ys → xs = ys := by
  induction h with
  | mk n ds xss hl h1 ih =>
    intro ys h'
    generalize hd : con n ds = d at h'
    cases h' with
    | mk m es yss hl' h2 =>
      obtain rfl := con_nd hd
      have r1 : ∀ d ∈ ds, ∃ k, d [] = some k := by
        intro d hm
        obtain ⟨i, hi, rfl⟩ := List.getElem_of_mem hm
        exact (h1 i hi (by omega)).root
      have r2 : ∀ d ∈ es, ∃ k, d [] = some k := by
        intro d hm
        obtain ⟨i, hi, rfl⟩ := List.getElem_of_mem hm
        exact (h2 i hi (by omega)).root
      have hlE := con_len hd r1 r2
      obtain rfl := con_kids hd hlE
      have : xss = yss := by
        apply List.ext_getElem (by omega)
        intro i h3 h4
        exact ih i (by omega) h3 (h2 i (by omega) h4)
      rw [this]
end Go.Proofs.YtoiiibplkhedcaaGreatDoor

namespace Go.Proofs.YtoiiibplkhedcaaGreatDoor
inductive Ev (σ : Nd → DT) : List Nd → DT → Prop
  | leaf (n : Nd) (hk : n.kind = 61) (h0 : n.kids = 0) : Ev σ [n] (σ n)
  | node (n : Nd) (hk : n.kind ≠ 61) (xss : List (List Nd)) (ds : List DT) (hn : n.kids = (ds.length : Int)) (hl : ds.length = xss.length) (h : ∀ i (h1 : i < xss.length) (h2 : i < ds.length), Ev σ xss[i] ds[i]) : Ev σ (xss.flatten ++ [n]) (con n ds)
def selfT (n : Nd) : DT := con n []
theorem Ev.one {σ : Nd → DT} {xs : List Nd} {d : DT} (h : Ev σ xs d) : One xs := by
  induction h with
  | leaf n hk h0 =>
    have := One.join (A := []) (n := n) (by simp) (by simpa using h0)
    simpa using this
  | node n hk xss ds hn hl h ih =>
    refine One.join (fun x hx => ?_) (by rw [hn, hl])
    obtain ⟨i, hi, rfl⟩ := List.getElem_of_mem hx
    exact ih i hi (by omega)
theorem Ev.last {σ : Nd → DT} {xs : List Nd} {d : DT} (h : Ev σ xs d) : (∃ n : Nd, xs = [n] ∧ (n.kind = 61 ∧ n.kids = 0) ∧ d = σ n) ∨ ∃ (n : Nd) (xss : List (List Nd)) (ds : List DT), n.kind ≠ 61 ∧ n.kids = (ds.length : Int) ∧ ds.length = xss.length ∧ (∀ i (h1 : i < xss.length) (h2 : i < ds.length), Ev σ xss[i] ds[i]) ∧ xs = xss.flatten ++ [n] ∧ d = con n ds := by
  cases h with
  | leaf n hk h0 => exact .inl ⟨n, rfl, ⟨hk, h0⟩, rfl⟩
  | node n hk xss ds hn hl h => exact .inr ⟨n, xss, ds, hk, hn, hl, h, rfl, rfl⟩
theorem ev_ones {σ : Nd → DT} {xss : List (List Nd)} {ds : List DT} (hl : ds.length = xss.length) (h : ∀ i (h1 : i < xss.length) (h2 : i < ds.length), Ev σ xss[i] ds[i]) : ∀ x ∈ xss, One x := by
  intro x hx
  obtain ⟨i, hi, rfl⟩ := List.getElem_of_mem hx
  exact (h i hi (by omega)).one
theorem Ev.fun {σ : Nd → DT} {xs : List Nd} {d : DT} (h : Ev σ xs d) : ∀ {d' : DT}, Ev σ xs d' → d = d' := by
  induction h with
  | leaf n hk h0 =>
    intro d' h'
    rcases h'.last with ⟨m, e, _, rfl⟩ | ⟨m, xss, ds, hm, _, _, _, e, rfl⟩
    · simp at e; subst e; rfl
    · have := (List.append_inj' (s₁ := []) e rfl).2
      simp at this
      subst this
      exact absurd hk hm
  | node n hk xss ds hn hl h ih =>
    intro d' h'
    rcases h'.last with ⟨m, e, ⟨hm, _⟩, rfl⟩ | ⟨m, yss, es, hm, hn', hl', h2, e, rfl⟩
    · have := (List.append_inj' (s₂ := []) e rfl).2
      simp at this
      subst this
      exact absurd hm hk
    · obtain ⟨e1, e2⟩ := List.append_inj' e rfl
      simp at e2
      subst e2
      have e3 := ones_same (ev_ones hl h) (ev_ones hl' h2) e1
      subst e3
      have : ds = es := by
        apply List.ext_getElem (by omega)
        intro i h3 h4
        exact ih i (by omega) h3 (h2 i (by omega) h4)
      rw [this]
theorem selfT_root {xs : List Nd} {d : DT} (h : Ev selfT xs d) : ∃ k, d [] = some k := by
  rcases h.last with ⟨n, _, _, rfl⟩ | ⟨n, _, ds, _, _, _, _, _, rfl⟩
  · exact ⟨n, rfl⟩
  · exact ⟨n, rfl⟩
theorem ev_roots {xss : List (List Nd)} {ds : List DT} (hl : ds.length = xss.length) (h : ∀ i (h1 : i < xss.length) (h2 : i < ds.length), Ev selfT xss[i] ds[i]) : ∀ d ∈ ds, ∃ k, d [] = some k := by
  intro d hd
  obtain ⟨i, hi, rfl⟩ := List.getElem_of_mem hd
  exact selfT_root (h i (by omega) hi)
theorem Ev.self {xs : List Nd} {d : DT} (h : Ev selfT xs d) : ∀ {ys : List Nd}, Ev selfT ys d → xs = ys := by
  induction h with
  | leaf n hk h0 =>
    intro ys h'
    rcases h'.last with ⟨m, rfl, _, e⟩ | ⟨m, yss, es, hm, _, _, h2, rfl, e⟩
    · rw [con_nd e]
    · have := con_nd e
      subst this
      exact absurd hk hm
  | node n hk xss ds hn hl h ih =>
    intro ys h'
    rcases h'.last with ⟨m, rfl, ⟨hm, _⟩, e⟩ | ⟨m, yss, es, hm, hn', hl', h2, rfl, e⟩
    · have := con_nd e
      subst this
      exact absurd hm hk
    · have hlE := con_len e (ev_roots hl h) (ev_roots hl' h2)
      have e1 := con_nd e
      subst e1
      have e2 := con_kids e hlE
      subst e2
      have : xss = yss := by
        apply List.ext_getElem (by omega)
        intro i h3 h4
        exact ih i h3 (by omega) (h2 i h4 (by omega))
      rw [this]
theorem Ev.kids {n : Nd} {ds : List DT} {xs : List Nd} (h : Ev selfT xs (con n ds)) (hr : ∀ d ∈ ds, ∃ k, d [] = some k) : ∃ xss : List (List Nd), xss.length = ds.length ∧ (∀ i (h1 : i < xss.length) (h2 : i < ds.length), Ev selfT xss[i] ds[i]) ∧ xs = xss.flatten ++ [n] ∧ n.kids = (ds.length : Int) := by
  rcases h.last with ⟨m, rfl, ⟨hm, hm0⟩, e⟩ | ⟨m, yss, es, hm, hn', hl', h2, rfl, e⟩
  · have e1 := con_nd e
    subst e1
    have hl := con_len e hr (by simp)
    have : ds = [] := List.eq_nil_of_length_eq_zero (by simpa using hl)
    subst this
    exact ⟨[], rfl, by simp, by simp, by simpa using hm0⟩
  · have e1 := con_nd e
    subst e1
    have hl := con_len e hr (ev_roots hl' h2)
    have e2 := con_kids e hl
    subst e2
    exact ⟨yss, by omega, h2, rfl, hn'⟩
theorem Ev.back {σ : Nd → DT} {g : List Nd} {d : DT} (h : Ev σ g d) : ∀ {t : List Nd}, Ev selfT t d → (∀ n ∈ g, n.kind = 61 → ∃ xs, Ev selfT xs (σ n)) ∧ ∀ ρ : Int → List Nd, (∀ n ∈ g, n.kind = 61 → Ev selfT (ρ n.num) (σ n)) → fill ρ g = t := by
  induction h with
  | leaf n hk h0 =>
    intro t ht
    refine ⟨fun m hm _ => ?_, fun ρ hρ => ?_⟩
    · simp at hm; subst hm; exact ⟨t, ht⟩
    · have h1 := hρ n (by simp) hk
      simp only [fill, fillN, List.flatMap_cons, List.flatMap_nil, hk, if_true, List.append_nil]
      exact h1.self ht
  | node n hk xss ds hn hl h ih =>
    intro t ht
    rcases ht.last with ⟨m, rfl, ⟨hm, _⟩, e⟩ | ⟨m, yss, es, hm, hn', hl', h2, rfl, e⟩
    · have := con_nd e
      subst this
      exact absurd hm hk
    · have e1 := con_nd e
      subst e1
      have hlE : ds.length = es.length := by omega
      have e2 := con_kids e hlE
      subst e2
      refine ⟨fun m hm hm61 => ?_, fun ρ hρ => ?_⟩
      · rcases List.mem_append.1 hm with hm | hm
        · obtain ⟨a, ha, hma⟩ := List.mem_flatten.1 hm
          obtain ⟨i, hi, rfl⟩ := List.getElem_of_mem ha
          exact (ih i hi (by omega) (h2 i (by omega) (by omega))).1 m hma hm61
        · simp at hm; subst hm; exact absurd hm61 hk
      · rw [fill_append, fill_flatten]
        have e3 : fill ρ [n] = [n] := by simp [fill, fillN, hk]
        rw [e3]
        congr 2
        apply List.ext_getElem (by simp; omega)
        intro i h3 h4
        simp only [List.getElem_map]
        have hi : i < xss.length := by simpa using h3
        refine (ih i hi (by omega) (h2 i h4 (by omega))).2 ρ (fun m hm hm61 => ?_)
        exact hρ m (List.mem_append_left _ (List.mem_flatten.2 ⟨_, List.getElem_mem hi, hm⟩)) hm61
theorem Ev.forth {σ : Nd → DT} {g : List Nd} {d : DT} (h : Ev σ g d) {ρ : Int → List Nd} (hρ : ∀ n ∈ g, n.kind = 61 → Ev selfT (ρ n.num) (σ n)) : Ev selfT (fill ρ g) d := by
  induction h with
  | leaf n hk h0 =>
    have h1 := hρ n (by simp) hk
    simp only [fill, fillN, List.flatMap_cons, List.flatMap_nil, hk, if_true, List.append_nil]
    exact h1
  | node n hk xss ds hn hl h ih =>
    rw [fill_append, fill_flatten]
    have e3 : fill ρ [n] = [n] := by simp [fill, fillN, hk]
    rw [e3]
    refine Ev.node n hk _ ds hn (by simp [hl]) (fun i h1 h2 => ?_)
    simp only [List.getElem_map]
    have hi : i < xss.length := by simpa using h1
    exact ih i hi h2 (fun m hm hm61 => hρ m (List.mem_append_left _ (List.mem_flatten.2 ⟨_, List.getElem_mem hi, hm⟩)) hm61)
theorem Ev.asSelf {σ : Nd → DT} {t : List Nd} {d : DT} (h : Ev σ t d) (hσ : ∀ n ∈ t, n.kind = 61 → σ n = selfT n) : Ev selfT t d := by
  induction h with
  | leaf n hk h0 =>
    rw [hσ n (by simp) hk]
    exact Ev.leaf n hk h0
  | node n hk xss ds hn hl h ih =>
    refine Ev.node n hk xss ds hn hl (fun i h1 h2 => ih i h1 h2 (fun m hm hm61 => hσ m (List.mem_append_left _ (List.mem_flatten.2 ⟨_, List.getElem_mem h1, hm⟩)) hm61))
theorem ev_span (σ : Nd → DT) {t : List Nd} (hl : Leafy t) {S ys : List Sp} {n : Nat} (h : after t n = some (S, ys)) : ∀ i, i < n → ∀ s, ys[i]? = some s → ∃ d, Ev σ (span t s.fr i) d := by
  intro i
  induction i using Nat.strongRecOn with
  | ind i ih =>
    intro hi s hs
    have hle := after_le h
    have hit : i < t.length := by omega
    obtain ⟨K, hK, hsp, hO⟩ := span_kids h hi hs hit
    obtain ⟨_, hn⟩ := hK.num
    rw [hsp]
    by_cases h61 : t[i].kind = 61
    · have hz := hl t[i] (List.getElem_mem hit) h61
      have hK0 : K = [] := List.eq_nil_of_length_eq_zero (by omega)
      subst hK0
      exact ⟨_, by simpa [kidsIn] using Ev.leaf (σ := σ) t[i] h61 hz⟩
    · have hk : ∀ r, ∃ d, ∀ hr : r < K.length, Ev σ (span t K[r].fr K[r].rt) d := by
        intro r
        by_cases hr : r < K.length
        · have hm := hK.mem r hr
          obtain ⟨d, hd⟩ := ih K[r].rt hm.2.2 (by omega) K[r] hm.1
          exact ⟨d, fun _ => hd⟩
        · exact ⟨fun _ => none, fun h => absurd h hr⟩
      obtain ⟨F, hF⟩ := Classical.axiomOfChoice hk
      refine ⟨con t[i] ((List.range K.length).map F), Ev.node t[i] h61 (kidsIn t K) _ (by simpa using hn) (by simp [kidsIn]) (fun r h1 h2 => ?_)⟩
      have hr : r < K.length := by simpa using h2
      simp only [kidsIn, List.getElem_map, List.getElem_range]
      exact hF r hr
theorem Ev.cut {σ : Nd → DT} {g : List Nd} {d : DT} (h : Ev σ g d) {ρ : Int → List Nd} (hρ : ∀ x, One (ρ x)) : ∀ {D : DT}, Ev selfT (fill ρ g) D → ∀ n ∈ g, n.kind = 61 → ∃ e, Ev selfT (ρ n.num) e := by
  induction h with
  | leaf n hk h0 =>
    intro D hD m hm _
    simp at hm
    subst hm
    have e : fill ρ [m] = ρ m.num := by simp [fill, fillN, hk]
    rw [e] at hD
    exact ⟨D, hD⟩
  | node n hk xss ds hn hl h ih =>
    intro D hD m hm hm61
    have e3 : fill ρ [n] = [n] := by simp [fill, fillN, hk]
    rw [fill_append, fill_flatten, e3] at hD
    have hO := ev_ones hl h
    have hL : ∀ i (h1 : i < xss.length), Leafy xss[i] := by
      have key : ∀ {xs : List Nd} {d : DT}, Ev σ xs d → Leafy xs := by
        intro xs d hx
        induction hx with
        | leaf n hk h0 => intro m hm _; simp at hm; subst hm; exact h0
        | node n hk yss es hn hl h ih =>
          intro m hm hm61
          rcases List.mem_append.1 hm with hm | hm
          · obtain ⟨a, ha, hma⟩ := List.mem_flatten.1 hm
            obtain ⟨i, hi, rfl⟩ := List.getElem_of_mem ha
            exact ih i hi (by omega) m hma hm61
          · simp at hm; subst hm; exact absurd hm61 hk
      exact fun i h1 => key (h i h1 (by omega))
    rcases hD.last with ⟨q, e, ⟨hq, _⟩, _⟩ | ⟨q, yss, es, hq, hn', hl', h2, e, _⟩
    · have := (List.append_inj' (s₂ := []) e rfl).2
      simp at this
      subst this
      exact absurd hq hk
    · obtain ⟨e1, e2⟩ := List.append_inj' e rfl
      have e4 := ones_same (A := xss.map (fill ρ)) (by
        intro y hy
        obtain ⟨a, ha, rfl⟩ := List.mem_map.1 hy
        obtain ⟨i, hi, rfl⟩ := List.getElem_of_mem ha
        exact fill_one hρ (hL i hi) (hO _ (List.getElem_mem hi))) (ev_ones hl' h2) e1
      rcases List.mem_append.1 hm with hm | hm
      · obtain ⟨a, ha, hma⟩ := List.mem_flatten.1 hm
        obtain ⟨i, hi, rfl⟩ := List.getElem_of_mem ha
        have hi2 : i < yss.length := by rw [← e4]; simpa using hi
        have e5 : yss[i] = fill ρ xss[i] := by
          have : yss[i] = (xss.map (fill ρ))[i]'(by simpa using hi) := by simp only [e4]
          rw [this]
          simp
        have h9 := h2 i hi2 (by omega)
        rw [e5] at h9
        exact ih i hi (by omega) h9 m hma hm61
      · simp at hm; subst hm; exact absurd hm61 hk
end Go.Proofs.YtoiiibplkhedcaaGreatDoor

namespace Go.Proofs.YtoiiibplkhedcaaGreatDoor
open Go.RowKit
theorem Ev.congr {σ σ' : Nd → DT} {t : List Nd} {d : DT} (h : Ev σ t d) (hσ : ∀ n ∈ t, n.kind = 61 → σ n = σ' n) : Ev σ' t d := by
  induction h with
  | leaf n hk h0 =>
    rw [hσ n (by simp) hk]
    exact Ev.leaf n hk h0
  | node n hk xss ds hn hl h ih =>
    refine Ev.node n hk xss ds hn hl (fun i h1 h2 => ih i h1 h2 (fun m hm hm61 => hσ m (List.mem_append_left _ (List.mem_flatten.2 ⟨_, List.getElem_mem h1, hm⟩)) hm61))
def sg (U : Int → Int → Option Nat) (lv : Int) (θ : Nat → DT) (n : Nd) : DT := match U lv n.num with
  | some b => θ b
  | none => selfT n
def FreshC (lv : Int) (c : CC) : Prop := c.td = none ∧ c.told = 0 ∧ c.sn = 0 ∧ (c.nd.kind = 61 → c.lv = lv)
noncomputable def mixG (X : Nat → Prop) (g g' : Nat → GC) (i : Nat) : GC := by
  classical
  exact if X i then g i else g' i
theorem mixG_in {X : Nat → Prop} {g g' : Nat → GC} {i : Nat} (h : X i) : mixG X g g' i = g i := by
  unfold mixG
  rw [if_pos h]
theorem mixG_out {X : Nat → Prop} {g g' : Nat → GC} {i : Nat} (h : ¬ X i) : mixG X g g' i = g' i := by
  unfold mixG
  rw [if_neg h]
theorem satC_congr {X : Nat → Prop} {g g' : Nat → GC} {l : Nat → Option Nat} {θ : Nat → DT} (h : ∀ i, X i → g i = g' i) (hs : SatC X g l θ) : SatC X g' l θ := by
  refine ⟨hs.1, fun i hi hl ho => ?_⟩
  rw [← h i hi] at ho ⊢
  exact hs.2 i hi hl ho
structure Grow (lv : Int) (ok : (Int → DT) → Prop) (X : Nat → Prop) (f : Nat → CC) (lk : Nat → Option Nat) (K : (Option Addr × Nat × Nat) → List Nat) (U : Int → Int → Option Nat) (X' : Nat → Prop) (f' : Nat → CC) (lk' : Nat → Option Nat) (K' : (Option Addr × Nat × Nat) → List Nat) (U' : Int → Int → Option Nat) : Prop where
  sub : ∀ i, X i → X' i
  same : ∀ i, X i → gc K' f' i = gc K f i
  link : ∀ i, X i → lk' i = lk i
  keep : ∀ l x b, U l x = some b → U' l x = some b
  other : ∀ l x, l ≠ lv → U' l x = U l x
  inX : (∀ i j, lk i = some j → X i ∧ X j)
  on : ∀ θ, SatC X (gc K f) lk θ → ∀ ρ, ok ρ → ∃ θ', SatC X' (gc K' f') lk' θ' ∧ (∀ i, X i → θ' i = θ i) ∧ ∀ x b, U lv x = none → U' lv x = some b → θ' b = ρ x
  old : ∀ i, X i → f' i = f i
  new : ∀ i, X' i → ¬ X i → FreshC lv (f' i)
  leaf : ∀ x b, U lv x = none → U' lv x = some b → (f' b).nd.kind = 61 ∧ (f' b).nd.num = x ∧ ¬ X b
  onG : ∀ (g : Nat → GC) (l : Nat → Option Nat), (∀ i j, l i = some j → X i ∧ X j) → (∀ i, X i → ∀ k ∈ (g i).ks, X k) → ∀ θ, SatC X g l θ → ∀ ρ, ok ρ → ∃ θ', SatC X' (mixG X g (gc K' f')) l θ' ∧ (∀ i, X i → θ' i = θ i) ∧ ∀ x b, U lv x = none → U' lv x = some b → θ' b = ρ x
theorem Grow.refl {lv : Int} {ok : (Int → DT) → Prop} {X : Nat → Prop} {f : Nat → CC} {lk : Nat → Option Nat} {K : (Option Addr × Nat × Nat) → List Nat} {U : Int → Int → Option Nat} (h : ∀ i j, lk i = some j → X i ∧ X j) : Grow lv ok X f lk K U X f lk K U :=
  ⟨fun _ h => h, fun _ _ => rfl, fun _ _ => rfl, fun _ _ _ h => h, fun _ _ _ => rfl, h, fun θ h ρ _ => ⟨θ, h, fun _ _ => rfl, fun x b h1 h2 => by rw [h1] at h2; cases h2⟩, fun _ _ => rfl, fun i h1 h2 => absurd h1 h2, (fun x b h1 h2 => by rw [h1] at h2; cases h2), fun g l _ _ θ hs ρ _ => ⟨θ, satC_congr (fun i hi => (mixG_in hi).symm) hs, fun _ _ => rfl, fun x b h1 h2 => by rw [h1] at h2; cases h2⟩⟩
theorem Grow.back {lv : Int} {ok : (Int → DT) → Prop} {X X' : Nat → Prop} {f f' : Nat → CC} {lk lk' : Nat → Option Nat} {K K' : (Option Addr × Nat × Nat) → List Nat} {U U' : Int → Int → Option Nat} (h : Grow lv ok X f lk K U X' f' lk' K' U') {θ : Nat → DT} (hs : SatC X' (gc K' f') lk' θ) : SatC X (gc K f) lk θ := by
  refine ⟨fun i j e => hs.1 i j (by rw [h.link i (h.inX i j e).1]; exact e), fun i hi hl ho => ?_⟩
  have h9 := hs.2 i (h.sub i hi) (by rw [h.link i hi]; exact hl) (by rw [h.same i hi]; exact ho)
  rw [h.same i hi] at h9
  exact h9
theorem Grow.trans {lv : Int} {ok : (Int → DT) → Prop} {X X1 X2 : Nat → Prop} {f f1 f2 : Nat → CC} {lk lk1 lk2 : Nat → Option Nat} {K K1 K2 : (Option Addr × Nat × Nat) → List Nat} {U U1 U2 : Int → Int → Option Nat} (h : Grow lv ok X f lk K U X1 f1 lk1 K1 U1) (h' : Grow lv ok X1 f1 lk1 K1 U1 X2 f2 lk2 K2 U2) (hU : ∀ l x b, U1 l x = some b → X1 b) (hself1 : ∀ i, X1 i → ∀ k ∈ (gc K1 f1 i).ks, X1 k) : Grow lv ok X f lk K U X2 f2 lk2 K2 U2 := by
  refine ⟨fun i hi => h'.sub i (h.sub i hi), fun i hi => (h'.same i (h.sub i hi)).trans (h.same i hi), fun i hi => (h'.link i (h.sub i hi)).trans (h.link i hi), fun l x b e => h'.keep l x b (h.keep l x b e), fun l x e => (h'.other l x e).trans (h.other l x e), h.inX, fun θ hs ρ hρ => ?_, fun i hi => (h'.old i (h.sub i hi)).trans (h.old i hi), fun i h1 h2 => ?_, fun x b e1 e2 => ?_, fun g l hl hg θ hs ρ hρ => ?_⟩
  · obtain ⟨θ1, s1, a1, b1⟩ := h.on θ hs ρ hρ
    obtain ⟨θ2, s2, a2, b2⟩ := h'.on θ1 s1 ρ hρ
    refine ⟨θ2, s2, fun i hi => (a2 i (h.sub i hi)).trans (a1 i hi), fun x b e1 e2 => ?_⟩
    cases e3 : U1 lv x with
    | none => exact b2 x b e3 e2
    | some c =>
      have := h'.keep lv x c e3
      rw [this] at e2
      cases e2
      rw [a2 b (hU lv x b e3)]
      exact b1 x b e1 e3
  · by_cases h3 : X1 i
    · rw [h'.old i h3]; exact h.new i h3 h2
    · exact h'.new i h1 h3
  · cases e3 : U1 lv x with
    | none =>
      obtain ⟨p1, p2, p3⟩ := h'.leaf x b e3 e2
      exact ⟨p1, p2, fun h9 => p3 (h.sub b h9)⟩
    | some c =>
      have := h'.keep lv x c e3
      rw [this] at e2
      cases e2
      rw [h'.old b (hU lv x b e3)]
      exact h.leaf x b e1 e3
  · obtain ⟨θ1, s1, a1, b1⟩ := h.onG g l hl hg θ hs ρ hρ
    obtain ⟨θ2, s2, a2, b2⟩ := h'.onG (mixG X g (gc K1 f1)) l (fun i j e => ⟨h.sub i (hl i j e).1, h.sub j (hl i j e).2⟩) (fun i hi k hk => by
      by_cases hx : X i
      · rw [mixG_in hx] at hk; exact h.sub k (hg i hx k hk)
      · rw [mixG_out hx] at hk; exact hself1 i hi k hk) θ1 s1 ρ hρ
    refine ⟨θ2, satC_congr (fun i _ => ?_) s2, fun i hi => (a2 i (h.sub i hi)).trans (a1 i hi), fun x b e1 e2 => ?_⟩
    · by_cases hx1 : X1 i
      · rw [mixG_in hx1]
        by_cases hx : X i
        · rw [mixG_in hx, mixG_in hx]
        · rw [mixG_out hx, mixG_out hx, h'.same i hx1]
      · rw [mixG_out hx1, mixG_out (fun hx => hx1 (h.sub i hx))]
    · cases e3 : U1 lv x with
      | none => exact b2 x b e3 e2
      | some c =>
        have := h'.keep lv x c e3
        rw [this] at e2
        cases e2
        rw [a2 b (hU lv x b e3)]
        exact b1 x b e1 e3
theorem one_on {lv : Int} {ok : (Int → DT) → Prop} {X : Nat → Prop} {g g' : Nat → GC} {lk : Nat → Option Nat} {U U' : Int → Int → Option Nat} {b : Nat} (hb : ¬ X b) (hin : ∀ i j, lk i = some j → X i ∧ X j) (hsame : ∀ i, X i → g' i = g i)
    (hkid : ∀ k ∈ (g' b).ks, X k) (hself : ∀ i, X i → ∀ k ∈ (g i).ks, X k) (hval : ∀ ρ, ok ρ → ∃ v : DT, ∀ θ : Nat → DT, ((g' b).op = false → v = con (g' b).nd ((g' b).ks.map θ) ∨ (g' b).ks ≠ []) ∧ ∀ x c, U lv x = none → U' lv x = some c → c = b ∧ v = ρ x) (hnone : (g' b).ks ≠ [] → (∀ x c, U lv x = none → U' lv x = some c → False)) :
    ∀ θ, SatC X g lk θ → ∀ ρ, ok ρ → ∃ θ', SatC (fun i => X i ∨ i = b) g' lk θ' ∧ (∀ i, X i → θ' i = θ i) ∧ ∀ x c, U lv x = none → U' lv x = some c → θ' c = ρ x := by
  intro θ hs ρ hρ
  obtain ⟨v, hv⟩ := hval ρ hρ
  have hlkb : lk b = none := by
    cases e : lk b with
    | none => rfl
    | some j => exact absurd (hin b j e).1 hb
  by_cases hk : (g' b).ks = []
  · refine ⟨fun i => if i = b then v else θ i, ⟨fun i j e => ?_, fun i hi hl ho => ?_⟩, fun i hi => ?_, fun x c e1 e2 => ?_⟩
    · have n1 : i ≠ b := fun e9 => hb (e9 ▸ (hin i j e).1)
      have n2 : j ≠ b := fun e9 => hb (e9 ▸ (hin i j e).2)
      simp only [n1, n2, if_false]
      exact hs.1 i j e
    · by_cases hib : i = b
      · subst hib
        simp only [if_true]
        rcases (hv θ).1 ho with h9 | h9
        · rw [hk] at h9 ⊢
          exact h9
        · exact absurd hk h9
      · have hXi : X i := hi.resolve_right hib
        simp only [hib, if_false]
        rw [hsame i hXi] at ho ⊢
        rw [hs.2 i hXi hl ho]
        congr 1
        apply List.map_congr_left
        intro k hk'
        have : k ≠ b := fun e9 => hb (e9 ▸ hself i hXi k hk')
        simp only [this, if_false]
    · have : i ≠ b := fun e9 => hb (e9 ▸ hi)
      simp only [this, if_false]
    · obtain ⟨rfl, rfl⟩ := (hv θ).2 x c e1 e2
      simp only [if_true]
  · refine ⟨fun i => if i = b then con (g' b).nd ((g' b).ks.map θ) else θ i, ⟨fun i j e => ?_, fun i hi hl ho => ?_⟩, fun i hi => ?_, fun x c e1 e2 => (hnone hk x c e1 e2).elim⟩
    · have n1 : i ≠ b := fun e9 => hb (e9 ▸ (hin i j e).1)
      have n2 : j ≠ b := fun e9 => hb (e9 ▸ (hin i j e).2)
      simp only [n1, n2, if_false]
      exact hs.1 i j e
    · by_cases hib : i = b
      · subst hib
        simp only [if_true]
        congr 1
        apply List.map_congr_left
        intro k hk'
        have : k ≠ i := fun e9 => hb (e9 ▸ hkid k hk')
        simp only [this, if_false]
      · have hXi : X i := hi.resolve_right hib
        simp only [hib, if_false]
        rw [hsame i hXi] at ho ⊢
        rw [hs.2 i hXi hl ho]
        congr 1
        apply List.map_congr_left
        intro k hk'
        have : k ≠ b := fun e9 => hb (e9 ▸ hself i hXi k hk')
        simp only [this, if_false]
    · have : i ≠ b := fun e9 => hb (e9 ▸ hi)
      simp only [this, if_false]
theorem grow_one {lv : Int} {ok : (Int → DT) → Prop} {X : Nat → Prop} {f f' : Nat → CC} {lk : Nat → Option Nat} {K K' : (Option Addr × Nat × Nat) → List Nat} {U U' : Int → Int → Option Nat} {b : Nat} (hb : ¬ X b) (hin : ∀ i j, lk i = some j → X i ∧ X j) (hsame : ∀ i, X i → gc K' f' i = gc K f i) (hkeep : ∀ l x c, U l x = some c → U' l x = some c) (hother : ∀ l x, l ≠ lv → U' l x = U l x)
    (hkid : ∀ k ∈ (gc K' f' b).ks, X k) (hself : ∀ i, X i → ∀ k ∈ (gc K f i).ks, X k) (hval : ∀ ρ, ok ρ → ∃ v : DT, ∀ θ : Nat → DT, ((gc K' f' b).op = false → v = con (gc K' f' b).nd ((gc K' f' b).ks.map θ) ∨ (gc K' f' b).ks ≠ []) ∧ ∀ x c, U lv x = none → U' lv x = some c → c = b ∧ v = ρ x) (hnone : (gc K' f' b).ks ≠ [] → (∀ x c, U lv x = none → U' lv x = some c → False))
    (hold : ∀ i, X i → f' i = f i) (hnew : FreshC lv (f' b)) (hleaf : ∀ x c, U lv x = none → U' lv x = some c → (f' c).nd.kind = 61 ∧ (f' c).nd.num = x ∧ ¬ X c) :
    Grow lv ok X f lk K U (fun i => X i ∨ i = b) f' lk K' U' := by
  refine ⟨fun i hi => .inl hi, hsame, fun _ _ => rfl, hkeep, hother, hin, one_on hb hin hsame hkid hself hval hnone, hold, fun i h1 h2 => by rw [h1.resolve_left h2]; exact hnew, hleaf, fun g l hl hg => ?_⟩
  have e9 : mixG X g (gc K' f') b = gc K' f' b := mixG_out hb
  exact one_on (g' := mixG X g (gc K' f')) hb hl (fun i hi => mixG_in hi) (by rw [e9]; exact hkid) hg (by rw [e9]; exact hval) (by rw [e9]; exact hnone)
theorem grow_node {lv : Int} {ok : (Int → DT) → Prop} {X : Nat → Prop} {f f' : Nat → CC} {lk : Nat → Option Nat} {K K' : (Option Addr × Nat × Nat) → List Nat} {U : Int → Int → Option Nat} {b : Nat} (hb : ¬ X b) (hin : ∀ i j, lk i = some j → X i ∧ X j) (hsame : ∀ i, X i → gc K' f' i = gc K f i) (hkid : ∀ k ∈ (gc K' f' b).ks, X k) (hself : ∀ i, X i → ∀ k ∈ (gc K f i).ks, X k) (hold : ∀ i, X i → f' i = f i) (hnew : FreshC lv (f' b)) :
    Grow lv ok X f lk K U (fun i => X i ∨ i = b) f' lk K' U :=
  grow_one hb hin hsame (fun _ _ _ h => h) (fun _ _ _ => rfl) hkid hself (fun ρ _ => ⟨con (gc K' f' b).nd [], fun θ => ⟨fun _ => by
    by_cases h : (gc K' f' b).ks = []
    · left; rw [h]; rfl
    · exact .inr h, fun x c e1 e2 => by rw [e1] at e2; cases e2⟩⟩) (fun _ x c e1 e2 => by rw [e1] at e2; cases e2) hold hnew (fun x c e1 e2 => by rw [e1] at e2; cases e2)
theorem grow_leaf {lv : Int} {ok : (Int → DT) → Prop} {X : Nat → Prop} {f f' : Nat → CC} {lk : Nat → Option Nat} {K K' : (Option Addr × Nat × Nat) → List Nat} {U U' : Int → Int → Option Nat} {b : Nat} {x : Int} (hb : ¬ X b) (hin : ∀ i j, lk i = some j → X i ∧ X j) (hsame : ∀ i, X i → gc K' f' i = gc K f i) (hself : ∀ i, X i → ∀ k ∈ (gc K f i).ks, X k)
    (hU : ∀ l y, U' l y = if l = lv ∧ y = x then some b else U l y) (hUx : U lv x = none) (hks : (gc K' f' b).ks = []) (hok : ∀ ρ, ok ρ → (gc K' f' b).op = false → ρ x = con (gc K' f' b).nd []) (hold : ∀ i, X i → f' i = f i) (hnew : FreshC lv (f' b)) (hnd : (f' b).nd.kind = 61 ∧ (f' b).nd.num = x) :
    Grow lv ok X f lk K U (fun i => X i ∨ i = b) f' lk K' U' := by
  refine grow_one hb hin hsame (fun l y c e => ?_) (fun l y hl => ?_) (by rw [hks]; simp) hself (fun ρ hρ => ⟨ρ x, fun θ => ⟨fun ho => .inl (by rw [hks]; exact hok ρ hρ ho), fun y c e1 e2 => ?_⟩⟩) (fun h => absurd hks h) hold hnew (fun y c e1 e2 => ?_)
  · rw [hU]
    by_cases h : l = lv ∧ y = x
    · obtain ⟨rfl, rfl⟩ := h
      rw [hUx] at e
      cases e
    · rw [if_neg h]; exact e
  · rw [hU, if_neg (fun h => hl h.1)]
  · rw [hU] at e2
    by_cases h : y = x
    · subst h
      rw [if_pos ⟨rfl, rfl⟩] at e2
      cases e2
      exact ⟨rfl, rfl⟩
    · rw [if_neg (fun h9 => h h9.2), e1] at e2
      cases e2
  · rw [hU] at e2
    by_cases h : y = x
    · subst h
      rw [if_pos ⟨rfl, rfl⟩] at e2
      cases e2
      exact ⟨hnd.1, hnd.2, hb⟩
    · rw [if_neg (fun h9 => h h9.2), e1] at e2
      cases e2
end Go.Proofs.YtoiiibplkhedcaaGreatDoor

namespace Go.Proofs.YtoiiibplkhedcaaGreatDoor
open Go.RowKit
/-! A store that has grown was, at every time, what it was, and what is new. -/
section
variable {lv : Int} {ok : (Int → DT) → Prop} {X X' : Nat → Prop} {f f' : Nat → CC} {lk : Nat → Option Nat} {K K' : (Option Addr × Nat × Nat) → List Nat} {U U' : Int → Int → Option Nat} {now : Int}
theorem Grow.tdAt (h : Grow lv ok X f lk K U X' f' lk K' U') (t : Int) : tdAt X' f' t = tdAt X f t := by
  funext i
  by_cases hx : X i
  · have e := h.old i hx
    cases e2 : Go.Proofs.YtoiiibplkhedcaaGreatDoor.tdAt X f t i with
    | none =>
      rw [tdAt_none] at e2 ⊢
      intro _ h2
      rw [e] at h2 ⊢
      exact e2 hx h2
    | some j =>
      rw [tdAt_some] at e2 ⊢
      rw [e]
      exact ⟨h.sub i hx, e2.2⟩
  · have e2 : Go.Proofs.YtoiiibplkhedcaaGreatDoor.tdAt X f t i = none := tdAt_none.2 (fun h9 => absurd h9 hx)
    rw [e2, tdAt_none]
    intro h1 _
    exact (h.new i h1 hx).1
theorem Grow.gcAt_old (h : Grow lv ok X f lk K U X' f' lk K' U') (t : Int) {i : Nat} (hi : X i) : gcAt K' f' t i = gcAt K f t i := by
  have e := h.old i hi
  have e2 := congrArg GC.ks (h.same i hi)
  simp only [gc, e] at e2
  simp only [gcAt, e, e2]
theorem Grow.gcAt_new (h : Grow lv ok X f lk K U X' f' lk K' U') {t : Int} (ht : 0 ≤ t) {i : Nat} (hi : X' i) (hn : ¬ X i) : gcAt K' f' t i = gc K' f' i := by
  have e := (h.new i hi hn).2.1
  unfold gcAt gc
  rw [e, decide_eq_false (by omega), Bool.false_or]
theorem Grow.backAt (h : Grow lv ok X f lk K U X' f' lk K' U') {t : Int} {θ : Nat → DT} (hs : SatC X' (gcAt K' f' t) (Go.Proofs.YtoiiibplkhedcaaGreatDoor.tdAt X' f' t) θ) : SatC X (gcAt K f t) (Go.Proofs.YtoiiibplkhedcaaGreatDoor.tdAt X f t) θ := by
  rw [h.tdAt t] at hs
  refine ⟨hs.1, fun i hi hl ho => ?_⟩
  have h9 := hs.2 i (h.sub i hi) hl (by rw [h.gcAt_old t hi]; exact ho)
  rw [h.gcAt_old t hi] at h9
  exact h9
theorem Grow.onAt (h : Grow lv ok X f lk K U X' f' lk K' U') {t : Int} (ht : 0 ≤ t) (hX : ∀ b j, X b → (f b).td = some j → X j) (hself : ∀ i, X i → ∀ k ∈ K (f i).ks, X k) {θ : Nat → DT} (hs : SatC X (gcAt K f t) (Go.Proofs.YtoiiibplkhedcaaGreatDoor.tdAt X f t) θ) (ρ : Int → DT) (hρ : ok ρ) : ∃ θ', SatC X' (gcAt K' f' t) (Go.Proofs.YtoiiibplkhedcaaGreatDoor.tdAt X' f' t) θ' ∧ (∀ i, X i → θ' i = θ i) ∧ ∀ x b, U lv x = none → U' lv x = some b → θ' b = ρ x := by
  obtain ⟨θ', s1, s2, s3⟩ := h.onG (gcAt K f t) (Go.Proofs.YtoiiibplkhedcaaGreatDoor.tdAt X f t) (fun i j e => by rw [tdAt_some] at e; exact ⟨e.1, hX i j e.1 e.2.2⟩) hself θ hs ρ hρ
  refine ⟨θ', ?_, s2, s3⟩
  rw [h.tdAt t]
  refine satC_congr (fun i hi => ?_) s1
  by_cases hx : X i
  · rw [mixG_in hx, h.gcAt_old t hx]
  · rw [mixG_out hx, h.gcAt_new ht hi hx]
theorem Grow.hist (h : Grow 1 ok X f lk K U X' f' lk K' U') (H : Hist X f lk now) : Hist X' f' lk now := by
  have e := h.tdAt now
  refine ⟨H.now0, by rw [e]; exact H.hd, by rw [e]; exact H.acyc, fun b j hb hj => ?_, fun b j hb hj => ?_, fun b hb => ?_, fun b hb hk => ?_⟩
  all_goals by_cases hx : X b
  · rw [h.old b hx] at hj; exact h.sub j (H.inX b j hx hj)
  · rw [(h.new b hb hx).1] at hj; cases hj
  · rw [h.old b hx] at hj ⊢; exact H.si b j hx hj
  · rw [(h.new b hb hx).1] at hj; cases hj
  · rw [h.old b hx]; exact H.told b hx
  · rw [(h.new b hb hx).2.1]; exact ⟨Int.le_refl _, H.now0⟩
  · rw [h.old b hx] at hk ⊢; exact H.open' b hx hk
  · exact (h.new b hb hx).2.2.2 hk
theorem Hist.later (H : Hist X f lk now) {now' : Int} (hn : now ≤ now') : Hist X f lk now' := by
  have e : Go.Proofs.YtoiiibplkhedcaaGreatDoor.tdAt X f now' = Go.Proofs.YtoiiibplkhedcaaGreatDoor.tdAt X f now := by
    funext i
    cases e2 : Go.Proofs.YtoiiibplkhedcaaGreatDoor.tdAt X f now i with
    | none =>
      rw [tdAt_none] at e2 ⊢
      intro h1 _
      cases e3 : (f i).td with
      | none => rfl
      | some j =>
        have h9 := e2 h1 (H.si i j h1 e3)
        rw [e3] at h9
        cases h9
    | some j =>
      rw [tdAt_some] at e2 ⊢
      exact ⟨e2.1, by omega, e2.2.2⟩
  exact ⟨by have := H.now0; omega, by rw [e]; exact H.hd, by rw [e]; exact H.acyc, H.inX, fun b j hb hj => by have := H.si b j hb hj; omega, fun b hb => by have := H.told b hb; omega, H.open'⟩
theorem hd_inX (hin : ∀ i j, lk i = some j → X i ∧ X j) {i r : Nat} (hr : Hd lk i r) (hi : X i) : X r := by
  induction hr with
  | root _ => exact hi
  | step h1 _ ih => exact ih (hin _ _ h1).2
theorem Grow.num (h : Grow 1 ok X f lk K U X' f' lk K' U') (hU : NumOk X (U 1) f lk) (hUX : ∀ x b, U 1 x = some b → X b) (hU' : ∀ i, X' i → ¬ X i → (f' i).nd.kind = 61 → U' 1 (f' i).nd.num = some i) : NumOk X' (U' 1) f' lk := by
  have hlX : ∀ i, ¬ X i → lk i = none := by
    intro i hx
    cases e : lk i with
    | none => rfl
    | some j => exact absurd (h.inX i j e).1 hx
  refine ⟨fun x b r hu hr ho => ?_, fun r hX hl ho => ?_⟩
  · cases e : U 1 x with
    | some c =>
      have h1 := h.keep 1 x c e
      rw [h1] at hu
      cases hu
      have hXr : X r := hd_inX h.inX hr (hUX x b e)
      rw [h.old r hXr] at ho ⊢
      exact hU.low x b r e hr ho
    | none =>
      obtain ⟨p1, p2, p3⟩ := h.leaf x b e hu
      have hrb : r = b := hr.fun (.root (hlX b p3))
      subst hrb
      omega
  · by_cases hx : X r
    · rw [h.old r hx] at ho ⊢
      obtain ⟨c, c1, c2⟩ := hU.has r hx hl ho
      exact ⟨c, h.keep 1 _ c c1, c2⟩
    · have hk : (f' r).nd.kind = 61 := by
        unfold CC.open? at ho
        simp only [Bool.and_eq_true, beq_iff_eq] at ho
        exact ho.1
      exact ⟨r, hU' r hX hx hk, .root (hlX r hx)⟩
end
end Go.Proofs.YtoiiibplkhedcaaGreatDoor

namespace Go.Proofs.YtoiiibplkhedcaaGreatDoor
open Go.RowKit
theorem ptr_some (j : Nat) : ptr (some j) = .pointer (some ⟨j, 0, none⟩) := rfl
theorem ptr_none : ptr none = .pointer none := rfl
set_option maxRecDepth 20000 in
set_option maxHeartbeats 2000000 in
theorem headAt_any (X : Nat → Prop) (f : Nat → CC) (lk : Nat → Option Nat) (t : Int) (d : Nat → Nat) (HA : Hid (Acyc (tdAt X f t) d)) (HI : Hid (∀ b j, X b → (f b).td = some j → X j)) (w : World) (hC : Cells w X f lk) (b r : Nat) (hX : X b) (hr : Hd (tdAt X f t) b r) :
    Calls Tryz.prog 126 #[.pointer (some ⟨b, 0, none⟩), .int .i64 t] w fun e w' => e = .returned (.pointer (some ⟨r, 0, none⟩)) ∧ w' = w := by
  go_enter Tryz.func126, Tryz.ntmps126
  go_wp2
  go_loopw [0] (fun v wr => ∃ (k : Nat), X k ∧ v = .pointer (some ⟨k, 0, none⟩) ∧ Hd (tdAt X f t) k r ∧ wr = w) (fun v _ => d (blk v))
  case atStart => exact ⟨b, hX, rfl, hr, rfl⟩
  case round =>
    obtain ⟨k, hk, rfl, hrt, rfl⟩ := hrel
    obtain ⟨_, _, _, _, _, _, _, _, _, _, _, c11, c12, _⟩ := (hC.at' k hk).cell
    cases htd : (f k).td with
    | none =>
      have e : k = r := by
        cases hrt with
        | root _ => rfl
        | step h1 _ => rw [tdAt_some, htd] at h1; cases h1.2.2
      subst e
      rw [htd, ptr_none] at c11
      clear hrt hr htd
      go_wp2
      go_ret
      exact ⟨rfl, rfl⟩
    | some j =>
      rw [htd, ptr_some] at c11
      by_cases hsi : (f k).si ≤ t
      · have tsi : decide ((f k).si ≤ t) = true := decide_eq_true hsi
        have e9 : tdAt X f t k = some j := tdAt_some.2 ⟨hk, hsi, htd⟩
        have hj := HI.out k j hk htd
        have hrj : Hd (tdAt X f t) j r := by
          cases hrt with
          | root h1 => rw [e9] at h1; cases h1
          | step h1 h2 => rw [e9] at h1; cases h1; exact h2
        have hdj := HA.out k j e9
        clear hrt hr htd e9
        go_wp2
        go_roundw
        case rel => exact ⟨j, hj, rfl, hrj, trivial⟩
        case measure => simpa [blk] using hdj
      · have tsi : decide ((f k).si ≤ t) = false := decide_eq_false hsi
        have e : k = r := by
          cases hrt with
          | root _ => rfl
          | step h1 _ => rw [tdAt_some] at h1; exact absurd h1.2.1 hsi
        subst e
        clear hrt hr htd
        go_wp2
        go_ret
        exact ⟨rfl, rfl⟩
end Go.Proofs.YtoiiibplkhedcaaGreatDoor

namespace Go.Proofs.YtoiiibplkhedcaaGreatDoor
/-! A walk that goes down first: what it is in is a path, what it has left leads to no circle. -/
def Down (kids : Nat → List Nat) (hf : Nat → Nat) (a b : Nat) : Prop := ∃ k ∈ kids a, hf k = b
inductive Downs (kids : Nat → List Nat) (hf : Nat → Nat) : Nat → Nat → Prop
  | one {a b : Nat} : Down kids hf a b → Downs kids hf a b
  | more {a b c : Nat} : Down kids hf a b → Downs kids hf b c → Downs kids hf a c
theorem Downs.snoc {kids : Nat → List Nat} {hf : Nat → Nat} {a b c : Nat} (h : Downs kids hf a b) (h2 : Down kids hf b c) : Downs kids hf a c := by
  induction h with
  | one h1 => exact .more h1 (.one h2)
  | more h1 _ ih => exact .more h1 (ih h2)
def PathOk (kids : Nat → List Nat) (hf : Nat → Nat) (Lf : Nat → Prop) : Option Nat → List (Nat × List Nat) → Prop
  | _, [] => True
  | nx, (h, rest) :: p => (∃ done, kids h = done ++ rest ∧ (∀ k ∈ done, Lf (hf k) ∨ nx = some (hf k)) ∧ ∀ x, nx = some x → ∃ k ∈ done, hf k = x) ∧ PathOk kids hf Lf (some h) p
structure LeftOk (kids : Nat → List Nat) (hf : Nat → Nat) (Lf : Nat → Prop) (rk : Nat → Nat) : Prop where
  down : ∀ h, Lf h → ∀ k ∈ kids h, Lf (hf k) ∧ rk (hf k) < rk h
section
variable {kids : Nat → List Nat} {hf : Nat → Nat} {Lf : Nat → Prop}
theorem PathOk.push {h k : Nat} {rest : List Nat} {p : List (Nat × List Nat)} (H : PathOk kids hf Lf none ((h, k :: rest) :: p)) : PathOk kids hf Lf none ((hf k, kids (hf k)) :: (h, rest) :: p) := by
  obtain ⟨⟨done, h1, h2, _⟩, h4⟩ := H
  refine ⟨⟨[], rfl, by simp, (fun x e => by cases e)⟩, ⟨done ++ [k], by simp [h1], fun j hj => ?_, fun x e => ?_⟩, h4⟩
  · rcases List.mem_append.1 hj with hj | hj
    · rcases h2 j hj with h9 | h9
      · exact .inl h9
      · cases h9
    · simp only [List.mem_singleton] at hj
      subst hj
      exact .inr rfl
  · simp only [Option.some.injEq] at e
    exact ⟨k, by simp, e⟩
theorem PathOk.skip {h k : Nat} {rest : List Nat} {p : List (Nat × List Nat)} (H : PathOk kids hf Lf none ((h, k :: rest) :: p)) (hk : Lf (hf k)) : PathOk kids hf Lf none ((h, rest) :: p) := by
  obtain ⟨⟨done, h1, h2, _⟩, h4⟩ := H
  refine ⟨⟨done ++ [k], by simp [h1], fun j hj => ?_, (fun x e => by cases e)⟩, h4⟩
  rcases List.mem_append.1 hj with hj | hj
  · exact h2 j hj
  · simp only [List.mem_singleton] at hj
    subst hj
    exact .inl hk
theorem PathOk.mono {Lf' : Nat → Prop} (hL : ∀ x, Lf x → Lf' x) : ∀ {p : List (Nat × List Nat)} {nx : Option Nat}, PathOk kids hf Lf nx p → PathOk kids hf Lf' nx p := by
  intro p
  induction p with
  | nil => exact fun _ => trivial
  | cons a p ih =>
    intro nx H
    obtain ⟨⟨done, h1, h2, h3⟩, h4⟩ := H
    exact ⟨⟨done, h1, fun k hk => (h2 k hk).imp (hL _) id, h3⟩, ih h4⟩
theorem PathOk.pop {h : Nat} {p : List (Nat × List Nat)} (H : PathOk kids hf Lf none ((h, []) :: p)) : PathOk kids hf (fun x => Lf x ∨ x = h) none p := by
  obtain ⟨_, h4⟩ := H
  cases p with
  | nil => trivial
  | cons a p =>
    obtain ⟨⟨done, h1, h2, h3⟩, h5⟩ := h4
    refine ⟨⟨done, h1, fun k hk => .inl ?_, (fun x e => by cases e)⟩, h5.mono (fun x hx => .inl hx)⟩
    rcases h2 k hk with h9 | h9
    · exact .inl h9
    · simp only [Option.some.injEq] at h9
      exact .inr h9.symm
theorem sum_mem (r : Nat → Nat) {l : List Nat} {k : Nat} (h : k ∈ l) : r k ≤ (l.map r).sum := by
  induction l with
  | nil => simp at h
  | cons a l ih =>
    simp only [List.map_cons, List.sum_cons]
    rcases List.mem_cons.1 h with rfl | h
    · omega
    · have := ih h
      omega
theorem LeftOk.pop {rk : Nat → Nat} (L : LeftOk kids hf Lf rk) {h : Nat} {p : List (Nat × List Nat)} (H : PathOk kids hf Lf none ((h, []) :: p)) (hn : ¬ Lf h) : ∃ rk', LeftOk kids hf (fun x => Lf x ∨ x = h) rk' := by
  obtain ⟨⟨done, h1, h2, _⟩, _⟩ := H
  rw [List.append_nil] at h1
  have hall : ∀ k ∈ kids h, Lf (hf k) := by
    intro k hk
    rw [h1] at hk
    rcases h2 k hk with h9 | h9
    · exact h9
    · cases h9
  refine ⟨fun x => if x = h then 1 + ((kids h).map (fun k => rk (hf k))).sum else rk x, ⟨fun x hx k hk => ?_⟩⟩
  rcases hx with hx | rfl
  · obtain ⟨a1, a2⟩ := L.down x hx k hk
    have n1 : x ≠ h := fun e => hn (e ▸ hx)
    have n2 : hf k ≠ h := fun e => hn (e ▸ a1)
    simp only [n1, n2, if_false]
    exact ⟨.inl a1, a2⟩
  · have a1 := hall k hk
    have n2 : hf k ≠ x := fun e => hn (e ▸ a1)
    simp only [n2, if_false, if_true]
    have := sum_mem (fun k => rk (hf k)) hk
    exact ⟨.inl a1, by omega⟩
theorem PathOk.downs : ∀ {p : List (Nat × List Nat)} {h : Nat}, PathOk kids hf Lf (some h) p → ∀ x ∈ p.map Prod.fst, Downs kids hf x h := by
  intro p
  induction p with
  | nil => intro h _ x hx; simp at hx
  | cons a p ih =>
    intro h H x hx
    obtain ⟨⟨done, h1, _, h3⟩, h4⟩ := H
    obtain ⟨k, hk, e⟩ := h3 h rfl
    have hd : Down kids hf a.1 h := ⟨k, by rw [h1]; exact List.mem_append_left _ hk, e⟩
    rw [List.map_cons, List.mem_cons] at hx
    rcases hx with rfl | hx
    · exact .one hd
    · exact (ih h4 x hx).snoc hd
theorem PathOk.circle {h k : Nat} {rest : List Nat} {p : List (Nat × List Nat)} (H : PathOk kids hf Lf none ((h, k :: rest) :: p)) (hk : hf k = h ∨ hf k ∈ p.map Prod.fst) : Downs kids hf (hf k) (hf k) := by
  obtain ⟨⟨done, h1, _, _⟩, h4⟩ := H
  have hd : Down kids hf h (hf k) := ⟨k, by rw [h1]; simp, rfl⟩
  rcases hk with e | hx
  · rw [e] at hd ⊢
    exact .one hd
  · exact (h4.downs _ hx).snoc hd
theorem PathOk.reach {h k r : Nat} {rest : List Nat} {p : List (Nat × List Nat)} (H : PathOk kids hf Lf none ((h, k :: rest) :: p)) (hr : r = h ∨ r ∈ p.map Prod.fst) : Downs kids hf r (hf k) := by
  obtain ⟨⟨done, h1, _, _⟩, h4⟩ := H
  have hd : Down kids hf h (hf k) := ⟨k, by rw [h1]; simp, rfl⟩
  rcases hr with e | hx
  · rw [e]
    exact .one hd
  · exact (h4.downs _ hx).snoc hd
end
end Go.Proofs.YtoiiibplkhedcaaGreatDoor

namespace Go.Proofs.YtoiiibplkhedcaaGreatDoor
open Go.RowKit
/-! What a store says of the pairs that it has taken in, at every time. -/
def Holds (σ : Nd → DT) (p : List Nd × List Nd) : Prop := ∃ d, Ev σ p.1 d ∧ Ev σ p.2 d
theorem Holds.congr {σ σ' : Nd → DT} {p : List Nd × List Nd} (h : Holds σ p) (hσ : ∀ n, n ∈ p.1 ∨ n ∈ p.2 → n.kind = 61 → σ n = σ' n) : Holds σ' p := by
  obtain ⟨d, h1, h2⟩ := h
  exact ⟨d, h1.congr fun n hn hk => hσ n (.inl hn) hk, h2.congr fun n hn hk => hσ n (.inr hn) hk⟩
section
variable {ps : List (List Nd × List Nd)} {k : Nat} {ok : (Int → DT) → Prop} {X X' : Nat → Prop} {f f' : Nat → CC} {lk lk' : Nat → Option Nat} {K K' : (Option Addr × Nat × Nat) → List Nat} {U U' : Int → Int → Option Nat}
structure TimeM (ps : List (List Nd × List Nd)) (k : Nat) (X : Nat → Prop) (f : Nat → CC) (K : (Option Addr × Nat × Nat) → List Nat) (U : Int → Int → Option Nat) : Prop where
  known : ∀ i (h : i < ps.length), i < k → ∀ n, n ∈ ps[i].1 ∨ n ∈ ps[i].2 → n.kind = 61 → ∃ b, U 1 n.num = some b
  inX : ∀ x b, U 1 x = some b → X b
  sound : ∀ t : Nat, t < k → ∀ θ, SatC X (gcAt K f t) (tdAt X f t) θ → ∀ i (h : i < ps.length), i ≤ t → Holds (sg U 1 θ) ps[i]
  full : ∀ t : Nat, t < k → ∀ ρ : Int → DT, (∀ i (h : i < ps.length), i ≤ t → Holds (fun n => ρ n.num) ps[i]) → ∃ θ, SatC X (gcAt K f t) (tdAt X f t) θ ∧ ∀ x b, U 1 x = some b → θ b = ρ x
structure LoopM (ps : List (List Nd × List Nd)) (k : Nat) (X : Nat → Prop) (f : Nat → CC) (lk : Nat → Option Nat) (K : (Option Addr × Nat × Nat) → List Nat) (U : Int → Int → Option Nat) : Prop where
  times : TimeM ps k X f K U
  csound : ∀ θ, SatC X (gc K f) lk θ → ∀ i (h : i < ps.length), i < k → Holds (sg U 1 θ) ps[i]
  cur : ∀ ρ : Int → DT, (∀ i (h : i < ps.length), i < k → Holds (fun n => ρ n.num) ps[i]) → ∃ θ, SatC X (gc K f) lk θ ∧ ∀ x b, U 1 x = some b → θ b = ρ x
theorem sg_keepL (hk : ∀ l x b, U l x = some b → U' l x = some b) (θ : Nat → DT) {n : Nd} (hn : ∃ b, U 1 n.num = some b) : sg U 1 θ n = sg U' 1 θ n := by
  obtain ⟨b, hb⟩ := hn
  unfold sg
  rw [hb, hk 1 _ b hb]
theorem sg_of {θ : Nat → DT} {ρ : Int → DT} (h : ∀ x b, U 1 x = some b → θ b = ρ x) {n : Nd} (hn : ∃ b, U 1 n.num = some b) : sg U 1 θ n = ρ n.num := by
  obtain ⟨b, hb⟩ := hn
  unfold sg
  rw [hb]
  exact h _ b hb
theorem grow_read (h : Grow 1 ok X f lk K U X' f' lk K' U') (hin : ∀ x b, U 1 x = some b → X b) {θ θ' : Nat → DT} {ρ : Int → DT} (h1 : ∀ x b, U 1 x = some b → θ b = ρ x) (s2 : ∀ i, X i → θ' i = θ i) (s3 : ∀ x b, U 1 x = none → U' 1 x = some b → θ' b = ρ x) (x : Int) (b : Nat) (hb : U' 1 x = some b) : θ' b = ρ x := by
  cases e : U 1 x with
  | some c =>
    have h9 := h.keep 1 x c e
    rw [h9] at hb
    cases hb
    rw [s2 b (hin x b e)]
    exact h1 x b e
  | none => exact s3 x b e hb
theorem TimeM.grow (M : TimeM ps k X f K U) (h : Grow 1 ok X f lk K U X' f' lk K' U') (hok : ∀ ρ, ok ρ) (hX : ∀ b j, X b → (f b).td = some j → X j) (hself : ∀ i, X i → ∀ k ∈ K (f i).ks, X k) (hin : ∀ x b, U' 1 x = some b → X' b) : TimeM ps k X' f' K' U' := by
  refine ⟨fun i hi hk n hn h61 => ?_, hin, fun t ht θ hs i hi hit => ?_, fun t ht ρ hρ => ?_⟩
  · obtain ⟨b, hb⟩ := M.known i hi hk n hn h61
    exact ⟨b, h.keep 1 _ b hb⟩
  · exact (M.sound t ht θ (h.backAt hs) i hi hit).congr fun n hn h61 => sg_keepL h.keep θ (M.known i hi (by omega) n hn h61)
  · obtain ⟨θ, h1, h2⟩ := M.full t ht ρ hρ
    obtain ⟨θ', s1, s2, s3⟩ := h.onAt (by omega) hX hself h1 ρ (hok ρ)
    exact ⟨θ', s1, grow_read h M.inX h2 s2 s3⟩
theorem LoopM.grow (M : LoopM ps k X f lk K U) (h : Grow 1 ok X f lk K U X' f' lk K' U') (hok : ∀ ρ, ok ρ) (hX : ∀ b j, X b → (f b).td = some j → X j) (hself : ∀ i, X i → ∀ k ∈ K (f i).ks, X k) (hin : ∀ x b, U' 1 x = some b → X' b) : LoopM ps k X' f' lk K' U' := by
  refine ⟨M.times.grow h hok hX hself hin, fun θ hs i hi hik => ?_, fun ρ hρ => ?_⟩
  · exact (M.csound θ (h.back hs) i hi hik).congr fun n hn h61 => sg_keepL h.keep θ (M.times.known i hi hik n hn h61)
  · obtain ⟨θ, h1, h2⟩ := M.cur ρ hρ
    obtain ⟨θ', s1, s2, s3⟩ := h.on θ h1 ρ (hok ρ)
    exact ⟨θ', s1, grow_read h M.times.inX h2 s2 s3⟩
theorem TimeM.ties (M : TimeM ps k X f K U) (hT : Ties X (k : Int) f lk f' lk') (H : Hist X f lk (k : Int)) : TimeM ps k X f' K U := by
  have h9 := (hT.hist H).2 K
  refine ⟨M.known, M.inX, fun t ht θ hs => M.sound t ht θ ((h9 t θ (by omega)).1 hs), fun t ht ρ hρ => ?_⟩
  obtain ⟨θ, h1, h2⟩ := M.full t ht ρ hρ
  exact ⟨θ, (h9 t θ (by omega)).2 h1, h2⟩
theorem LoopM.next (M : LoopM ps k X f lk K U) (H : Hist X f lk (k : Int)) (hk : k < ps.length) (hkn : ∀ n, n ∈ ps[k].1 ∨ n ∈ ps[k].2 → n.kind = 61 → ∃ b, U 1 n.num = some b) {a b : Nat} (hA : ∀ θ, SatC X (gc K f) lk θ → Ev (sg U 1 θ) ps[k].1 (θ a)) (hB : ∀ θ, SatC X (gc K f) lk θ → Ev (sg U 1 θ) ps[k].2 (θ b))
    (hT : Ties X (k : Int) f lk f' lk') {d' : Nat → Nat} (hd : Acyc lk' d') (hiff : ∀ θ, SatC X (gc K f') lk' θ ↔ SatC X (gc K f) lk θ ∧ θ a = θ b) : LoopM ps (k + 1) X f' lk' K U := by
  have T := M.times.ties hT H
  have H' := (hT.hist H).1
  have hnow := H'.satNow K hd
  have hcs : ∀ θ, SatC X (gc K f') lk' θ → ∀ i (h : i < ps.length), i < k + 1 → Holds (sg U 1 θ) ps[i] := by
    intro θ hs i hi hik
    obtain ⟨h1, h2⟩ := (hiff θ).1 hs
    by_cases e : i < k
    · exact M.csound θ h1 i hi e
    · have e2 : i = k := by omega
      subst e2
      have hb := hB θ h1
      rw [← h2] at hb
      exact ⟨θ a, hA θ h1, hb⟩
  have hcu : ∀ ρ : Int → DT, (∀ i (h : i < ps.length), i < k + 1 → Holds (fun n => ρ n.num) ps[i]) → ∃ θ, SatC X (gc K f') lk' θ ∧ ∀ x b, U 1 x = some b → θ b = ρ x := by
    intro ρ hρ
    obtain ⟨θ, h1, h2⟩ := M.cur ρ fun i hi hik => hρ i hi (by omega)
    refine ⟨θ, (hiff θ).2 ⟨h1, ?_⟩, h2⟩
    obtain ⟨d, e1, e2⟩ := (hρ k hk (by omega)).congr (σ' := sg U 1 θ) fun n hn h61 => (sg_of h2 (hkn n hn h61)).symm
    rw [(hA θ h1).fun e1, (hB θ h1).fun e2]
  refine ⟨⟨fun i hi hik n hn h61 => ?_, M.times.inX, fun t ht θ hs i hi hit => ?_, fun t ht ρ hρ => ?_⟩, hcs, hcu⟩
  · by_cases e : i < k
    · exact M.times.known i hi e n hn h61
    · have e2 : i = k := by omega
      subst e2
      exact hkn n hn h61
  · by_cases e : t < k
    · exact T.sound t e θ hs i hi hit
    · have e2 : t = k := by omega
      subst e2
      exact hcs θ ((hnow θ).1 hs) i hi (by omega)
  · by_cases e : t < k
    · exact T.full t e ρ hρ
    · have e2 : t = k := by omega
      subst e2
      obtain ⟨θ, h1, h2⟩ := hcu ρ fun i hi hik => hρ i hi (by omega)
      exact ⟨θ, (hnow θ).2 h1, h2⟩
theorem LoopM.no (M : LoopM ps k X f lk K U) (hk : k < ps.length) (hkn : ∀ n, n ∈ ps[k].1 ∨ n ∈ ps[k].2 → n.kind = 61 → ∃ b, U 1 n.num = some b) {a b : Nat} (hA : ∀ θ, SatC X (gc K f) lk θ → Ev (sg U 1 θ) ps[k].1 (θ a)) (hB : ∀ θ, SatC X (gc K f) lk θ → Ev (sg U 1 θ) ps[k].2 (θ b))
    (hno : ∀ θ, SatC X (gc K f) lk θ → θ a ≠ θ b) (ρ : Int → DT) (hρ : ∀ i (h : i < ps.length), i ≤ k → Holds (fun n => ρ n.num) ps[i]) : False := by
  obtain ⟨θ, h1, h2⟩ := M.cur ρ fun i hi hik => hρ i hi (by omega)
  obtain ⟨d, e1, e2⟩ := (hρ k hk (by omega)).congr (σ' := sg U 1 θ) fun n hn h61 => (sg_of h2 (hkn n hn h61)).symm
  exact hno θ h1 (by rw [(hA θ h1).fun e1, (hB θ h1).fun e2])
theorem LoopM.start (hX : ∀ i, ¬ X i) (hl : ∀ i, lk i = none) (hU : ∀ x, U 1 x = none) : LoopM ps 0 X f lk K U := by
  have hU' : ∀ {x : Int} {b : Nat} {P : Prop}, U 1 x = some b → P := by
    intro x b P h
    rw [hU] at h
    cases h
  refine ⟨⟨?_, ?_, ?_, ?_⟩, ?_, ?_⟩
  · intro i _ h
    omega
  · intro x b h
    exact hU' h
  · intro t h
    omega
  · intro t h
    omega
  · intro θ _ i _ h
    omega
  · intro ρ _
    refine ⟨fun _ _ => none, ⟨?_, ?_⟩, fun x b h => hU' h⟩
    · exact fun i j h => absurd ((hl i).symm.trans h) nofun
    · exact fun i h => absurd h (hX i)
end
end Go.Proofs.YtoiiibplkhedcaaGreatDoor

namespace Go.Proofs.YtoiiibplkhedcaaGreatDoor
open Go.RowKit
/-! A term as it is written, whatever its nodes are: what stands at each place. -/
inductive Ot : List Nd → DT → Prop
  | node (n : Nd) (xss : List (List Nd)) (ds : List DT) (hn : n.kids = (ds.length : Int)) (hl : ds.length = xss.length) (h : ∀ i (h1 : i < xss.length) (h2 : i < ds.length), Ot xss[i] ds[i]) : Ot (xss.flatten ++ [n]) (con n ds)
theorem Ot.last {xs : List Nd} {d : DT} (h : Ot xs d) : ∃ (n : Nd) (xss : List (List Nd)) (ds : List DT), n.kids = (ds.length : Int) ∧ ds.length = xss.length ∧ (∀ i (h1 : i < xss.length) (h2 : i < ds.length), Ot xss[i] ds[i]) ∧ xs = xss.flatten ++ [n] ∧ d = con n ds := by
  cases h with
  | node n xss ds hn hl h => exact ⟨n, xss, ds, hn, hl, h, rfl, rfl⟩
theorem Ot.one {xs : List Nd} {d : DT} (h : Ot xs d) : One xs := by
  induction h with
  | node n xss ds hn hl h ih =>
    refine One.join (fun x hx => ?_) (by rw [hn, hl])
    obtain ⟨i, hi, rfl⟩ := List.getElem_of_mem hx
    exact ih i hi (by omega)
theorem ot_ones {xss : List (List Nd)} {ds : List DT} (hl : ds.length = xss.length) (h : ∀ i (h1 : i < xss.length) (h2 : i < ds.length), Ot xss[i] ds[i]) : ∀ x ∈ xss, One x := by
  intro x hx
  obtain ⟨i, hi, rfl⟩ := List.getElem_of_mem hx
  exact (h i hi (by omega)).one
theorem Ot.fun {xs : List Nd} {d : DT} (h : Ot xs d) : ∀ {d' : DT}, Ot xs d' → d = d' := by
  induction h with
  | node n xss ds hn hl h ih =>
    intro d' h'
    obtain ⟨m, yss, es, hn', hl', h2, e, rfl⟩ := h'.last
    obtain ⟨e1, e2⟩ := List.append_inj' e rfl
    simp at e2
    subst e2
    have e3 := ones_same (ot_ones hl h) (ot_ones hl' h2) e1
    subst e3
    have : ds = es := by
      apply List.ext_getElem (by omega)
      intro i h3 h4
      exact ih i (by omega) h3 (h2 i (by omega) h4)
    rw [this]
theorem Ot.fin {xs : List Nd} {d : DT} (h : Ot xs d) : Fin' d xs := by
  induction h with
  | node n xss ds hn hl h ih => exact .mk n ds xss hl fun i h1 h2 => ih i h2 h1
theorem ot_span {t : List Nd} {S ys : List Sp} {n : Nat} (h : after t n = some (S, ys)) : ∀ i, i < n → ∀ s, ys[i]? = some s → ∃ d, Ot (span t s.fr i) d := by
  intro i
  induction i using Nat.strongRecOn with
  | ind i ih =>
    intro hi s hs
    have hle := after_le h
    have hit : i < t.length := by omega
    obtain ⟨K, hK, hsp, hO⟩ := span_kids h hi hs hit
    obtain ⟨_, hn⟩ := hK.num
    rw [hsp]
    have hk : ∀ r, ∃ d, ∀ hr : r < K.length, Ot (span t K[r].fr K[r].rt) d := by
      intro r
      by_cases hr : r < K.length
      · have hm := hK.mem r hr
        obtain ⟨d, hd⟩ := ih K[r].rt hm.2.2 (by omega) K[r] hm.1
        exact ⟨d, fun _ => hd⟩
      · exact ⟨fun _ => none, fun h => absurd h hr⟩
    obtain ⟨F, hF⟩ := Classical.axiomOfChoice hk
    refine ⟨con t[i] ((List.range K.length).map F), Ot.node t[i] (kidsIn t K) _ (by simpa using hn) (by simp [kidsIn]) (fun r h1 h2 => ?_)⟩
    have hr : r < K.length := by simpa using h2
    simp only [kidsIn, List.getElem_map, List.getElem_range]
    exact hF r hr
theorem ot_of {t : List Nd} (h : One t) : ∃ d, Ot t d := by
  have hne := List.length_pos_iff.2 h.ne
  obtain ⟨s, ys, hA⟩ := h
  have hf := after_fine hA
  have hc := hf.chain.2.2.1 (by simp)
  simp only [List.getElem_cons_zero, List.length_cons, List.length_nil, Nat.zero_add, Nat.sub_self] at hc
  have hm := hf.mem 0 (by simp)
  simp only [List.getElem_cons_zero] at hm
  have hrt : s.rt = t.length - 1 := by omega
  rw [hrt] at hm
  have hsp : span t s.fr (t.length - 1) = t := by
    unfold span
    rw [hc.1, List.drop_zero, List.take_of_length_le (by omega)]
  obtain ⟨d, hd⟩ := ot_span hA (t.length - 1) (by omega) s hm
  rw [hsp] at hd
  exact ⟨d, hd⟩
theorem Ev.written {σ : Nd → DT} {g : List Nd} {d : DT} (h : Ev σ g d) {ρ : Int → List Nd} (hρ : ∀ n ∈ g, n.kind = 61 → Ot (ρ n.num) (σ n)) : Ot (fill ρ g) d := by
  induction h with
  | leaf n hk h0 =>
    have h1 := hρ n (by simp) hk
    simp only [fill, fillN, List.flatMap_cons, List.flatMap_nil, hk, if_true, List.append_nil]
    exact h1
  | node n hk xss ds hn hl h ih =>
    rw [fill_append, fill_flatten]
    have e3 : fill ρ [n] = [n] := by simp [fill, fillN, hk]
    rw [e3]
    refine Ot.node n _ ds hn (by simp [hl]) (fun i h1 h2 => ?_)
    simp only [List.getElem_map]
    have hi : i < xss.length := by simpa using h1
    exact ih i hi h2 (fun m hm hm61 => hρ m (List.mem_append_left _ (List.mem_flatten.2 ⟨_, List.getElem_mem hi, hm⟩)) hm61)
theorem Ot.same {xs ys : List Nd} {d : DT} (h : Ot xs d) (h' : Ot ys d) : xs = ys := h.fin.one h'.fin
theorem holds_of {g g' : List Nd} {ρ : Int → List Nd} {σ : Nd → DT} (hσ : ∀ n, Ot (ρ n.num) (σ n)) {d d' : DT} (h : Ev σ g d) (h' : Ev σ g' d') (e : fill ρ g = fill ρ g') : Holds σ (g, g') := by
  have h1 := h.written (ρ := ρ) fun n _ _ => hσ n
  have h2 := h'.written (ρ := ρ) fun n _ _ => hσ n
  rw [e] at h1
  have := h1.fun h2
  subst this
  exact ⟨d, h, h'⟩
theorem solves_of {p : List Nd × List Nd} {ρ : Int → List Nd} {σ : Nd → DT} (h : Holds σ p) (hσ : ∀ n, n ∈ p.1 ∨ n ∈ p.2 → n.kind = 61 → Ot (ρ n.num) (σ n)) : fill ρ p.1 = fill ρ p.2 := by
  obtain ⟨d, h1, h2⟩ := h
  exact (h1.written fun n hn hk => hσ n (.inl hn) hk).same (h2.written fun n hn hk => hσ n (.inr hn) hk)
end Go.Proofs.YtoiiibplkhedcaaGreatDoor

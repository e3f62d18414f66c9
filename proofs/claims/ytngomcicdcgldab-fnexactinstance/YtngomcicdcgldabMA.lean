import Derived.Test.YtngomcicdcgldabProg
import Derived.Test.YtngomcicdcgldabOwn
import Derived.WalkKit
import Derived.Test.YtngomcicdcgldabBut
import Derived.Deep.QuietTactic
import Derived.BigQuiet
import Derived.Deep.RegionWith
import Derived.Deep.RegionLaw
import Derived.Test.YtngomcicdcgldabApp
import Derived.Deep.CutRange
import Derived.Deep.DeepCutAuto
import Derived.Deep.RegionHeld3
import Derived.OwnWalk
namespace Go.Proofs.Ytngomcicdcgldab
open Go.RowKit

/-- What lies in a cell of impl's store: its id, its node, its kids' slice, since when it is told, its level, its rank, what it was tied to, since when, and its mark (where it is linked to is told beside). -/
structure CC where
  id : Int
  nd : Nd
  ks : Option Addr × Nat × Nat
  told : Int
  lv : Int
  rk : Int
  td : Option Nat
  si : Int
  sn : Int

/-- A pointer to a block, or nil. -/
def ptr (o : Option Nat) : Value := .pointer (o.map fun b => ⟨b, 0, none⟩)

/-- A cell in a block. -/
def CellAt (w : World) (b : Nat) (c : CC) (l : Option Nat) : Prop :=
  w.heap[b]? = some (.cells #[.int .i64 c.id, .int .i64 c.nd.kind, .int .i64 c.nd.num, .string c.nd.text, .int .i64 c.nd.kids, .int .i64 c.nd.place, .slice c.ks.1 c.ks.2.1 c.ks.2.2, .int .i64 c.told, .int .i64 c.lv, ptr l, .int .i64 c.rk, ptr c.td, .int .i64 c.si, .int .i64 c.sn] 100 (0, 0))

/-- The cells of a store: which blocks they are, what lies in them, how they are linked. -/
structure Cells (w : World) (X : Nat → Prop) (f : Nat → CC) (lk : Nat → Option Nat) : Prop where
  at' : ∀ b, X b → CellAt w b (f b) (lk b)
  link : ∀ b j, lk b = some j → X b ∧ X j

/-- Where the links from a cell end. -/
inductive Hd (lk : Nat → Option Nat) : Nat → Nat → Prop
  | root {i : Nat} : lk i = none → Hd lk i i
  | step {i j r : Nat} : lk i = some j → Hd lk j r → Hd lk i r

theorem Hd.is_root {lk : Nat → Option Nat} {i r : Nat} (h : Hd lk i r) : lk r = none := by
  induction h with
  | root h => exact h
  | step _ _ ih => exact ih

theorem Hd.fun {lk : Nat → Option Nat} {i r r' : Nat} (h : Hd lk i r) (h' : Hd lk i r') : r = r' := by
  induction h with
  | root h =>
    cases h' with
    | root _ => rfl
    | step h1 _ => rw [h] at h1; cases h1
  | step h1 _ ih =>
    cases h' with
    | root h2 => rw [h1] at h2; cases h2
    | step h2 h3 => rw [h1] at h2; cases h2; exact ih h3

/-- Links that lead somewhere. -/
def Acyc (lk : Nat → Option Nat) (d : Nat → Nat) : Prop := ∀ i j, lk i = some j → d j < d i

theorem CellAt.cell {w : World} {b : Nat} {c : CC} {l : Option Nat} (h : CellAt w b c l) :
    w.cell? ⟨b, 0, none⟩ = some (.int .i64 c.id) ∧ w.cell? ⟨b, 1, none⟩ = some (.int .i64 c.nd.kind) ∧ w.cell? ⟨b, 2, none⟩ = some (.int .i64 c.nd.num) ∧ w.cell? ⟨b, 3, none⟩ = some (.string c.nd.text) ∧ w.cell? ⟨b, 4, none⟩ = some (.int .i64 c.nd.kids) ∧ w.cell? ⟨b, 5, none⟩ = some (.int .i64 c.nd.place) ∧ w.cell? ⟨b, 6, none⟩ = some (.slice c.ks.1 c.ks.2.1 c.ks.2.2) ∧ w.cell? ⟨b, 7, none⟩ = some (.int .i64 c.told) ∧ w.cell? ⟨b, 8, none⟩ = some (.int .i64 c.lv) ∧ w.cell? ⟨b, 9, none⟩ = some (ptr l) ∧ w.cell? ⟨b, 10, none⟩ = some (.int .i64 c.rk) ∧ w.cell? ⟨b, 11, none⟩ = some (ptr c.td) ∧ w.cell? ⟨b, 12, none⟩ = some (.int .i64 c.si) ∧ w.cell? ⟨b, 13, none⟩ = some (.int .i64 c.sn) := by
  refine ⟨?_, ?_, ?_, ?_, ?_, ?_, ?_, ?_, ?_, ?_, ?_, ?_, ?_, ?_⟩
  all_goals
    rw [cell_of_row _ b _ _ 100 (0, 0) h]
    rfl

theorem CellAt.frozen {w : World} {b : Nat} {c : CC} {l : Option Nat} (h : CellAt w b c l) (o : Nat) : w.frozen? ⟨b, o, none⟩ = false := frozen_of_row w b o _ 100 h

theorem CellAt.lt {w : World} {b : Nat} {c : CC} {l : Option Nat} (h : CellAt w b c l) : b < w.heap.size := (Array.getElem?_eq_some_iff.1 h).1

theorem CellAt.relink {w : World} {b : Nat} {c : CC} {l : Option Nat} (h : CellAt w b c l) (l' : Option Nat) : CellAt (w.setCell ⟨b, 9, none⟩ (ptr l')) b c l' := by
  have h9 := heap_setCell_same w b 9 _ 100 (ptr l') h
  simpa [CellAt] using h9

theorem CellAt.but {S : Nat → Prop} {w w' : World} {b : Nat} {c : CC} {l : Option Nat} (h : CellAt w b c l) (hb : But S w w') (hn : ¬ S b) : CellAt w' b c l := (hb.block b h.lt hn).trans h

theorem Cells.but {S : Nat → Prop} {w w' : World} {X : Nat → Prop} {f : Nat → CC} {lk : Nat → Option Nat} (h : Cells w X f lk) (hb : But S w w') (hn : ∀ b, X b → ¬ S b) : Cells w' X f lk :=
  ⟨fun b hx => (h.at' b hx).but hb (hn b hx), h.link⟩

/-- One cell is linked anew. -/
theorem Cells.relink {w : World} {X : Nat → Prop} {f : Nat → CC} {lk : Nat → Option Nat} (h : Cells w X f lk) {b j : Nat} (hb : X b) (hj : X j) : Cells (w.setCell ⟨b, 9, none⟩ (ptr (some j))) X f (fun i => if i = b then some j else lk i) := by
  refine ⟨fun x hx => ?_, fun x y e => ?_⟩
  · by_cases hxb : x = b
    · subst hxb
      rw [if_pos rfl]
      exact (h.at' x hx).relink (some j)
    · rw [if_neg hxb]
      have hs : But (· = b) w (w.setCell ⟨b, 9, none⟩ (ptr (some j))) := (But.refl (· = b) w).setCell (p := ⟨b, 9, none⟩) rfl _
      exact (h.at' x hx).but hs hxb
  · by_cases hxb : x = b
    · subst hxb
      rw [if_pos rfl] at e
      simp only [Option.some.injEq] at e
      subst e
      exact ⟨hb, hj⟩
    · rw [if_neg hxb] at e
      exact h.link x y e

/-- Two forests with the same heads. -/
def SameHd (lk lk' : Nat → Option Nat) : Prop := ∀ i r, Hd lk i r ↔ Hd lk' i r

theorem SameHd.refl (lk : Nat → Option Nat) : SameHd lk lk := fun _ _ => Iff.rfl
theorem SameHd.trans {a b c : Nat → Option Nat} (h : SameHd a b) (h' : SameHd b c) : SameHd a c := fun i r => (h i r).trans (h' i r)

theorem Hd.low {lk : Nat → Option Nat} {d : Nat → Nat} (ha : Acyc lk d) {i r : Nat} (h : Hd lk i r) : d r ≤ d i ∧ (i ≠ r → d r < d i) := by
  induction h with
  | root _ => exact ⟨Nat.le_refl _, fun h => absurd rfl h⟩
  | step h1 _ ih =>
    have := ha _ _ h1
    exact ⟨by omega, fun _ => by omega⟩

/-- A path is shortened: its heads stay. -/
theorem same_short {lk : Nat → Option Nat} {d : Nat → Nat} (ha : Acyc lk d) {b r : Nat} (hb : Hd lk b r) (hne : b ≠ r) : SameHd lk (fun i => if i = b then some r else lk i) ∧ Acyc (fun i => if i = b then some r else lk i) d := by
  have hr0 := hb.is_root
  have hr1 : (fun i => if i = b then some r else lk i) r = none := by
    show (if r = b then some r else lk r) = none
    rw [if_neg (fun e => hne e.symm)]
    exact hr0
  refine ⟨fun i q => ⟨fun h => ?_, fun h => ?_⟩, fun i j e => ?_⟩
  · induction h with
    | @root i h1 =>
      refine Hd.root ?_
      show (if i = b then some r else lk i) = none
      by_cases hi : i = b
      · subst hi
        exact absurd ((Hd.root h1).fun hb) hne
      · rw [if_neg hi]; exact h1
    | @step i j q h1 h2 ih =>
      by_cases hi : i = b
      · subst hi
        have e : q = r := (Hd.step h1 h2).fun hb
        subst e
        exact Hd.step (j := q) (by show (if i = i then some q else lk i) = some q; rw [if_pos rfl]) (Hd.root hr1)
      · exact Hd.step (j := j) (by show (if i = b then some r else lk i) = some j; rw [if_neg hi]; exact h1) ih
  · induction h with
    | @root i h1 =>
      have h1 : (if i = b then some r else lk i) = none := h1
      by_cases hi : i = b
      · rw [if_pos hi] at h1; cases h1
      · rw [if_neg hi] at h1
        exact Hd.root h1
    | @step i j q h1 h2 ih =>
      have h1 : (if i = b then some r else lk i) = some j := h1
      by_cases hi : i = b
      · rw [if_pos hi] at h1
        simp only [Option.some.injEq] at h1
        subst h1
        subst hi
        have e : q = r := ih.fun (Hd.root hr0)
        subst e
        exact hb
      · rw [if_neg hi] at h1
        exact Hd.step h1 ih
  · have e : (if i = b then some r else lk i) = some j := e
    by_cases hi : i = b
    · rw [if_pos hi] at e
      simp only [Option.some.injEq] at e
      subst e
      subst hi
      exact (hb.low ha).2 hne
    · rw [if_neg hi] at e
      exact ha i j e

/-- The block that a pointer leads to. -/
def blk : Value → Nat
  | .pointer (some a) => a.block
  | _ => 0

/-- Pointers to two cells are not equal. -/
theorem run_neq_ptr_other {P : Program} {w : World} {tp te : TypeId} {j : TypeInfo} {a b : Addr} {ca cb : Array Value} {ta tb : TypeId} (hp : P.underlying tp = some (.pointer te)) (hte : P.info? te = some j) (hsz : j.size ≠ 0)
    (hne : a ≠ b) (ha : w.heap[a.block]? = some (.cells ca ta (0, 0))) (hb : w.heap[b.block]? = some (.cells cb tb (0, 0))) :
    (binOp .neq tp (.pointer (some a)) (.pointer (some b))).run P w = .ok (.bool true) w := by
  have h : ∀ d : Nat, (Op.equalIn (d + 1) tp (.pointer (some a)) (.pointer (some b))).run P w = .ok false w := fun d => by
    simp [Op.equalIn, run_underlying hp, sizeOf, typeInfo, hte, hsz, run_sameAddr_other w hne ha hb]
  simp only [binOp]
  simp [Op.equal, Op.maxDepth, h 9999]

theorem run_eql_ptr_other {P : Program} {w : World} {tp te : TypeId} {j : TypeInfo} {a b : Addr} {ca cb : Array Value} {ta tb : TypeId} (hp : P.underlying tp = some (.pointer te)) (hte : P.info? te = some j) (hsz : j.size ≠ 0)
    (hne : a ≠ b) (ha : w.heap[a.block]? = some (.cells ca ta (0, 0))) (hb : w.heap[b.block]? = some (.cells cb tb (0, 0))) :
    (binOp .eql tp (.pointer (some a)) (.pointer (some b))).run P w = .ok (.bool false) w := by
  have h : ∀ d : Nat, (Op.equalIn (d + 1) tp (.pointer (some a)) (.pointer (some b))).run P w = .ok false w := fun d => by
    simp [Op.equalIn, run_underlying hp, sizeOf, typeInfo, hte, hsz, run_sameAddr_other w hne ha hb]
  simp only [binOp]
  simp [Op.equal, Op.maxDepth, h 9999]

theorem run_eql_ptr_same {P : Program} {w : World} {tp te : TypeId} {j : TypeInfo} (a : Addr) (hp : P.underlying tp = some (.pointer te)) (hte : P.info? te = some j) :
    (binOp .eql tp (.pointer (some a)) (.pointer (some a))).run P w = .ok (.bool true) w := by
  have h : ∀ d : Nat, (Op.equalIn (d + 1) tp (.pointer (some a)) (.pointer (some a))).run P w = .ok true w := fun d => by
    simp [Op.equalIn, run_underlying hp, sizeOf, typeInfo, hte, run_sameAddr_same]
  simp only [binOp]
  simp [Op.equal, Op.maxDepth, h 9999]

theorem run_neq_ptr_same' {P : Program} {w : World} {tp te : TypeId} {j : TypeInfo} (a : Addr) (hp : P.underlying tp = some (.pointer te)) (hte : P.info? te = some j) :
    (binOp .neq tp (.pointer (some a)) (.pointer (some a))).run P w = .ok (.bool false) w := by
  have h : ∀ d : Nat, (Op.equalIn (d + 1) tp (.pointer (some a)) (.pointer (some a))).run P w = .ok true w := fun d => by
    simp [Op.equalIn, run_underlying hp, sizeOf, typeInfo, hte, run_sameAddr_same]
  simp only [binOp]
  simp [Op.equal, Op.maxDepth, h 9999]

theorem u_cp : Try.prog.underlying 55 = some (.pointer 100) := Try.underlying55
theorem infoCell : (Try.prog.info? 100).map (fun i => i.size) = some 14 := by kernel_rfl
theorem u_cell : ∃ j, Try.prog.info? 100 = some j ∧ j.size ≠ 0 := by
  obtain ⟨j, hj, hz⟩ := Option.map_eq_some_iff.1 infoCell
  exact ⟨j, hj, by rw [hz]; decide⟩

set_option maxRecDepth 20000 in
set_option maxHeartbeats 2000000 in
theorem head_any (X : Nat → Prop) (f : Nat → CC) (lk : Nat → Option Nat) (d : Nat → Nat) (HA : Hid (Acyc lk d)) (w : World) (hC : Cells w X f lk) (b r : Nat) (hX : X b) (hr : Hd lk b r) :
    Calls Try.prog 56 #[.pointer (some ⟨b, 0, none⟩)] w fun e w' => e = .returned (.pointer (some ⟨r, 0, none⟩)) ∧ ∃ lk', Cells w' X f lk' ∧ SameHd lk lk' ∧ Acyc lk' d ∧ But X w w' ∧ w'.heap.size = w.heap.size := by
  go_enter Try.func56, Try.ntmps56
  go_wp2
  go_loopw [3] (fun v wr => ∃ k : Nat, X k ∧ v = .pointer (some ⟨k, 0, none⟩) ∧ Hd lk k r ∧ wr = w) (fun v _ => d (blk v))
  case atStart => exact ⟨b, hX, rfl, hr, rfl⟩
  case round =>
    obtain ⟨k, hk, rfl, hrt, rfl⟩ := hrel
    obtain ⟨_, _, _, _, _, _, _, _, _, c7, _, _, _, _⟩ := (hC.at' k hk).cell
    cases hl : lk k with
    | none =>
      have e : k = r := by
        cases hrt with
        | root _ => rfl
        | step h1 _ => rw [hl] at h1; cases h1
      subst e
      rw [hl] at c7
      simp only [ptr, Option.map_none] at c7
      have hr9 := hr
      clear hrt hr
      go_wp2
      go_loopw [0] (fun v wq => ∃ (i : Nat) (lk' : Nat → Option Nat), X i ∧ v = .pointer (some ⟨i, 0, none⟩) ∧ Hd lk' i k ∧ Cells wq X f lk' ∧ SameHd lk lk' ∧ Acyc lk' d ∧ But X wr wq ∧ wq.heap.size = wr.heap.size) (fun v _ => d (blk v))
      case atStart => exact ⟨b, lk, hX, rfl, hr9, hC, SameHd.refl _, HA.out, But.refl _ _, rfl⟩
      case round =>
        obtain ⟨i, lk', hi, rfl, hrt, hC', hS, hA', hB, hsz⟩ := hrel
        by_cases hik : i = k
        · subst hik
          obtain ⟨j9, hj9, _⟩ := u_cell
          have hq := run_neq_ptr_same' (w := wr) ⟨i, 0, none⟩ u_cp hj9
          clear hC c7 hl hr9
          go_wp2
          go_ret
          exact ⟨rfl, lk', hC', hS, hA', hB, hsz⟩
        · obtain ⟨_, _, _, _, _, _, _, _, _, d7, _, _, _, _⟩ := (hC'.at' i hi).cell
          have hfz := (hC'.at' i hi).frozen 9
          obtain ⟨j, hj⟩ : ∃ j, lk' i = some j := by
            cases h9 : lk' i with
            | none =>
              cases hrt with
              | root _ => exact absurd rfl hik
              | step h1 _ => rw [h9] at h1; cases h1
            | some j => exact ⟨j, rfl⟩
          have hjX := (hC'.link i j hj).2
          have hkX := hk
          have hdj := hA' i j hj
          have hjk : Hd lk' j k := by
            cases hrt with
            | root h1 => rw [hj] at h1; cases h1
            | step h1 h2 => rw [hj] at h1; cases h1; exact h2
          rw [hj] at d7
          simp only [ptr, Option.map_some] at d7
          obtain ⟨hS2, hA2⟩ := same_short hA' hrt hik
          have hC2 := hC'.relink (j := k) hi hkX
          have hB2 := hB.setCell (p := ⟨i, 9, none⟩) hi (ptr (some k))
          have hS3 := hS.trans hS2
          have hj3 : Hd (fun x => if x = i then some k else lk' x) j k := (hS2 j k).1 hjk
          simp only [ptr, Option.map_some] at hC2 hB2
          obtain ⟨j9, hj9, hz9⟩ := u_cell
          have hq := run_neq_ptr_other (w := wr) u_cp hj9 hz9 (a := ⟨i, 0, none⟩) (b := ⟨k, 0, none⟩) (by simp) (hC'.at' i hi) (hC'.at' k hkX)
          clear hC c7 hl hr9 hrt hjk hj hC' hS hS2 hA' hB
          go_wp2
          go_roundw
          case rel => exact ⟨j, _, hjX, rfl, hj3, hC2, hS3, hA2, hB2, by simp [hsz]⟩
          case measure => simpa [blk] using hdj
    | some j =>
      have hj := (hC.link k j hl).2
      have hrj : Hd lk j r := by
        cases hrt with
        | root h1 => rw [hl] at h1; cases h1
        | step h1 h2 => rw [hl] at h1; cases h1; exact h2
      have hdj := HA.out k j hl
      rw [hl] at c7
      simp only [ptr, Option.map_some] at c7
      clear hrt hl
      go_wp2
      go_roundw
      case rel => exact ⟨j, hj, rfl, hrj, trivial⟩
      case measure => simpa [blk] using hdj

end Go.Proofs.Ytngomcicdcgldab

namespace Go.Proofs.Ytngomcicdcgldab
open Go.RowKit

/-- Is the cell an unknown that isn't held? -/
def CC.open? (c : CC) : Bool := c.nd.kind == 61 && decide (1 ≤ c.lv)

set_option maxRecDepth 20000 in
set_option maxHeartbeats 2000000 in
theorem isOpen_any (w : World) (b : Nat) (c : CC) (l : Option Nat) (hc : CellAt w b c l) :
    Calls Try.prog 76 #[.pointer (some ⟨b, 0, none⟩)] w fun e w' => e = .returned (.bool c.open?) ∧ w' = w := by
  obtain ⟨_, c0, _, _, _, _, _, _, c6, _, _, _, _, _⟩ := hc.cell
  go_enter Try.func76, Try.ntmps76
  go_wp2
  · rename_i h9
    go_ret
    exact ⟨by simp [CC.open?, h9], rfl⟩
  · rename_i h9
    go_ret
    exact ⟨by simp [CC.open?, h9], rfl⟩

theorem Cells.drewN {w : World} {X : Nat → Prop} {f : Nat → CC} {lk : Nat → Option Nat} (h : Cells w X f lk) (n : Nat) : Cells (w.drewN n) X f lk := ⟨fun b hb => h.at' b hb, h.link⟩

theorem Cells.drew {w : World} {X : Nat → Prop} {f : Nat → CC} {lk : Nat → Option Nat} (h : Cells w X f lk) : Cells w.drew X f lk := ⟨fun b hb => h.at' b hb, h.link⟩

theorem But.drew {S : Nat → Prop} {a w : World} (h : But S a w) : But S a w.drew := ⟨h.os, h.tape, h.output, h.size, h.block⟩

theorem But.drewN {S : Nat → Prop} {a w : World} (h : But S a w) (n : Nat) : But S a (w.drewN n) := ⟨h.os, h.tape, h.output, h.size, h.block⟩

theorem But.cellB {S : Nat → Prop} {w w' : World} (h : But S w w') {b o : Nat} (hl : b < w.heap.size) (hn : ¬ S b) : w'.cell? ⟨b, o, none⟩ = w.cell? ⟨b, o, none⟩ := by
  unfold World.cell?
  rw [h.block b hl hn]

/-- A cell's block is written anew. -/
theorem Cells.upd {w w' : World} {X : Nat → Prop} {f : Nat → CC} {lk : Nat → Option Nat} (h : Cells w X f lk) {b : Nat} {c' : CC} (hc : CellAt w' b c' (lk b)) (hb : But (· = b) w w') : Cells w' X (fun i => if i = b then c' else f i) lk := by
  refine ⟨fun x hx => ?_, h.link⟩
  by_cases hxb : x = b
  · subst hxb
    rw [if_pos rfl]
    exact hc
  · rw [if_neg hxb]
    exact (h.at' x hx).but hb hxb

/-- A cell's rank is stored anew. -/
theorem Cells.rerank {w : World} {X : Nat → Prop} {f : Nat → CC} {lk : Nat → Option Nat} (h : Cells w X f lk) {b : Nat} (hb : X b) (r : Int) : Cells (w.setCell ⟨b, 10, none⟩ (.int .i64 r)) X (fun i => if i = b then { f b with rk := r } else f i) lk := by
  refine h.upd ?_ ((But.refl (· = b) w).setCell (p := ⟨b, 10, none⟩) rfl _)
  have h9 := heap_setCell_same w b 10 _ 100 (.int .i64 r) (h.at' b hb)
  simpa [CellAt] using h9

/-- What another cell says is written into a cell. -/
theorem Cells.says {w : World} {X : Nat → Prop} {f : Nat → CC} {lk : Nat → Option Nat} (h : Cells w X f lk) {b : Nat} (hb : X b) (c : CC) (t : Int) :
    Cells ((((((((w.setCell ⟨b, 1, none⟩ (.int .i64 c.nd.kind)).setCell ⟨b, 2, none⟩ (.int .i64 c.nd.num)).setCell ⟨b, 3, none⟩ (.string c.nd.text)).setCell ⟨b, 4, none⟩ (.int .i64 c.nd.kids)).setCell ⟨b, 5, none⟩ (.int .i64 c.nd.place)).setCell ⟨b, 6, none⟩ (.slice c.ks.1 c.ks.2.1 c.ks.2.2)).setCell ⟨b, 8, none⟩ (.int .i64 c.lv)).setCell ⟨b, 7, none⟩ (.int .i64 t)) X
      (fun i => if i = b then { f b with nd := c.nd, ks := c.ks, lv := c.lv, told := t } else f i) lk := by
  refine h.upd ?_ ?_
  · have h0 := heap_setCell_same w b 1 _ 100 (.int .i64 c.nd.kind) (h.at' b hb)
    have h1 := heap_setCell_same _ b 2 _ 100 (.int .i64 c.nd.num) h0
    have h2 := heap_setCell_same _ b 3 _ 100 (.string c.nd.text) h1
    have h3 := heap_setCell_same _ b 4 _ 100 (.int .i64 c.nd.kids) h2
    have h4 := heap_setCell_same _ b 5 _ 100 (.int .i64 c.nd.place) h3
    have h5 := heap_setCell_same _ b 6 _ 100 (.slice c.ks.1 c.ks.2.1 c.ks.2.2) h4
    have h6 := heap_setCell_same _ b 8 _ 100 (.int .i64 c.lv) h5
    have h7 := heap_setCell_same _ b 7 _ 100 (.int .i64 t) h6
    simpa [CellAt] using h7
  · exact (((((((((But.refl (· = b) w).setCell (p := ⟨b, 1, none⟩) rfl (.int .i64 c.nd.kind)).setCell (p := ⟨b, 2, none⟩) rfl (.int .i64 c.nd.num)).setCell (p := ⟨b, 3, none⟩) rfl (.string c.nd.text)).setCell (p := ⟨b, 4, none⟩) rfl (.int .i64 c.nd.kids)).setCell (p := ⟨b, 5, none⟩) rfl (.int .i64 c.nd.place)).setCell (p := ⟨b, 6, none⟩) rfl (.slice c.ks.1 c.ks.2.1 c.ks.2.2)).setCell (p := ⟨b, 8, none⟩) rfl (.int .i64 c.lv)).setCell (p := ⟨b, 7, none⟩) rfl (.int .i64 t))

/-- A head is linked to another, and it is kept beside since when. -/
theorem Cells.ties {w : World} {X : Nat → Prop} {f : Nat → CC} {lk : Nat → Option Nat} (h : Cells w X f lk) {b j : Nat} (hb : X b) (hj : X j) (t : Int) :
    Cells (((w.setCell ⟨b, 9, none⟩ (ptr (some j))).setCell ⟨b, 11, none⟩ (ptr (some j))).setCell ⟨b, 12, none⟩ (.int .i64 t)) X
      (fun i => if i = b then { f b with td := some j, si := t } else f i) (fun i => if i = b then some j else lk i) := by
  have h1 := h.relink hb hj
  refine h1.upd ?_ ?_
  · have h2 := heap_setCell_same _ b 11 _ 100 (ptr (some j)) (h1.at' b hb)
    have h3 := heap_setCell_same _ b 12 _ 100 (.int .i64 t) h2
    simpa [CellAt] using h3
  · exact ((But.refl (· = b) _).setCell (p := ⟨b, 11, none⟩) rfl _).setCell (p := ⟨b, 12, none⟩) rfl _

/-- The cells behind a tie: q is linked to h, which has got what a says where it was an unknown. -/
def tiedF (f : Nat → CC) (a h q : Nat) (r t : Int) : Nat → CC := fun i => if i = q then { f q with td := some h, si := t } else if i = h then (if (f h).nd.kind = 61 then { f h with rk := r, nd := (f a).nd, ks := (f a).ks, lv := (f a).lv, told := t } else { f h with rk := r }) else f i

set_option maxRecDepth 20000 in
set_option maxHeartbeats 2000000 in
theorem tie_any (X : Nat → Prop) (f : Nat → CC) (lk : Nat → Option Nat) (w : World) (hC : Cells w X f lk) (sb : Nat) (t : Int) (hsX : ¬ X sb) (hst : w.cell? ⟨sb, 1, none⟩ = some (.int .i64 t)) (a b : Nat) (hXa : X a) (hXb : X b) (hab : a ≠ b) (ha : lk a = none) (hb : lk b = none) :
    Calls Try.prog 78 #[.pointer (some ⟨sb, 0, none⟩), .pointer (some ⟨a, 0, none⟩), .pointer (some ⟨b, 0, none⟩)] w fun e w' => e = .returned (.tuple #[]) ∧ ∃ h q r, (h = a ∧ q = b ∨ h = b ∧ q = a) ∧ Cells w' X (tiedF f a h q r t) (fun i => if i = q then some h else lk i) ∧ But X w w' ∧ w'.heap.size = w.heap.size := by
  obtain ⟨a0, a1, a2, a3, a4, a5, a6, a7, a8, a9, a10, a11, a12, a13⟩ := (hC.at' a hXa).cell
  obtain ⟨b0, b1, b2, b3, b4, b5, b6, b7, b8, b9, b10, b11, b12, b13⟩ := (hC.at' b hXb).cell
  have fa := (hC.at' a hXa).frozen
  have fb := (hC.at' b hXb).frozen
  have hsa : sb ≠ a := fun e => hsX (e ▸ hXa)
  have hsb : sb ≠ b := fun e => hsX (e ▸ hXb)
  go_enter Try.func78, Try.ntmps78
  rcases Int.lt_trichotomy (f a).rk (f b).rk with hlt | heq | hgt
  · by_cases hm : (f b).nd.kind = 61
    · go_wp2
      go_quiet (fail)
      go_wp2
      go_quiet (fail)
      go_wp2
      generalize hW : World.setCell _ _ _ = w5
      obtain ⟨f5, hf5, hC5⟩ : ∃ f5, f5 = (fun i => if i = a then { f a with td := some b, si := t } else f i) ∧ Cells w5 X f5 (fun i => if i = a then some b else lk i) := by
        subst hW
        exact ⟨_, rfl, (hC.drewN _).ties hXa hXb t⟩
      have hB5 : But X w w5 := by
        subst hW
        exact ((((But.refl X w).drewN _).setCell (p := ⟨a, 9, none⟩) hXa _).setCell (p := ⟨a, 11, none⟩) hXa _).setCell (p := ⟨a, 12, none⟩) hXa _
      have hz5 : w5.heap.size = w.heap.size := by
        subst hW
        simp [World.drewN]
      have hst5 : w5.cell? ⟨sb, 1, none⟩ = some (.int .i64 t) := (hB5.cellB (lt_of_cell hst) hsX).trans hst
      have HF5 : Hid (f5 = (fun i => if i = a then { f a with td := some b, si := t } else f i)) := hf5
      clear hW hC a0 a1 a2 a3 a4 a5 a6 a7 a8 a9 a10 a11 a12 a13 b0 b1 b2 b3 b4 b5 b6 b7 b8 b9 b10 b11 b12 b13 fa fb hf5 hst
      obtain ⟨a0, a1, a2, a3, a4, a5, a6, a7, a8, a9, a10, a11, a12, a13⟩ := (hC5.at' a hXa).cell
      obtain ⟨b0, b1, b2, b3, b4, b5, b6, b7, b8, b9, b10, b11, b12, b13⟩ := (hC5.at' b hXb).cell
      have fa := (hC5.at' a hXa).frozen
      have fb := (hC5.at' b hXb).frozen
      go_region
      go_end0
      refine ⟨rfl, b, a, (f b).rk, .inr ⟨rfl, rfl⟩, ?_, ?_, ?_⟩
      · have h9 := (hC5.says hXb (f5 a) t).drew
        have e9 : (fun i => if i = b then { f5 b with nd := (f5 a).nd, ks := (f5 a).ks, lv := (f5 a).lv, told := t } else f5 i) = tiedF f a b a (f b).rk t := by
          funext i
          rw [HF5.out]
          unfold tiedF
          by_cases i1 : i = a
          · subst i1
            simp [hab]
          · by_cases i2 : i = b
            · subst i2
              simp [hab.symm, hm]
            · simp [i1, i2]
        rw [e9] at h9
        exact h9
      · refine hB5.trans ?_
        exact (((((((((But.refl X w5).setCell (p := ⟨b, 1, none⟩) hXb _).setCell (p := ⟨b, 2, none⟩) hXb _).setCell (p := ⟨b, 3, none⟩) hXb _).setCell (p := ⟨b, 4, none⟩) hXb _).setCell (p := ⟨b, 5, none⟩) hXb _).setCell (p := ⟨b, 6, none⟩) hXb _).setCell (p := ⟨b, 8, none⟩) hXb _).setCell (p := ⟨b, 7, none⟩) hXb _).drew
      · simp [World.drew, hz5]
    · have tm : ((f b).nd.kind == 61) = false := by simpa using hm
      go_wp2
      go_quiet (fail)
      go_wp2
      go_quiet (fail)
      go_wp2
      generalize hW : World.setCell _ _ _ = w5
      obtain ⟨f5, hf5, hC5⟩ : ∃ f5, f5 = (fun i => if i = a then { f a with td := some b, si := t } else f i) ∧ Cells w5 X f5 (fun i => if i = a then some b else lk i) := by
        subst hW
        exact ⟨_, rfl, (hC.drewN _).ties hXa hXb t⟩
      have hB5 : But X w w5 := by
        subst hW
        exact ((((But.refl X w).drewN _).setCell (p := ⟨a, 9, none⟩) hXa _).setCell (p := ⟨a, 11, none⟩) hXa _).setCell (p := ⟨a, 12, none⟩) hXa _
      have hz5 : w5.heap.size = w.heap.size := by
        subst hW
        simp [World.drewN]
      clear hW
      go_end0
      refine ⟨rfl, b, a, (f b).rk, .inr ⟨rfl, rfl⟩, ?_, hB5, hz5⟩
      have e9 : (fun i => if i = a then { f a with td := some b, si := t } else f i) = tiedF f a b a (f b).rk t := by
          funext i
          unfold tiedF
          by_cases i1 : i = a
          · subst i1
            simp
          · by_cases i2 : i = b
            · subst i2
              simp [hab.symm, hm]
            · simp [i1, i2]
      rw [hf5, e9] at hC5
      exact hC5
  · by_cases hm : (f a).nd.kind = 61
    · go_wp2
      go_quiet (fail)
      go_wp2
      go_quiet (fail)
      go_wp2
      generalize hW : World.setCell _ _ _ = w5
      obtain ⟨r, f5, hf5, hC5⟩ : ∃ r f5, f5 = (fun i => if i = b then { (fun i => if i = a then { f a with rk := r } else f i) b with td := some a, si := t } else (fun i => if i = a then { f a with rk := r } else f i) i) ∧ Cells w5 X f5 (fun i => if i = b then some a else lk i) := by
        subst hW
        exact ⟨_, _, rfl, ((hC.drewN _).rerank hXa _).ties hXb hXa t⟩
      have hB5 : But X w w5 := by
        subst hW
        exact (((((But.refl X w).drewN _).setCell (p := ⟨a, 10, none⟩) hXa _).setCell (p := ⟨b, 9, none⟩) hXb _).setCell (p := ⟨b, 11, none⟩) hXb _).setCell (p := ⟨b, 12, none⟩) hXb _
      have hz5 : w5.heap.size = w.heap.size := by
        subst hW
        simp [World.drewN]
      have hst5 : w5.cell? ⟨sb, 1, none⟩ = some (.int .i64 t) := (hB5.cellB (lt_of_cell hst) hsX).trans hst
      have HF5 : Hid (f5 = (fun i => if i = b then { (fun i => if i = a then { f a with rk := r } else f i) b with td := some a, si := t } else (fun i => if i = a then { f a with rk := r } else f i) i)) := hf5
      clear hW hC a0 a1 a2 a3 a4 a5 a6 a7 a8 a9 a10 a11 a12 a13 b0 b1 b2 b3 b4 b5 b6 b7 b8 b9 b10 b11 b12 b13 fa fb hf5 hst
      obtain ⟨a0, a1, a2, a3, a4, a5, a6, a7, a8, a9, a10, a11, a12, a13⟩ := (hC5.at' a hXa).cell
      obtain ⟨b0, b1, b2, b3, b4, b5, b6, b7, b8, b9, b10, b11, b12, b13⟩ := (hC5.at' b hXb).cell
      have fa := (hC5.at' a hXa).frozen
      have fb := (hC5.at' b hXb).frozen
      go_region
      go_end0
      refine ⟨rfl, a, b, r, .inl ⟨rfl, rfl⟩, ?_, ?_, ?_⟩
      · have h9 := (hC5.says hXa (f5 a) t).drew
        have e9 : (fun i => if i = a then { f5 a with nd := (f5 a).nd, ks := (f5 a).ks, lv := (f5 a).lv, told := t } else f5 i) = tiedF f a a b r t := by
          funext i
          rw [HF5.out]
          unfold tiedF
          by_cases i1 : i = b
          · subst i1
            simp [hab.symm]
          · by_cases i2 : i = a
            · subst i2
              simp [hab, hm]
            · simp [i1, i2]
        rw [e9] at h9
        exact h9
      · refine hB5.trans ?_
        exact (((((((((But.refl X w5).setCell (p := ⟨a, 1, none⟩) hXa _).setCell (p := ⟨a, 2, none⟩) hXa _).setCell (p := ⟨a, 3, none⟩) hXa _).setCell (p := ⟨a, 4, none⟩) hXa _).setCell (p := ⟨a, 5, none⟩) hXa _).setCell (p := ⟨a, 6, none⟩) hXa _).setCell (p := ⟨a, 8, none⟩) hXa _).setCell (p := ⟨a, 7, none⟩) hXa _).drew
      · simp [World.drew, hz5]
    · have tm : ((f a).nd.kind == 61) = false := by simpa using hm
      go_wp2
      go_quiet (fail)
      go_wp2
      go_quiet (fail)
      go_wp2
      generalize hW : World.setCell _ _ _ = w5
      obtain ⟨r, f5, hf5, hC5⟩ : ∃ r f5, f5 = (fun i => if i = b then { (fun i => if i = a then { f a with rk := r } else f i) b with td := some a, si := t } else (fun i => if i = a then { f a with rk := r } else f i) i) ∧ Cells w5 X f5 (fun i => if i = b then some a else lk i) := by
        subst hW
        exact ⟨_, _, rfl, ((hC.drewN _).rerank hXa _).ties hXb hXa t⟩
      have hB5 : But X w w5 := by
        subst hW
        exact (((((But.refl X w).drewN _).setCell (p := ⟨a, 10, none⟩) hXa _).setCell (p := ⟨b, 9, none⟩) hXb _).setCell (p := ⟨b, 11, none⟩) hXb _).setCell (p := ⟨b, 12, none⟩) hXb _
      have hz5 : w5.heap.size = w.heap.size := by
        subst hW
        simp [World.drewN]
      clear hW
      go_end0
      refine ⟨rfl, a, b, r, .inl ⟨rfl, rfl⟩, ?_, hB5, hz5⟩
      have e9 : (fun i => if i = b then { (fun i => if i = a then { f a with rk := r } else f i) b with td := some a, si := t } else (fun i => if i = a then { f a with rk := r } else f i) i) = tiedF f a a b r t := by
          funext i
          unfold tiedF
          by_cases i1 : i = b
          · subst i1
            simp [hab.symm]
          · by_cases i2 : i = a
            · subst i2
              simp [hab, hm]
            · simp [i1, i2]
      rw [hf5, e9] at hC5
      exact hC5
  · by_cases hm : (f a).nd.kind = 61
    · go_wp2
      go_quiet (fail)
      go_wp2
      go_quiet (fail)
      go_wp2
      generalize hW : World.setCell _ _ _ = w5
      obtain ⟨f5, hf5, hC5⟩ : ∃ f5, f5 = (fun i => if i = b then { f b with td := some a, si := t } else f i) ∧ Cells w5 X f5 (fun i => if i = b then some a else lk i) := by
        subst hW
        exact ⟨_, rfl, (hC.drewN _).ties hXb hXa t⟩
      have hB5 : But X w w5 := by
        subst hW
        exact ((((But.refl X w).drewN _).setCell (p := ⟨b, 9, none⟩) hXb _).setCell (p := ⟨b, 11, none⟩) hXb _).setCell (p := ⟨b, 12, none⟩) hXb _
      have hz5 : w5.heap.size = w.heap.size := by
        subst hW
        simp [World.drewN]
      have hst5 : w5.cell? ⟨sb, 1, none⟩ = some (.int .i64 t) := (hB5.cellB (lt_of_cell hst) hsX).trans hst
      have HF5 : Hid (f5 = (fun i => if i = b then { f b with td := some a, si := t } else f i)) := hf5
      clear hW hC a0 a1 a2 a3 a4 a5 a6 a7 a8 a9 a10 a11 a12 a13 b0 b1 b2 b3 b4 b5 b6 b7 b8 b9 b10 b11 b12 b13 fa fb hf5 hst
      obtain ⟨a0, a1, a2, a3, a4, a5, a6, a7, a8, a9, a10, a11, a12, a13⟩ := (hC5.at' a hXa).cell
      obtain ⟨b0, b1, b2, b3, b4, b5, b6, b7, b8, b9, b10, b11, b12, b13⟩ := (hC5.at' b hXb).cell
      have fa := (hC5.at' a hXa).frozen
      have fb := (hC5.at' b hXb).frozen
      go_region
      go_end0
      refine ⟨rfl, a, b, (f a).rk, .inl ⟨rfl, rfl⟩, ?_, ?_, ?_⟩
      · have h9 := (hC5.says hXa (f5 a) t).drew
        have e9 : (fun i => if i = a then { f5 a with nd := (f5 a).nd, ks := (f5 a).ks, lv := (f5 a).lv, told := t } else f5 i) = tiedF f a a b (f a).rk t := by
          funext i
          rw [HF5.out]
          unfold tiedF
          by_cases i1 : i = b
          · subst i1
            simp [hab.symm]
          · by_cases i2 : i = a
            · subst i2
              simp [hab, hm]
            · simp [i1, i2]
        rw [e9] at h9
        exact h9
      · refine hB5.trans ?_
        exact (((((((((But.refl X w5).setCell (p := ⟨a, 1, none⟩) hXa _).setCell (p := ⟨a, 2, none⟩) hXa _).setCell (p := ⟨a, 3, none⟩) hXa _).setCell (p := ⟨a, 4, none⟩) hXa _).setCell (p := ⟨a, 5, none⟩) hXa _).setCell (p := ⟨a, 6, none⟩) hXa _).setCell (p := ⟨a, 8, none⟩) hXa _).setCell (p := ⟨a, 7, none⟩) hXa _).drew
      · simp [World.drew, hz5]
    · have tm : ((f a).nd.kind == 61) = false := by simpa using hm
      go_wp2
      go_quiet (fail)
      go_wp2
      go_quiet (fail)
      go_wp2
      generalize hW : World.setCell _ _ _ = w5
      obtain ⟨f5, hf5, hC5⟩ : ∃ f5, f5 = (fun i => if i = b then { f b with td := some a, si := t } else f i) ∧ Cells w5 X f5 (fun i => if i = b then some a else lk i) := by
        subst hW
        exact ⟨_, rfl, (hC.drewN _).ties hXb hXa t⟩
      have hB5 : But X w w5 := by
        subst hW
        exact ((((But.refl X w).drewN _).setCell (p := ⟨b, 9, none⟩) hXb _).setCell (p := ⟨b, 11, none⟩) hXb _).setCell (p := ⟨b, 12, none⟩) hXb _
      have hz5 : w5.heap.size = w.heap.size := by
        subst hW
        simp [World.drewN]
      clear hW
      go_end0
      refine ⟨rfl, a, b, (f a).rk, .inl ⟨rfl, rfl⟩, ?_, hB5, hz5⟩
      have e9 : (fun i => if i = b then { f b with td := some a, si := t } else f i) = tiedF f a a b (f a).rk t := by
          funext i
          unfold tiedF
          by_cases i1 : i = b
          · subst i1
            simp
          · by_cases i2 : i = a
            · subst i2
              simp [hab, hm]
            · simp [i1, i2]
      rw [hf5, e9] at hC5
      exact hC5

end Go.Proofs.Ytngomcicdcgldab

namespace Go.Proofs.Ytngomcicdcgldab

/-- Types, perhaps without end: what stands at each place. -/
abbrev DT := List Nat → Option Nd

/-- A node over its kids. -/
def con (n : Nd) (ds : List DT) : DT
  | [] => some n
  | i :: p => match ds[i]? with
    | some d => d p
    | none => none

theorem con_nd {n m : Nd} {ds es : List DT} (h : con n ds = con m es) : n = m := by
  have := congrFun h []
  simpa [con] using this

theorem con_kids {n m : Nd} {ds es : List DT} (h : con n ds = con m es) (hl : ds.length = es.length) : ds = es := by
  apply List.ext_getElem hl
  intro i h1 h2
  funext p
  have := congrFun h (i :: p)
  simpa [con, List.getElem?_eq_getElem h1, List.getElem?_eq_getElem h2] using this

/-- What a cell says, without the store: its node, its kids, and whether it is an unknown that may be told. -/
structure GC where
  nd : Nd
  ks : List Nat
  op : Bool

/-- The types of all cells agree with what the cells say: linked ones are the same, and a head that isn't open is its node over its kids. -/
def Sat (X : Nat → Prop) (g : Nat → GC) (lk : Nat → Option Nat) (θ : Nat → DT) : Prop :=
  (∀ i j, lk i = some j → θ i = θ j) ∧ ∀ i, X i → lk i = none → (g i).op = false → θ i = con (g i).nd ((g i).ks.map θ)

/-- The same, but for what one cell says. -/
def SatW (X : Nat → Prop) (g : Nat → GC) (lk : Nat → Option Nat) (b : Nat) (θ : Nat → DT) : Prop :=
  (∀ i j, lk i = some j → θ i = θ j) ∧ ∀ i, X i → i ≠ b → lk i = none → (g i).op = false → θ i = con (g i).nd ((g i).ks.map θ)

theorem sat_w {X : Nat → Prop} {g : Nat → GC} {lk : Nat → Option Nat} {b : Nat} {θ : Nat → DT} (hX : X b) (hb : lk b = none) : Sat X g lk θ ↔ SatW X g lk b θ ∧ ((g b).op = false → θ b = con (g b).nd ((g b).ks.map θ)) := by
  constructor
  · rintro ⟨h1, h2⟩
    exact ⟨⟨h1, fun i hi _ => h2 i hi⟩, h2 b hX hb⟩
  · rintro ⟨⟨h1, h2⟩, h3⟩
    refine ⟨h1, fun i hi hl ho => ?_⟩
    by_cases hib : i = b
    · subst hib; exact h3 ho
    · exact h2 i hi hib hl ho

/-- A forest in which a head is linked to another. -/
def tied (lk : Nat → Option Nat) (h q : Nat) : Nat → Option Nat := fun i => if i = q then some h else lk i

theorem sat_tie {X : Nat → Prop} {g g' : Nat → GC} {lk : Nat → Option Nat} {a b h q : Nat} (hXa : X a) (hXb : X b) (hab : a ≠ b) (ha : lk a = none) (hb : lk b = none) (hq : h = a ∧ q = b ∨ h = b ∧ q = a) (hg : g' h = g a) (hg' : ∀ i, i ≠ h → g' i = g i) (θ : Nat → DT) :
    Sat X g' (tied lk h q) θ ↔ SatW X g lk b θ ∧ θ a = θ b := by
  have hhq : h ≠ q := by
    rcases hq with ⟨rfl, rfl⟩ | ⟨rfl, rfl⟩
    · exact hab
    · exact fun e => hab e.symm
  have hlq : lk q = none := by rcases hq with ⟨rfl, rfl⟩ | ⟨rfl, rfl⟩ <;> assumption
  have hlh : lk h = none := by rcases hq with ⟨rfl, rfl⟩ | ⟨rfl, rfl⟩ <;> assumption
  have hXh : X h := by rcases hq with ⟨rfl, rfl⟩ | ⟨rfl, rfl⟩ <;> assumption
  have hth : tied lk h q h = none := by simp [tied, hhq, hlh]
  have hother : ∀ i, i ≠ h → i ≠ q → i ≠ a ∧ i ≠ b := by rcases hq with ⟨rfl, rfl⟩ | ⟨rfl, rfl⟩ <;> exact fun i h1 h2 => by simp_all
  have habq : ∀ i, i ≠ a → i ≠ b → i ≠ h ∧ i ≠ q := by rcases hq with ⟨rfl, rfl⟩ | ⟨rfl, rfl⟩ <;> exact fun i h1 h2 => by simp_all
  constructor
  · rintro ⟨h1, h2⟩
    have e0 : θ q = θ h := h1 q h (by simp [tied])
    have e1 : θ a = θ b := by rcases hq with ⟨rfl, rfl⟩ | ⟨rfl, rfl⟩ <;> simp [e0]
    have eh : θ h = θ a := by rcases hq with ⟨rfl, rfl⟩ | ⟨rfl, rfl⟩ <;> simp [e1]
    refine ⟨⟨fun i j e => ?_, fun i hi hib hl ho => ?_⟩, e1⟩
    · refine h1 i j ?_
      have : i ≠ q := fun e9 => by subst e9; rw [hlq] at e; cases e
      simp [tied, this, e]
    · by_cases hia : i = a
      · subst hia
        have := h2 h hXh hth (by rw [hg]; exact ho)
        rw [hg, eh] at this
        exact this
      · obtain ⟨n1, n2⟩ := habq i hia hib
        have := h2 i hi (by simp [tied, n2, hl]) (by rw [hg' i n1]; exact ho)
        rw [hg' i n1] at this
        exact this
  · rintro ⟨⟨h1, h2⟩, e1⟩
    have eh : θ h = θ a := by rcases hq with ⟨rfl, rfl⟩ | ⟨rfl, rfl⟩ <;> simp [e1]
    have eq : θ q = θ a := by rcases hq with ⟨rfl, rfl⟩ | ⟨rfl, rfl⟩ <;> simp [e1]
    refine ⟨fun i j e => ?_, fun i hi hl ho => ?_⟩
    · by_cases hiq : i = q
      · subst hiq
        simp [tied] at e
        subst e
        rw [eq, eh]
      · simp only [tied, hiq, if_false] at e
        exact h1 i j e
    · have hiq : i ≠ q := fun e9 => by subst e9; simp [tied] at hl
      simp only [tied, hiq, if_false] at hl
      by_cases hih : i = h
      · subst hih
        rw [hg] at ho ⊢
        rw [eh]
        exact h2 a hXa hab ha ho
      · obtain ⟨n1, n2⟩ := hother i hih hiq
        rw [hg' i hih] at ho ⊢
        exact h2 i hi n2 hl ho

/-- The second one is open: no more is asked. -/
theorem sat_open {X : Nat → Prop} {g g' : Nat → GC} {lk : Nat → Option Nat} {a b h q : Nat} (hXa : X a) (hXb : X b) (hab : a ≠ b) (ha : lk a = none) (hb : lk b = none) (hq : h = a ∧ q = b ∨ h = b ∧ q = a) (hg : g' h = g a) (hg' : ∀ i, i ≠ h → g' i = g i) (ho : (g b).op = true) (θ : Nat → DT) :
    Sat X g' (tied lk h q) θ ↔ Sat X g lk θ ∧ θ a = θ b := by
  rw [sat_tie hXa hXb hab ha hb hq hg hg', sat_w (g := g) hXb hb]
  constructor
  · rintro ⟨h1, h2⟩
    exact ⟨⟨h1, fun e => by rw [ho] at e; cases e⟩, h2⟩
  · rintro ⟨⟨h1, _⟩, h2⟩
    exact ⟨h1, h2⟩

/-- Neither is open and their nodes are the same: their kids are the same too. -/
theorem sat_both {X : Nat → Prop} {g g' : Nat → GC} {lk : Nat → Option Nat} {a b h q : Nat} (hXa : X a) (hXb : X b) (hab : a ≠ b) (ha : lk a = none) (hb : lk b = none) (hq : h = a ∧ q = b ∨ h = b ∧ q = a) (hg : g' h = g a) (hg' : ∀ i, i ≠ h → g' i = g i) (hoa : (g a).op = false) (hob : (g b).op = false) (hn : (g a).nd = (g b).nd) (hl : (g a).ks.length = (g b).ks.length) (θ : Nat → DT) :
    (Sat X g' (tied lk h q) θ ∧ (g a).ks.map θ = (g b).ks.map θ) ↔ Sat X g lk θ ∧ θ a = θ b := by
  rw [sat_tie hXa hXb hab ha hb hq hg hg', sat_w (g := g) hXb hb]
  constructor
  · rintro ⟨⟨h1, h2⟩, h3⟩
    refine ⟨⟨h1, fun _ => ?_⟩, h2⟩
    rw [← h2, ← hn, ← h3]
    exact h1.2 a hXa hab ha hoa
  · rintro ⟨⟨h1, h3⟩, h2⟩
    refine ⟨⟨h1, h2⟩, ?_⟩
    have e1 := h1.2 a hXa hab ha hoa
    have e2 := h3 hob
    rw [← h2, e1] at e2
    exact con_kids e2 (by simpa using hl)

/-- Neither is open and their nodes are not the same. -/
theorem sat_clash {X : Nat → Prop} {g : Nat → GC} {lk : Nat → Option Nat} {a b : Nat} (hXa : X a) (hXb : X b) (ha : lk a = none) (hb : lk b = none) (hoa : (g a).op = false) (hob : (g b).op = false) (hn : (g a).nd ≠ (g b).nd) (θ : Nat → DT) (hs : Sat X g lk θ) : θ a ≠ θ b := by
  intro e
  have e1 := hs.2 a hXa ha hoa
  have e2 := hs.2 b hXb hb hob
  rw [← e, e1] at e2
  exact hn (con_nd e2)

/-- A cell and its head are the same. -/
theorem Sat.head {X : Nat → Prop} {g : Nat → GC} {lk : Nat → Option Nat} {θ : Nat → DT} (hs : Sat X g lk θ) {P : Nat → Nat → Prop} (hP : ∀ i r, P i r → i = r ∨ ∃ j, lk i = some j ∧ P j r) (d : Nat → Nat) (hd : ∀ i j, lk i = some j → d j < d i) : ∀ n i r, d i < n → P i r → θ i = θ r := by
  intro n
  induction n with
  | zero => intro i r h; omega
  | succ n ih =>
    intro i r h hp
    rcases hP i r hp with e | ⟨j, e, hj⟩
    · rw [e]
    · rw [hs.1 i j e]
      exact ih j r (by have := hd i j e; omega) hj

end Go.Proofs.Ytngomcicdcgldab

namespace Go.Proofs.Ytngomcicdcgldab
open Go.RowKit

/-- A cell's kids: a slice of pointers in a block that isn't a cell's. -/
def KidRow (w : World) (X : Nat → Prop) (s : Option Addr × Nat × Nat) (l : List Nat) : Prop :=
  (s.2.1 = l.length ∧ l.length ≤ 20000) ∧ (l = [] ∨ ∃ g cur, s.1 = some ⟨g, 0, none⟩ ∧ ¬ X g ∧ g < w.heap.size ∧ w.heap[g]? = some (.cells cur 55 (0, 0)) ∧ ∀ i (h : i < l.length), cur[i]? = some (.pointer (some ⟨l[i], 0, none⟩)))

/-- The store: its cells, their forest, their kids. -/
structure CSto (w : World) (X : Nat → Prop) (f : Nat → CC) (lk : Nat → Option Nat) (d : Nat → Nat) (K : (Option Addr × Nat × Nat) → List Nat) : Prop where
  cells : Cells w X f lk
  acyc : Acyc lk d
  rows : ∀ b, X b → KidRow w X (f b).ks (K (f b).ks)
  inX : ∀ b, X b → ∀ k ∈ K (f b).ks, X k
  arity : ∀ b, X b → ((K (f b).ks).length : Int) = (f b).nd.kids
  met : ∀ b, X b → (f b).nd.kind = 61 → K (f b).ks = []
  low : ∀ b, X b → (f b).lv ≤ 1

/-- What a cell says. -/
def gc (K : (Option Addr × Nat × Nat) → List Nat) (f : Nat → CC) : Nat → GC := fun i => ⟨(f i).nd, K (f i).ks, (f i).open?⟩

theorem KidRow.but {w w' : World} {X : Nat → Prop} {s : Option Addr × Nat × Nat} {l : List Nat} (h : KidRow w X s l) (hb : But X w w') : KidRow w' X s l := by
  refine ⟨h.1, ?_⟩
  rcases h.2 with e | ⟨g, cur, h1, h2, h3, h4, h5⟩
  · exact .inl e
  · exact .inr ⟨g, cur, h1, h2, Nat.lt_of_lt_of_le h3 hb.size, (hb.block g h3 h2).trans h4, h5⟩

/-- Every cell has a head. -/
theorem Acyc.head {lk : Nat → Option Nat} {d : Nat → Nat} (ha : Acyc lk d) : ∀ n i, d i < n → ∃ r, Hd lk i r := by
  intro n
  induction n with
  | zero => intro i h; omega
  | succ n ih =>
    intro i h
    cases e : lk i with
    | none => exact ⟨i, .root e⟩
    | some j =>
      obtain ⟨r, hr⟩ := ih j (by have := ha i j e; omega)
      exact ⟨r, .step e hr⟩

theorem Hd.inX {w : World} {X : Nat → Prop} {f : Nat → CC} {lk : Nat → Option Nat} (h : Cells w X f lk) {i r : Nat} (hr : Hd lk i r) (hi : X i) : X r := by
  induction hr with
  | root _ => exact hi
  | step h1 _ ih => exact ih (h.link _ _ h1).2

theorem Hd.sat {X : Nat → Prop} {g : Nat → GC} {lk : Nat → Option Nat} {θ : Nat → DT} (hs : Sat X g lk θ) {i r : Nat} (hr : Hd lk i r) : θ i = θ r := by
  induction hr with
  | root _ => rfl
  | step h1 _ ih => exact (hs.1 _ _ h1).trans ih

theorem sat_links {lk : Nat → Option Nat} {d : Nat → Nat} (ha : Acyc lk d) {θ : Nat → DT} : (∀ i j, lk i = some j → θ i = θ j) ↔ ∀ i r, Hd lk i r → θ i = θ r := by
  constructor
  · intro h i r hr
    induction hr with
    | root _ => rfl
    | step h1 _ ih => exact (h _ _ h1).trans ih
  · intro h i j e
    obtain ⟨r, hr⟩ := ha.head _ j (Nat.lt_succ_self _)
    rw [h i r (.step e hr), h j r hr]

theorem root_iff (lk : Nat → Option Nat) (i : Nat) : lk i = none ↔ Hd lk i i := by
  constructor
  · exact fun h => .root h
  · exact fun h => h.is_root

/-- Forests with the same heads ask the same. -/
theorem SameHd.sat {X : Nat → Prop} {g : Nat → GC} {lk lk' : Nat → Option Nat} {d d' : Nat → Nat} (h : SameHd lk lk') (ha : Acyc lk d) (ha' : Acyc lk' d') (θ : Nat → DT) : Sat X g lk' θ ↔ Sat X g lk θ := by
  unfold Sat
  rw [sat_links ha, sat_links ha']
  constructor
  · rintro ⟨h1, h2⟩
    exact ⟨fun i r hr => h1 i r ((h i r).1 hr), fun i hi hl => h2 i hi ((root_iff lk' i).2 ((h i i).1 ((root_iff lk i).1 hl)))⟩
  · rintro ⟨h1, h2⟩
    exact ⟨fun i r hr => h1 i r ((h i r).2 hr), fun i hi hl => h2 i hi ((root_iff lk i).2 ((h i i).2 ((root_iff lk' i).1 hl)))⟩

/-- Two heads are tied: links lead somewhere still. -/
theorem acyc_tied {lk : Nat → Option Nat} {d : Nat → Nat} (ha : Acyc lk d) {h q : Nat} (hh : lk h = none) (hq : lk q = none) (hne : h ≠ q) : ∃ d', Acyc (tied lk h q) d' := by
  classical
  refine ⟨fun i => d i + if Hd lk i q then d h + 1 else 0, fun i j e => ?_⟩
  by_cases hi : i = q
  · subst hi
    simp [tied] at e
    subst e
    have h1 : Hd lk i i := .root hq
    have h2 : ¬ Hd lk h i := fun h9 => hne ((Hd.root hh).fun h9)
    simp [h1, h2]
    omega
  · simp only [tied, hi, if_false] at e
    have h1 : Hd lk i q ↔ Hd lk j q := by
      constructor
      · intro h9
        cases h9 with
        | root h8 => rw [h8] at e; cases e
        | step h8 h7 => rw [h8] at e; cases e; exact h7
      · exact fun h9 => .step e h9
    have := ha i j e
    by_cases h9 : Hd lk j q
    · simp [h1.2 h9, h9]; omega
    · have : ¬ Hd lk i q := fun h8 => h9 (h1.1 h8)
      simp [this, h9]; omega

/-- Behind a head's call. -/
theorem CSto.short {w w' : World} {X : Nat → Prop} {f : Nat → CC} {lk lk' : Nat → Option Nat} {d : Nat → Nat} {K : (Option Addr × Nat × Nat) → List Nat} (h : CSto w X f lk d K) (hc : Cells w' X f lk') (ha : Acyc lk' d) (hb : But X w w') : CSto w' X f lk' d K :=
  ⟨hc, ha, fun b hx => (h.rows b hx).but hb, h.inX, h.arity, h.met, h.low⟩

/-- What a cell says: its node, its kids, its level. -/
def CC.core (c : CC) : Nd × (Option Addr × Nat × Nat) × Int := (c.nd, c.ks, c.lv)

theorem core_parts {c d : CC} (h : c.core = d.core) : c.nd = d.nd ∧ c.ks = d.ks ∧ c.lv = d.lv := by
  simp only [CC.core, Prod.mk.injEq] at h
  exact ⟨h.1, h.2.1, h.2.2⟩

theorem tiedF_rest (f : Nat → CC) {a h q : Nat} (r t : Int) : ∀ i, i ≠ h → (tiedF f a h q r t i).core = (f i).core := by
  intro i hi
  unfold tiedF
  by_cases e : i = q
  · subst e
    rw [if_pos rfl]
    rfl
  · rw [if_neg e, if_neg hi]

theorem tiedF_head (f : Nat → CC) {a h q : Nat} (hne : h ≠ q) (r t : Int) : (tiedF f a h q r t h).core = if (f h).nd.kind = 61 then (f a).core else (f h).core := by
  unfold tiedF
  rw [if_neg hne, if_pos rfl]
  split <;> rfl

/-- Behind a tie. -/
theorem CSto.tied {w w' : World} {X : Nat → Prop} {f f' : Nat → CC} {lk : Nat → Option Nat} {d : Nat → Nat} {K : (Option Addr × Nat × Nat) → List Nat} (H : CSto w X f lk d K) {a b h q : Nat} (hXa : X a) (hXh : X h) (hab : a ≠ b) (ha : lk a = none) (hb : lk b = none) (hq : h = a ∧ q = b ∨ h = b ∧ q = a)
    (hc : Cells w' X f' (tied lk h q)) (hf : ∀ i, i ≠ h → (f' i).core = (f i).core) (e1 : (f' h).core = (f a).core ∨ (f' h).core = (f h).core) (hB : But X w w') : ∃ d', CSto w' X f' (tied lk h q) d' K := by
  have hhq : h ≠ q := by
    rcases hq with ⟨rfl, rfl⟩ | ⟨rfl, rfl⟩
    · exact hab
    · exact fun e => hab e.symm
  have hlq : lk q = none := by rcases hq with ⟨rfl, rfl⟩ | ⟨rfl, rfl⟩ <;> assumption
  have hlh : lk h = none := by rcases hq with ⟨rfl, rfl⟩ | ⟨rfl, rfl⟩ <;> assumption
  obtain ⟨d', hd'⟩ := acyc_tied H.acyc hlh hlq hhq
  have key : ∀ x, X x → ∃ y, X y ∧ (f' x).core = (f y).core := by
    intro x hx
    by_cases e : x = h
    · subst e
      rcases e1 with e1 | e1
      · exact ⟨a, hXa, e1⟩
      · exact ⟨x, hXh, e1⟩
    · exact ⟨x, hx, hf x e⟩
  refine ⟨d', hc, hd', fun x hx => ?_, fun x hx => ?_, fun x hx => ?_, fun x hx => ?_, fun x hx => ?_⟩
  all_goals
    obtain ⟨y, hy, e9⟩ := key x hx
    obtain ⟨n1, n2, n3⟩ := core_parts e9
  · rw [n2]; exact (H.rows y hy).but hB
  · rw [n2]; exact H.inX y hy
  · rw [n1, n2]; exact H.arity y hy
  · rw [n1, n2]; exact H.met y hy
  · rw [n3]; exact H.low y hy

theorem gc_core {K : (Option Addr × Nat × Nat) → List Nat} {f f' : Nat → CC} {a h : Nat} (e : (f' h).core = (f a).core) : gc K f' h = gc K f a := by
  obtain ⟨n1, n2, n3⟩ := core_parts e
  simp [gc, CC.open?, n1, n2, n3]

end Go.Proofs.Ytngomcicdcgldab

namespace Go.Proofs.Ytngomcicdcgldab
open Go.RowKit

/-- Behind calls that only shorten ways. -/
def Shortened (X : Nat → Prop) (f : Nat → CC) (lk : Nat → Option Nat) (d : Nat → Nat) (w w' : World) : Prop := ∃ lk', Cells w' X f lk' ∧ SameHd lk lk' ∧ Acyc lk' d ∧ But X w w'

/-- How long a slice is. -/
def lenOf : Value → Nat
  | .slice _ n _ => n
  | _ => 0

theorem But.undrew {S : Nat → Prop} {w w' : World} (h : But S w.drew w') : But S w w' := ⟨h.os, h.tape, h.output, h.size, h.block⟩

theorem Shortened.undrew {X : Nat → Prop} {f : Nat → CC} {lk : Nat → Option Nat} {d : Nat → Nat} {w w' : World} (h : Shortened X f lk d w.drew w') : Shortened X f lk d w w' := by
  obtain ⟨lk', h1, h2, h3, h4⟩ := h
  exact ⟨lk', h1, h2, h3, h4.undrew⟩

set_option maxRecDepth 20000 in
set_option maxHeartbeats 2000000 in
theorem lower1_any (X : Nat → Prop) (f : Nat → CC) (lk : Nat → Option Nat) (d : Nat → Nat) (HA : Hid (Acyc lk d)) (w : World) (hC : Cells w X f lk) (c : Nat) (hX : X c) (hl : lk c = none) (bx : Nat) (level : Int) (hbx : w.cell? ⟨bx, 0, none⟩ = some (.int .i64 level)) (hbX : ¬ X bx) (hle : (f c).lv ≤ level) :
    Calls Try.prog 86 #[.pointer (some ⟨c, 0, none⟩), .pointer (some ⟨bx, 0, none⟩)] w fun e w' => e = .returned (.slice none 0 0) ∧ Shortened X f lk d w w' := by
  go_enter Try.func86, Try.ntmps86
  go_wp2_with fail
  refine (head_any X f lk d HA w hC c c hX (Hd.root hl)).mono ?_
  rintro e w1 ⟨rfl, lk1, hC1, hS1, hA1, hB1, hz1⟩
  have hbx1 : w1.cell? ⟨bx, 0, none⟩ = some (.int .i64 level) := (hB1.cellB (lt_of_cell hbx) hbX).trans hbx
  obtain ⟨_, _, _, _, _, _, _, _, c8, _, _, _, _, _⟩ := (hC1.at' c hX).cell
  have H9 : Hid (Shortened X f lk d w w1) := ⟨lk1, hC1, hS1, hA1, hB1⟩
  have tle : decide ((f c).lv ≤ level) = true := decide_eq_true hle
  clear hC hC1 hS1 hA1 hB1 hbx
  go_wp2
  go_quiet (fail)
  go_wp2
  go_ret
  obtain ⟨lk1, h1, h2, h3, h4⟩ := H9.out
  exact ⟨rfl, lk1, h1.drewN _, h2, h3, h4.drewN _⟩

set_option maxRecDepth 20000 in
set_option maxHeartbeats 2000000 in
theorem until1_any (X : Nat → Prop) (f : Nat → CC) (lk : Nat → Option Nat) (d : Nat → Nat) (HA : Hid (Acyc lk d)) (w : World) (hC : Cells w X f lk) (c : Nat) (hX : X c) (hl : lk c = none) (bx g : Nat) (level : Int) (hbx : w.cell? ⟨bx, 0, none⟩ = some (.int .i64 level)) (hbX : ¬ X bx) (hle : (f c).lv ≤ level)
    (hg : w.cell? ⟨g, 0, none⟩ = some (.pointer (some ⟨c, 0, none⟩))) :
    Calls Try.prog 85 #[.slice (some ⟨g, 0, none⟩) 1 1, .func (.func 86) #[] #[.pointer (some ⟨bx, 0, none⟩)]] w fun e w' => e = .returned (.tuple #[]) ∧ Shortened X f lk d w w' := by
  have HC := lower1_any X f lk d HA w.drew hC.drew c hX hl bx level hbx hbX hle
  go_enter Try.func85, Try.ntmps85
  go_wp2
  go_loopw [0] (fun v wr => (v = .slice (some ⟨g, 0, none⟩) 1 1 ∧ wr = w) ∨ (v = .slice (some ⟨g, 0, none⟩) 0 1 ∧ Shortened X f lk d w wr)) (fun v _ => lenOf v)
  case atStart => exact .inl ⟨rfl, rfl⟩
  case round =>
    rcases hrel with ⟨rfl, rfl⟩ | ⟨rfl, hS⟩
    · go_wp2_with fail
      go_region_law (go_simp; refine HC.mono ?_; rintro e w1 ⟨rfl, hS⟩)
      all_goals
        have hS := hS.undrew
        clear HC
        simp only [Act.put, List.getElem_toArray, List.getElem_cons_succ, List.getElem_cons_zero, List.setIfInBounds_toArray, List.set_cons_zero]
        go_wp2
        go_roundw
        case rel => exact .inr ⟨rfl, hS⟩
        case measure => simp [lenOf]
    · clear HC
      go_wp2
      go_end0
      exact ⟨rfl, hS⟩

set_option maxRecDepth 20000 in
set_option maxHeartbeats 2000000 in
theorem lower_any (X : Nat → Prop) (f : Nat → CC) (lk : Nat → Option Nat) (d : Nat → Nat) (HA : Hid (Acyc lk d)) (w : World) (hC : Cells w X f lk) (hlt : ∀ b, X b → b < w.heap.size) (c : Nat) (hX : X c) (hl : lk c = none) (level : Int) (hle : (f c).lv ≤ level) :
    Calls Try.prog 77 #[.pointer (some ⟨c, 0, none⟩), .int .i64 level] w fun e w' => e = .returned (.tuple #[]) ∧ Shortened X f lk d w w' := by
  have hb0 : Below w.heap.size w (w.alloc (.cells #[.int .i64 level] 3)) := (Below.refl _ w).alloc (Nat.le_refl _) _
  have hb1 := hb0.alloc hb0.size (.cells #[.pointer (some ⟨c, 0, none⟩)] 55)
  have hB : But (fun _ => False) w ((w.alloc (.cells #[.int .i64 level] 3)).alloc (.cells #[.pointer (some ⟨c, 0, none⟩)] 55)) := But.ofBelow hb1
  have hC1 := hC.but hB (fun _ _ h => h)
  have k0 : ((w.alloc (.cells #[.int .i64 level] 3)).alloc (.cells #[.pointer (some ⟨c, 0, none⟩)] 55)).cell? ⟨w.heap.size, 0, none⟩ = some (.int .i64 level) := by
    have h8 := heap_alloc_new w (.cells #[.int .i64 level] 3)
    have h9 := (heap_alloc_old (w.alloc (.cells #[.int .i64 level] 3)) (.cells #[.pointer (some ⟨c, 0, none⟩)] 55) (r := w.heap.size) (by simp)).trans h8
    rw [cell_of_row _ _ _ _ 3 (0, 0) h9]
    rfl
  have k1 : ((w.alloc (.cells #[.int .i64 level] 3)).alloc (.cells #[.pointer (some ⟨c, 0, none⟩)] 55)).cell? ⟨w.heap.size + 1, 0, none⟩ = some (.pointer (some ⟨c, 0, none⟩)) := by
    have h9 := heap_alloc_new (w.alloc (.cells #[.int .i64 level] 3)) (.cells #[.pointer (some ⟨c, 0, none⟩)] 55)
    rw [World.size_alloc] at h9
    rw [cell_of_row _ _ _ _ 55 (0, 0) h9]
    rfl
  have HU := until1_any X f lk d HA _ hC1 c hX hl w.heap.size (w.heap.size + 1) level k0 (fun h => Nat.lt_irrefl _ (hlt _ h)) hle k1
  clear hC hC1 k0 k1 hb0 hb1
  go_enter Try.func77, Try.ntmps77
  go_wp2_with fail
  refine HU.mono ?_
  rintro e w1 ⟨rfl, lk1, h1, h2, h3, h4⟩
  clear HU
  have HR : Hid (Shortened X f lk d w w1) := ⟨lk1, h1, h2, h3, (hB.mono (fun _ h => h.elim)).trans h4⟩
  clear h1 h2 h3 h4 hB
  go_wp2
  go_end0
  exact ⟨rfl, HR.out⟩

end Go.Proofs.Ytngomcicdcgldab

namespace Go.Proofs.Ytngomcicdcgldab
open Go.RowKit

/-- '!=' of two nodes. -/
theorem neqC (x y : Nd) (w : World) :
    (binOp .neq 48 (.agg #[.int .i64 x.kind, .int .i64 x.num, .string x.text, .int .i64 x.kids, .int .i64 x.place]) (.agg #[.int .i64 y.kind, .int .i64 y.num, .string y.text, .int .i64 y.kids, .int .i64 y.place])).run Try.prog w =
      .ok (.bool (!(x.eqb y))) w := by
  unfold Nd.eqb
  go_simp
  repeat' split
  all_goals simp_all

theorem eqbC_eq {x y : Nd} (h : x.eqb y = true) : x = y := by
  obtain ⟨a1, a2, a3, a4, a5⟩ := x
  obtain ⟨b1, b2, b3, b4, b5⟩ := y
  simp only [Nd.eqb, Bool.and_eq_true, beq_iff_eq] at h
  obtain ⟨⟨⟨⟨e1, e2⟩, e3⟩, e4⟩, e5⟩ := h
  have e6 : a3 = b3 := by
    rw [ByteArray.toList_eq, ByteArray.toList_eq] at e3
    cases a3; cases b3
    simp only [ByteArray.mk.injEq]
    exact Array.toList_inj.1 e3
  subst e1 e2 e4 e5 e6
  rfl

theorem Try.infoP : (Try.prog.info? 89).map (fun i => (i.zero, i.size, i.bytes)) = some (some (.agg #[.pointer none, .pointer none]), 2, 16) := by kernel_rfl

/-- Pairs of cells, as they lie. -/
def pcells (P : List (Nat × Nat)) : List Value := P.flatMap fun p => [.pointer (some ⟨p.1, 0, none⟩), .pointer (some ⟨p.2, 0, none⟩)]

theorem pcells_length (P : List (Nat × Nat)) : (pcells P).length = P.length * 2 := by
  induction P with
  | nil => rfl
  | cons p P ih =>
    simp only [pcells, List.flatMap_cons, List.length_append, List.length_cons, List.length_nil] at ih ⊢
    omega

theorem pcells_append (P R : List (Nat × Nat)) : pcells (P ++ R) = pcells P ++ pcells R := by simp [pcells]

theorem pcells_one (P : List (Nat × Nat)) : ∀ u ∈ pcells P, u.oneCell' = true := by
  intro u hu
  simp only [pcells, List.mem_flatMap, List.mem_cons, List.not_mem_nil, or_false] at hu
  obtain ⟨p, _, rfl | rfl⟩ := hu <;> rfl

theorem pair_cells (w : World) (x y : Nat) : ∀ j u, (pcells [(x, y)])[j]? = some u → (w.alloc (.cells #[.pointer (some ⟨x, 0, none⟩), .pointer (some ⟨y, 0, none⟩)] 89)).cell? (Addr.add ⟨w.heap.size, 0, none⟩ j) = some u := by
  intro j u hj
  have ad : Addr.add ⟨w.heap.size, 0, none⟩ j = ⟨w.heap.size, j, none⟩ := by
    unfold Addr.add
    split
    · simp_all
    · simp
  rw [ad, cell_of_row _ w.heap.size j _ 89 (0, 0) (heap_alloc_new _ _), ← hj]
  simp [pcells]

/-- A slice of pairs of cells: nil, or a row. -/
def PairRow (w : World) (s : Option Addr × Nat × Nat) (P : List (Nat × Nat)) : Prop :=
  P.length ≤ 20000 ∧ ((s = (none, 0, 0) ∧ P = []) ∨ ∃ g c, s = (some ⟨g, 0, none⟩, P.length, c) ∧ ∀ j u, (pcells P)[j]? = some u → w.cell? (Addr.add ⟨g, 0, none⟩ j) = some u)

theorem zip_map {kx ky : List Nat} {θ : Nat → DT} (h : kx.length = ky.length) : (∀ p ∈ kx.zip ky, θ p.1 = θ p.2) ↔ kx.map θ = ky.map θ := by
  induction kx generalizing ky with
  | nil =>
    cases ky with
    | nil => simp
    | cons y ky => simp at h
  | cons x kx ih =>
    cases ky with
    | nil => simp at h
    | cons y ky =>
      simp only [List.length_cons, Nat.add_right_cancel_iff] at h
      simp only [List.zip_cons_cons, List.mem_cons, forall_eq_or_imp, List.map_cons, List.cons.injEq, ih h]

theorem zip_take_succ {kx ky : List Nat} {k : Nat} (h1 : k < kx.length) (h2 : k < ky.length) : (kx.zip ky).take (k + 1) = (kx.zip ky).take k ++ [(kx[k], ky[k])] := by
  have h3 : k < (kx.zip ky).length := by simp; omega
  rw [List.take_succ_eq_append_getElem h3, List.getElem_zip]

/-- What equateHeads leaves. -/
def HRes (X : Nat → Prop) (f : Nat → CC) (lk : Nat → Option Nat) (K : (Option Addr × Nat × Nat) → List Nat) (rt : List Nat) (a b : Nat) (w : World) (e : Ending) (w' : World) : Prop :=
  But X w w' ∧ ((∃ s P, e = .returned (.tuple #[.slice s.1 s.2.1 s.2.2, .nilIface]) ∧ PairRow w' s P ∧ (∀ p ∈ P, X p.1 ∧ X p.2) ∧
      ∃ (f' : Nat → CC) (lk' : Nat → Option Nat) (d' : Nat → Nat) (rt' : List Nat), CSto w' X f' lk' d' K ∧ (rt'.length < rt.length ∨ (P = [] ∧ rt'.length ≤ rt.length)) ∧ (∀ i, X i → lk' i = none → i ∈ rt') ∧ ∀ θ, (Sat X (gc K f') lk' θ ∧ ∀ p ∈ P, θ p.1 = θ p.2) ↔ (Sat X (gc K f) lk θ ∧ θ a = θ b)) ∨
    ((∃ t v, e = .returned (.tuple #[.slice none 0 0, .iface t v])) ∧ ∀ θ, Sat X (gc K f) lk θ → θ a ≠ θ b))

set_option maxRecDepth 20000 in
set_option maxHeartbeats 2000000 in
theorem equateHeads_any (X : Nat → Prop) (f : Nat → CC) (lk : Nat → Option Nat) (d : Nat → Nat) (K : (Option Addr × Nat × Nat) → List Nat) (w : World) (a b : Nat) (rt : List Nat) (hS : CSto w X f lk d K) (hroots : ∀ i, X i → lk i = none → i ∈ rt) (hXa : X a) (hXb : X b) (hla : lk a = none) (hlb : lk b = none)
    (sb : Nat) (t : Int) (hsX : ¬ X sb) (hst : w.cell? ⟨sb, 1, none⟩ = some (.int .i64 t)) :
    Calls Try.prog 55 #[.pointer (some ⟨sb, 0, none⟩), .pointer (some ⟨a, 0, none⟩), .pointer (some ⟨b, 0, none⟩)] w fun e w' => HRes X f lk K rt a b w e w' := by
  have HC := hS.cells
  have HSS : Hid (CSto w X f lk d K) := hS
  have HRT : Hid (∀ i, X i → lk i = none → i ∈ rt) := hroots
  clear hS hroots
  obtain ⟨j9, hj9, hz9⟩ := u_cell
  by_cases hr : a = b
  · subst hr
    have hq := run_eql_ptr_same (w := w) ⟨a, 0, none⟩ u_cp hj9
    go_enter Try.func55, Try.ntmps55
    go_wp2
    go_ret2
    refine ⟨But.refl _ _, .inl ⟨(none, 0, 0), [], rfl, ⟨by simp, .inl ⟨rfl, rfl⟩⟩, by simp, f, lk, d, rt, HSS.out, .inr ⟨rfl, Nat.le_refl _⟩, HRT.out, fun θ => by simp⟩⟩
  · have hq := run_eql_ptr_other (w := w) u_cp hj9 hz9 (a := ⟨a, 0, none⟩) (b := ⟨b, 0, none⟩) (by simp) (HC.at' a hXa) (HC.at' b hXb)
    go_enter Try.func55, Try.ntmps55
    go_wp2_with fail
    have OA : Hid (∀ m, Calls Try.prog 76 #[.pointer (some ⟨a, 0, none⟩)] (w.drewN m) fun e w' => e = .returned (.bool (f a).open?) ∧ w' = w.drewN m) := fun m => isOpen_any (w.drewN m) a (f a) (lk a) ((HC.drewN m).at' a hXa)
    have OB : Hid (∀ m, Calls Try.prog 76 #[.pointer (some ⟨b, 0, none⟩)] (w.drewN m) fun e w' => e = .returned (.bool (f b).open?) ∧ w' = w.drewN m) := fun m => isOpen_any (w.drewN m) b (f b) (lk b) ((HC.drewN m).at' b hXb)
    obtain ⟨sw, hsw⟩ : ∃ sw, ((f a).open? && !((f b).open? && decide ((f a).nd.num < (f b).nd.num))) = sw := ⟨_, rfl⟩
    obtain ⟨a0, a1, a2, a3, a4, a5, a6, a7, a8, a9, a10, a11, a12, a13⟩ := (HC.at' a hXa).cell
    obtain ⟨b0, b1, b2, b3, b4, b5, b6, b7, b8, b9, b10, b11, b12, b13⟩ := (HC.at' b hXb).cell
    go_cut [33] from 14 to 32 (fun v wx => v = .bool sw ∧ ∃ m, wx = w.drewN m)
    case first =>
        cases hoa : (f a).open? with
        | false =>
          have OA9 : Hid (∀ m, Calls Try.prog 76 #[.pointer (some ⟨a, 0, none⟩)] (w.drewN m) fun e w' => e = .returned (.bool false) ∧ w' = w.drewN m) := by
            have h9 := OA.out
            rw [hoa] at h9
            exact h9
          rw [hoa] at hsw
          have hsw2 : sw = false := hsw.symm
          subst hsw2
          clear hsw hoa OA OB
          go_quiet ((go_at_call 76; exact Calls.quiet_of_same (OA9.out _)))
          (try go_wp2_with fail)
          go_meet
          exact ⟨rfl, _, rfl⟩
        | true =>
          have OA9 : Hid (∀ m, Calls Try.prog 76 #[.pointer (some ⟨a, 0, none⟩)] (w.drewN m) fun e w' => e = .returned (.bool true) ∧ w' = w.drewN m) := by
            have h9 := OA.out
            rw [hoa] at h9
            exact h9
          cases hob : (f b).open? with
          | false =>
            have OB9 : Hid (∀ m, Calls Try.prog 76 #[.pointer (some ⟨b, 0, none⟩)] (w.drewN m) fun e w' => e = .returned (.bool false) ∧ w' = w.drewN m) := by
              have h9 := OB.out
              rw [hob] at h9
              exact h9
            rw [hoa, hob] at hsw
            have hsw2 : sw = true := hsw.symm
            subst hsw2
            clear hsw hoa OA OB hob
            go_quiet ((first | (go_at_call_of 76 (Value.pointer (some ⟨a, 0, none⟩)); exact Calls.quiet_of_same (OA9.out _)) | (go_at_call_of 76 (Value.pointer (some ⟨b, 0, none⟩)); exact Calls.quiet_of_same (OB9.out _))))
            (try go_wp2_with fail)
            go_meet
            exact ⟨rfl, _, rfl⟩
          | true =>
            have OB9 : Hid (∀ m, Calls Try.prog 76 #[.pointer (some ⟨b, 0, none⟩)] (w.drewN m) fun e w' => e = .returned (.bool true) ∧ w' = w.drewN m) := by
              have h9 := OB.out
              rw [hob] at h9
              exact h9
            rw [hoa, hob] at hsw
            clear hoa OA OB hob
            cases hlt : decide ((f a).nd.num < (f b).nd.num) with
            | true =>
              rw [hlt] at hsw
              have hsw2 : sw = false := hsw.symm
              subst hsw2
              clear hsw
              go_quiet ((first | (go_at_call_of 76 (Value.pointer (some ⟨a, 0, none⟩)); exact Calls.quiet_of_same (OA9.out _)) | (go_at_call_of 76 (Value.pointer (some ⟨b, 0, none⟩)); exact Calls.quiet_of_same (OB9.out _))))
              (try go_wp2_with fail)
              go_meet
              exact ⟨rfl, _, rfl⟩
            | false =>
              rw [hlt] at hsw
              have hsw2 : sw = true := hsw.symm
              subst hsw2
              clear hsw
              go_quiet ((first | (go_at_call_of 76 (Value.pointer (some ⟨a, 0, none⟩)); exact Calls.quiet_of_same (OA9.out _)) | (go_at_call_of 76 (Value.pointer (some ⟨b, 0, none⟩)); exact Calls.quiet_of_same (OB9.out _))))
              (try go_wp2_with fail)
              go_meet
              exact ⟨rfl, _, rfl⟩
    case rest =>
        obtain ⟨rfl, m3, rfl⟩ := hcut
        clear OA OB
        go_upto_if 33 with fail
        go_cut [1, 2] from 14 to 35 (fun v1 v2 wx => ∃ x y : Nat, v1 = .pointer (some ⟨x, 0, none⟩) ∧ v2 = .pointer (some ⟨y, 0, none⟩) ∧ (x = a ∧ y = b ∨ x = b ∧ y = a) ∧ ((f y).open? = false → (f x).open? = false) ∧ wx = w.drewN m3)
        case first =>
          cases sw
          · go_wp2_with fail
            go_meet
            refine ⟨a, b, rfl, rfl, .inl ⟨rfl, rfl⟩, ?_, rfl⟩
            intro hob
            rw [hob] at hsw
            simpa using hsw
          · go_wp2_with fail
            go_meet
            refine ⟨b, a, rfl, rfl, .inr ⟨rfl, rfl⟩, ?_, rfl⟩
            intro hoa
            rw [hoa] at hsw
            cases hsw
        case rest =>
          obtain ⟨x, y, rfl, rfl, hxy, hop, rfl⟩ := hcut
          have hne : x ≠ y := by
            rcases hxy with ⟨rfl, rfl⟩ | ⟨rfl, rfl⟩
            · exact hr
            · exact fun e => hr e.symm
          have hXx : X x := by rcases hxy with ⟨rfl, rfl⟩ | ⟨rfl, rfl⟩ <;> assumption
          have hXy : X y := by rcases hxy with ⟨rfl, rfl⟩ | ⟨rfl, rfl⟩ <;> assumption
          have hlx : lk x = none := by rcases hxy with ⟨rfl, rfl⟩ | ⟨rfl, rfl⟩ <;> assumption
          have hly : lk y = none := by rcases hxy with ⟨rfl, rfl⟩ | ⟨rfl, rfl⟩ <;> assumption
          have HFIN : Hid (∀ θ, (Sat X (gc K f) lk θ ∧ θ x = θ y) ↔ (Sat X (gc K f) lk θ ∧ θ a = θ b)) := by
            intro θ
            rcases hxy with ⟨rfl, rfl⟩ | ⟨rfl, rfl⟩
            · exact Iff.rfl
            · exact ⟨fun h => ⟨h.1, h.2.symm⟩, fun h => ⟨h.1, h.2.symm⟩⟩
          have hst3 : (w.drewN m3).cell? ⟨sb, 1, none⟩ = some (.int .i64 t) := hst
          obtain ⟨w3, hw3⟩ : ∃ w3, w.drewN m3 = w3 := ⟨_, rfl⟩
          have HS3 : Hid (CSto w3 X f lk d K) := by
            show CSto w3 X f lk d K
            rw [← hw3]; exact HSS.out.short (HSS.out.cells.drewN m3) HSS.out.acyc ((But.refl X w).drewN m3)
          have HB3 : Hid (But X w w3) := by
            show But X w w3
            rw [← hw3]; exact (But.refl X w).drewN m3
          have HZ3 : Hid (w3.heap.size = w.heap.size) := by
            show w3.heap.size = w.heap.size
            rw [← hw3]; rfl
          rw [hw3] at hst3 ⊢
          clear hw3 a0 a1 a2 a3 a4 a5 a6 a7 a8 a9 a10 a11 a12 a13 b0 b1 b2 b3 b4 b5 b6 b7 b8 b9 b10 b11 b12 b13 hsw hxy HC HSS hq hr hla hlb hst
          have hC3 := HS3.out.cells
          obtain ⟨a0, a1, a2, a3, a4, a5, a6, a7, a8, a9, a10, a11, a12, a13⟩ := (hC3.at' x hXx).cell
          obtain ⟨b0, b1, b2, b3, b4, b5, b6, b7, b8, b9, b10, b11, b12, b13⟩ := (hC3.at' y hXy).cell
          have hneq := neqC (f x).nd (f y).nd
          have OY := isOpen_any w3 y (f y) (lk y) (hC3.at' y hXy)
          cases hoy : (f y).open? with
          | true =>
            rw [hoy] at OY
            go_wp2_with fail
            refine OY.mono ?_
            rintro e w4 ⟨rfl, rfl⟩
            clear OY
            have hle : (f x).lv ≤ (f y).lv := by
              have h8 := HS3.out.low x hXx
              have h9 := hoy
              simp only [CC.open?, Bool.and_eq_true, decide_eq_true_eq] at h9
              omega
            have hk61 : (f y).nd.kind = 61 := by
              have h9 := hoy
              simp only [CC.open?, Bool.and_eq_true, beq_iff_eq] at h9
              exact h9.1
            have HLT : ∀ b, X b → b < w4.heap.size := fun b hb => (hC3.at' b hb).lt
            go_wp2_with fail
            refine (lower_any X f lk d HS3.out.acyc w4 hC3 HLT x hXx hlx (f y).lv hle).mono ?_
            rintro e w5 ⟨rfl, lk5, hC5, hS5, hA5, hB5⟩
            have hst5 : w5.cell? ⟨sb, 1, none⟩ = some (.int .i64 t) := (hB5.cellB (lt_of_cell hst3) hsX).trans hst3
            have hlx5 : lk5 x = none := (root_iff lk5 x).2 ((hS5 x x).1 ((root_iff lk x).1 hlx))
            have hly5 : lk5 y = none := (root_iff lk5 y).2 ((hS5 y y).1 ((root_iff lk y).1 hly))
            have HS5 : Hid (CSto w5 X f lk5 d K) := HS3.out.short hC5 hA5 hB5
            have HR5 : Hid (∀ i, X i → lk5 i = none → i ∈ rt) := fun i hi hl => HRT.out i hi ((root_iff lk i).2 ((hS5 i i).2 ((root_iff lk5 i).1 hl)))
            have HT5 : Hid (∀ θ, Sat X (gc K f) lk5 θ ↔ Sat X (gc K f) lk θ) := fun θ => hS5.sat HS3.out.acyc hA5 θ
            have HB5 : Hid (But X w w5) := HB3.out.trans hB5
            clear a0 a1 a2 a3 a4 a5 a6 a7 a8 a9 a10 a11 a12 a13 b0 b1 b2 b3 b4 b5 b6 b7 b8 b9 b10 b11 b12 b13 hB5 hA5 hS5 hC3 hst3 HS3 hneq HLT HRT hlx hly
            go_wp2_with fail
            refine (tie_any X f lk5 w5 hC5 sb t hsX hst5 x y hXx hXy hne hlx5 hly5).mono ?_
            rintro e w6 ⟨rfl, h, q, r, hhq, hC6, hB6, _⟩
            have hXq : X q := by rcases hhq with ⟨rfl, rfl⟩ | ⟨rfl, rfl⟩ <;> assumption
            have hXh : X h := by rcases hhq with ⟨rfl, rfl⟩ | ⟨rfl, rfl⟩ <;> assumption
            have hlq : lk5 q = none := by rcases hhq with ⟨rfl, rfl⟩ | ⟨rfl, rfl⟩ <;> assumption
            have hhq2 : h ≠ q := by
              rcases hhq with ⟨rfl, rfl⟩ | ⟨rfl, rfl⟩
              · exact hne
              · exact fun e => hne e.symm
            have ecore : (tiedF f x h q r t h).core = (f x).core := by
              rw [tiedF_head f hhq2]
              rcases hhq with ⟨rfl, rfl⟩ | ⟨rfl, rfl⟩
              · split <;> rfl
              · rw [if_pos hk61]
            obtain ⟨d6, hS6⟩ := HS5.out.tied hXx hXh hne hlx5 hly5 hhq hC6 (tiedF_rest f r t) (.inl ecore) hB6
            have HFI : Hid (∀ θ, Sat X (gc K (tiedF f x h q r t)) (tied lk5 h q) θ ↔ (Sat X (gc K f) lk θ ∧ θ a = θ b)) := by
              intro θ
              rw [← HFIN.out θ, ← HT5.out θ]
              exact sat_open (g := gc K f) (g' := gc K (tiedF f x h q r t)) hXx hXy hne hlx5 hly5 hhq (gc_core ecore) (fun i hi => gc_core (tiedF_rest f r t i hi)) hoy θ
            have HR6 : Hid (∀ i, X i → tied lk5 h q i = none → i ∈ rt.erase q) := by
              intro i hi hl
              have hiq : i ≠ q := fun e9 => by subst e9; simp [tied] at hl
              simp only [tied, hiq, if_false] at hl
              exact (List.mem_erase_of_ne hiq).2 (HR5.out i hi hl)
            have hrt6 : (rt.erase q).length < rt.length := by
              have h9 := HR5.out q hXq hlq
              have h8 := List.length_pos_of_mem h9
              rw [List.length_erase_of_mem h9]
              omega
            have HB6 : Hid (But X w w6) := HB5.out.trans hB6
            have HS6 : Hid (CSto w6 X (tiedF f x h q r t) (tied lk5 h q) d6 K) := hS6
            clear hC5 hC6 hB6 hS6 HS5 hst5
            go_wp2
            go_ret2
            refine ⟨HB6.out, .inl ⟨(none, 0, 0), [], rfl, ⟨by simp, .inl ⟨rfl, rfl⟩⟩, by simp, _, _, d6, rt.erase q, HS6.out, .inl hrt6, HR6.out, fun θ => ?_⟩⟩
            rw [← HFI.out θ]
            simp
          | false =>
            have hox := hop hoy
            rw [hoy] at OY
            go_wp2_with fail
            refine OY.mono ?_
            rintro e w4 ⟨rfl, rfl⟩
            clear OY
            cases hcl : (f x).nd.eqb (f y).nd with
            | false =>
              have hnd : (f x).nd ≠ (f y).nd := fun e => by
                rw [e, Nd.eqb_refl] at hcl
                cases hcl
              have HNO : Hid (∀ θ, Sat X (gc K f) lk θ → θ a ≠ θ b) := by
                intro θ h1 h2
                obtain ⟨h3, h4⟩ := (HFIN.out θ).2 ⟨h1, h2⟩
                exact sat_clash (g := gc K f) hXx hXy hlx hly hox hoy hnd θ h3 h4
              rw [hcl] at hneq
              go_wp2_with fail
              go_quiet (fail)
              go_wp2_with fail
              go_region
              go_wp2
              go_ret2
              refine ⟨?_, .inr ⟨⟨_, _, rfl⟩, HNO.out⟩⟩
              exact (HB3.out.drewN _).trans (But.ofBelow ((Below.refl _ _).alloc (Nat.le_refl _) _))
            | true =>
              have hnd : (f x).nd = (f y).nd := eqbC_eq hcl
              rw [hcl] at hneq
              have HS4 : Hid (∀ m, CSto (w4.drewN m) X f lk d K) := fun m => HS3.out.short (HS3.out.cells.drewN m) HS3.out.acyc ((But.refl X w4).drewN m)
              have HB4 : Hid (∀ m, But X w (w4.drewN m)) := fun m => HB3.out.drewN m
              have HST : Hid (∀ m, (w4.drewN m).cell? ⟨sb, 1, none⟩ = some (.int .i64 t)) := fun m => hst3
              clear hst3 HS3 HB3
              go_wp2_with fail
              go_quiet (fail)
              have HS3 : Hid (CSto (w4.drewN nq) X f lk d K) := HS4.out nq
              have HB3 : Hid (But X w (w4.drewN nq)) := HB4.out nq
              have hst3 : (w4.drewN nq).cell? ⟨sb, 1, none⟩ = some (.int .i64 t) := HST.out nq
              clear a0 a1 a2 a3 a4 a5 a6 a7 a8 a9 a10 a11 a12 a13 b0 b1 b2 b3 b4 b5 b6 b7 b8 b9 b10 b11 b12 b13 HS4 HB4 HST hC3 hneq HZ3
              generalize w4.drewN nq = w4 at *
              have hC3 := HS3.out.cells
              obtain ⟨a0, a1, a2, a3, a4, a5, a6, a7, a8, a9, a10, a11, a12, a13⟩ := (hC3.at' x hXx).cell
              obtain ⟨b0, b1, b2, b3, b4, b5, b6, b7, b8, b9, b10, b11, b12, b13⟩ := (hC3.at' y hXy).cell
              obtain ⟨sy, ly, cy, hky⟩ : ∃ s l c, (f y).ks = (s, l, c) := ⟨_, _, _, rfl⟩
              obtain ⟨sx, lx, cx, hkx⟩ : ∃ s l c, (f x).ks = (s, l, c) := ⟨_, _, _, rfl⟩
              have RY := HS3.out.rows y hXy
              have RX := HS3.out.rows x hXx
              have IY : Hid (∀ k ∈ K (f y).ks, X k) := HS3.out.inX y hXy
              have IX : Hid (∀ k ∈ K (f x).ks, X k) := HS3.out.inX x hXx
              have hlen : (K (f x).ks).length = (K (f y).ks).length := by
                have h1 := HS3.out.arity x hXx
                have h2 := HS3.out.arity y hXy
                rw [hnd] at h1
                omega
              obtain ⟨ky, hKy⟩ : ∃ l, K (f y).ks = l := ⟨_, rfl⟩
              obtain ⟨kx, hKx⟩ : ∃ l, K (f x).ks = l := ⟨_, rfl⟩
              rw [hKy] at RY IY hlen
              rw [hKx] at RX IX hlen
              rw [hky] at b6 RY
              rw [hkx] at a6 RX
              simp only at a6 b6
              have hLx : lx = kx.length := RX.1.1
              have hLy : ly = ky.length := RY.1.1
              have hL2 : lx ≤ 20000 := by rw [hLx]; exact RX.1.2
              have hLe : ly = lx := by omega
              subst hLe
              have HRX : Hid (KidRow w4 X (sx, ly, cx) kx) := RX
              have HRY : Hid (KidRow w4 X (sy, ly, cy) ky) := RY
              have HLX : Hid (kx.length = ly) := hLx.symm
              have HLY : Hid (ky.length = ly) := hLy.symm
              have HKX : Hid (K (f x).ks = kx) := hKx
              have HKY : Hid (K (f y).ks = ky) := hKy
              have HND : Hid ((f x).nd = (f y).nd) := hnd
              have hxlt : x < w4.heap.size := (hC3.at' x hXx).lt
              have hylt : y < w4.heap.size := (hC3.at' y hXy).lt
              have HB6 : Hid (w4.cell? ⟨y, 6, none⟩ = some (.slice sy ly cy)) := b6
              have HC4 : Hid (Cells w4 X f lk) := hC3
              have HST : Hid (w4.cell? ⟨sb, 1, none⟩ = some (.int .i64 t)) := hst3
              obtain ⟨i0, hi, hz0, hz1, hz2⟩ := info_parts Try.infoP
              have hO0 : (w4.alloc (.cells #[] 89)).ownsRow w4.heap.size 89 2 (.slice (some ⟨w4.heap.size, 0, none⟩) 0 0) 0 (pcells []) := ⟨rfl, Or.inr ⟨_, 0, #[], rfl, Nat.le_refl _, heap_alloc_new _ _, Nat.le_refl _, by simp [maxLen], rfl, rfl⟩⟩
              clear RX RY hlen hLx hLy hKx hKy hcl hop hky hkx hnd
              clear a0 a1 a2 a3 a4 a5 a7 a8 a9 a10 a11 a12 a13 b0 b1 b2 b3 b4 b5 b6 b7 b8 b9 b10 b11 b12 b13 hC3
              go_wp2_with fail
              go_loopw [8, 74] (fun v i wr => ∃ (k g c : Nat), k ≤ ly ∧ i = .int .i64 (k : Int) ∧ v = .slice (some ⟨g, 0, none⟩) k c ∧ wr.ownsRow w4.heap.size 89 2 (.slice (some ⟨g, 0, none⟩) k c) k (pcells ((kx.zip ky).take k)) ∧ Below w4.heap.size w4 wr) (fun _ i _ => ly - (intOf i).toNat)
              case atStart => exact ⟨0, w4.heap.size, 0, Nat.zero_le _, rfl, rfl, by simpa using hO0, (Below.refl _ _).alloc (Nat.le_refl _) _⟩
              case round =>
                clear hO0
                obtain ⟨k, g, c, hk, rfl, rfl, hown, hbr⟩ := hrel
                have hob := owns_block hown
                have hsz := hbr.size
                by_cases hkL : k < ly
                · have hk1 : k < kx.length := by have := HLX.out; omega
                  have hk2 : k < ky.length := by have := HLY.out; omega
                  obtain ⟨gy, cuy, hsy, hgy, hgy2, hgy3, hgy4⟩ := HRY.out.2.resolve_left (fun e9 => by rw [e9] at hk2; simp at hk2)
                  obtain ⟨gx, cux, hsx, hgx, hgx2, hgx3, hgx4⟩ := HRX.out.2.resolve_left (fun e9 => by rw [e9] at hk1; simp at hk1)
                  simp only at hsy hsx
                  subst hsy
                  subst hsx
                  have ey : wr.cell? ⟨gy, k, none⟩ = some (.pointer (some ⟨ky[k], 0, none⟩)) := by
                    rw [cell_of_row wr gy k cuy 55 (0, 0) ((hbr.block gy hgy2).trans hgy3)]
                    exact hgy4 k hk2
                  have ex : wr.cell? ⟨gx, k, none⟩ = some (.pointer (some ⟨kx[k], 0, none⟩)) := by
                    rw [cell_of_row wr gx k cux 55 (0, 0) ((hbr.block gx hgx2).trans hgx3)]
                    exact hgx4 k hk1
                  have eb : wr.cell? ⟨y, 6, none⟩ = some (.slice (some ⟨gy, 0, none⟩) ly cy) := (bcell hbr y 6 hylt).trans HB6.out
                  have HTS : Hid ((kx.zip ky).take (k + 1) = (kx.zip ky).take k ++ [(kx[k], ky[k])]) := zip_take_succ hk1 hk2
                  obtain ⟨tx, htx⟩ : ∃ t, kx[k] = t := ⟨_, rfl⟩
                  obtain ⟨ty, hty⟩ : ∃ t, ky[k] = t := ⟨_, rfl⟩
                  obtain ⟨Z, hZ⟩ : ∃ Z, (kx.zip ky).take k = Z := ⟨_, rfl⟩
                  rw [htx] at ex HTS
                  rw [hty] at ey HTS
                  rw [hZ] at hown HTS
                  have hown1 := hown.alloc (.cells #[.pointer (some ⟨tx, 0, none⟩), .pointer (some ⟨ty, 0, none⟩)] 89)
                  have hb1 := hbr.alloc hbr.size (.cells #[.pointer (some ⟨tx, 0, none⟩), .pointer (some ⟨ty, 0, none⟩)] 89)
                  have hcells := pair_cells wr tx ty
                  clear hgy3 hgy4 hgx3 hgx4 hown htx hty hZ hbr
                  go_wp2_with (at_builtin; refine wpList_append2 _ rfl (.tmp 79) (.tmp 89) 90 rfl w4.heap.size 89 i0 _ 2 16 Try.underlying90 hi hz0 hz1 hz2 rfl (by decide) g k c _ rfl hown1 ⟨_, 0, none⟩ 1 1 (pcells [(tx, ty)]) rfl rfl hcells (pcells_one _) ?a3 ?a4 ?a5 ?_)
                  case a3 => unfold maxLen; omega
                  case a4 => omega
                  case a5 => (try simp); omega
                  intro g2 c2 w5 hown2 hgrow2 hwh
                  have hb2 : Below w4.heap.size w4 w5 := hb1.grown hgrow2 (by (try simp); omega) (fun q hq => by cases hq; exact hob.1)
                  have hown3 : w5.ownsRow w4.heap.size 89 2 (.slice (some ⟨g2, 0, none⟩) (k + 1) c2) (k + 1) (pcells ((kx.zip ky).take (k + 1))) := by
                    rw [HTS.out, pcells_append]
                    exact hown2
                  clear hown2 hgrow2 hwh hown1 hb1 hcells ex ey eb
                  go_wp2
                  go_roundw
                  case rel => exact ⟨k + 1, g2, c2, by omega, by go_num, rfl, hown3, hb2⟩
                  case measure => simp [intOf]; omega
                · obtain rfl : k = ly := by omega
                  have HZL : Hid ((kx.zip ky).length = k) := by
                    show (kx.zip ky).length = k
                    have h1 := HLX.out
                    have h2 := HLY.out
                    simp
                    omega
                  have HOW : Hid (wr.ownsRow w4.heap.size 89 2 (.slice (some ⟨g, 0, none⟩) k c) k (pcells (kx.zip ky))) := by
                    have h9 := hown
                    rw [List.take_of_length_le (by have := HZL.out; omega)] at h9
                    exact h9
                  have hBr : But X w4 wr := But.ofBelow hbr
                  have HS5 : Hid (CSto wr X f lk d K) := HS3.out.short (HC4.out.but (But.ofBelow (S := fun _ => False) hbr) (fun _ _ h => h)) HS3.out.acyc hBr
                  have hst5 : wr.cell? ⟨sb, 1, none⟩ = some (.int .i64 t) := (bcell hbr sb 1 (lt_of_cell HST.out)).trans HST.out
                  have hgX : ¬ X g := fun h => by have := (HC4.out.at' g h).lt; omega
                  have HB5 : Hid (But X w wr) := HB3.out.trans hBr
                  clear hown hBr hbr HST HB6 HRX HRY HC4 HS3 HB3
                  go_wp2_with fail
                  refine (tie_any X f lk wr HS5.out.cells sb t hsX hst5 x y hXx hXy hne hlx hly).mono ?_
                  rintro e w6 ⟨rfl, h, q, r, hhq, hC6, hB6, _⟩
                  have hXq : X q := by rcases hhq with ⟨rfl, rfl⟩ | ⟨rfl, rfl⟩ <;> assumption
                  have hXh : X h := by rcases hhq with ⟨rfl, rfl⟩ | ⟨rfl, rfl⟩ <;> assumption
                  have hlq : lk q = none := by rcases hhq with ⟨rfl, rfl⟩ | ⟨rfl, rfl⟩ <;> assumption
                  have hhq2 : h ≠ q := by
                    rcases hhq with ⟨rfl, rfl⟩ | ⟨rfl, rfl⟩
                    · exact hne
                    · exact fun e => hne e.symm
                  have ecore : (tiedF f x h q r t h).core = (f x).core ∨ (h = y ∧ (tiedF f x h q r t h).core = (f h).core) := by
                    rw [tiedF_head f hhq2]
                    rcases hhq with ⟨rfl, rfl⟩ | ⟨rfl, rfl⟩
                    · left; split <;> rfl
                    · by_cases hk : (f h).nd.kind = 61
                      · left; rw [if_pos hk]
                      · right; exact ⟨rfl, by rw [if_neg hk]⟩
                  obtain ⟨d6, hS6⟩ := HS5.out.tied hXx hXh hne hlx hly hhq hC6 (tiedF_rest f r t) (ecore.imp id (fun h => h.2)) hB6
                  have hll : kx.length = ky.length := by have := HLX.out; have := HLY.out; omega
                  have HFI : Hid (∀ θ, (Sat X (gc K (tiedF f x h q r t)) (tied lk h q) θ ∧ ∀ p ∈ kx.zip ky, θ p.1 = θ p.2) ↔ (Sat X (gc K f) lk θ ∧ θ a = θ b)) := by
                    intro θ
                    rw [← HFIN.out θ, zip_map hll]
                    rcases ecore with ec | ⟨rfl, ec⟩
                    · have h9 := sat_both (g := gc K f) (g' := gc K (tiedF f x h q r t)) hXx hXy hne hlx hly hhq (gc_core ec) (fun i hi => gc_core (tiedF_rest f r t i hi)) hox hoy HND.out (by simp only [gc, HKX.out, HKY.out]; exact hll) θ
                      simp only [gc, HKX.out, HKY.out] at h9
                      exact h9
                    · have h9 := sat_both (g := gc K f) (g' := gc K (tiedF f x h q r t)) hXh hXx (fun e => hne e.symm) hly hlx (hhq.symm) (gc_core ec) (fun i hi => gc_core (tiedF_rest f r t i hi)) hoy hox HND.out.symm (by simp only [gc, HKX.out, HKY.out]; exact hll.symm) θ
                      simp only [gc, HKX.out, HKY.out] at h9
                      refine Iff.trans ?_ (h9.trans ?_)
                      · exact ⟨fun h => ⟨h.1, h.2.symm⟩, fun h => ⟨h.1, h.2.symm⟩⟩
                      · exact ⟨fun h => ⟨h.1, h.2.symm⟩, fun h => ⟨h.1, h.2.symm⟩⟩
                  have HR6 : Hid (∀ i, X i → tied lk h q i = none → i ∈ rt.erase q) := by
                    intro i hi hl
                    have hiq : i ≠ q := fun e9 => by subst e9; simp [tied] at hl
                    simp only [tied, hiq, if_false] at hl
                    exact (List.mem_erase_of_ne hiq).2 (HRT.out i hi hl)
                  have hrt6 : (rt.erase q).length < rt.length := by
                    have h9 := HRT.out q hXq hlq
                    have h8 := List.length_pos_of_mem h9
                    rw [List.length_erase_of_mem h9]
                    omega
                  have HB6 : Hid (But X w w6) := HB5.out.trans hB6
                  have HS6 : Hid (CSto w6 X (tiedF f x h q r t) (tied lk h q) d6 K) := hS6
                  have HPR : Hid (PairRow w6 (some ⟨g, 0, none⟩, k, c) (kx.zip ky)) := by
                    refine ⟨by have := HZL.out; omega, .inr ⟨g, c, by rw [HZL.out], fun j u hj => ?_⟩⟩
                    have h9 := (owns_but HOW.out hB6 hgX).cells (g := g) rfl j u hj
                    exact h9
                  have HPX : Hid (∀ p ∈ kx.zip ky, X p.1 ∧ X p.2) := by
                    intro p hp
                    exact ⟨IX.out _ (List.of_mem_zip hp).1, IY.out _ (List.of_mem_zip hp).2⟩
                  clear hC6 hB6 hS6 HS5 hst5 HOW
                  go_wp2
                  go_ret2
                  exact ⟨HB6.out, .inl ⟨(some ⟨g, 0, none⟩, k, c), kx.zip ky, rfl, HPR.out, HPX.out, _, _, d6, rt.erase q, HS6.out, .inl hrt6, HR6.out, HFI.out⟩⟩

end Go.Proofs.Ytngomcicdcgldab

namespace Go.Proofs.Ytngomcicdcgldab
open Go.RowKit

/-- A store into a block that is neither a cell nor a row of kids. -/
theorem CSto.aside {w w' : World} {X : Nat → Prop} {f : Nat → CC} {lk : Nat → Option Nat} {d : Nat → Nat} {K : (Option Addr × Nat × Nat) → List Nat} (h : CSto w X f lk d K) {eb : Nat} (hb : But (· = eb) w w') (hX : ¬ X eb) (hk : ∀ cur, w.heap[eb]? ≠ some (.cells cur 55 (0, 0))) : CSto w' X f lk d K := by
  refine ⟨h.cells.but hb (fun b hx e => hX (e ▸ hx)), h.acyc, fun b hx => ?_, h.inX, h.arity, h.met, h.low⟩
  obtain ⟨h1, h2⟩ := h.rows b hx
  refine ⟨h1, ?_⟩
  rcases h2 with e | ⟨g, cur, h1, h2, h3, h4, h5⟩
  · exact .inl e
  · have hne : g ≠ eb := fun e => hk cur (e ▸ h4)
    exact .inr ⟨g, cur, h1, h2, Nat.lt_of_lt_of_le h3 hb.size, (hb.block g h3 hne).trans h4, h5⟩

/-- The boxes of equate's closure: the fault so far, the store. -/
structure Boxes (w : World) (X : Nat → Prop) (eb sx sb : Nat) (ev : Value) (t : Int) : Prop where
  e : w.heap[eb]? = some (.cells #[ev] 53 (0, 0))
  s : w.heap[sx]? = some (.cells #[.pointer (some ⟨sb, 0, none⟩)] 50 (0, 0))
  now : w.cell? ⟨sb, 1, none⟩ = some (.int .i64 t)
  eX : ¬ X eb
  sX : ¬ X sx
  bX : ¬ X sb
  es : eb ≠ sx
  eb' : eb ≠ sb

theorem Boxes.but {w w' : World} {X : Nat → Prop} {eb sx sb : Nat} {ev : Value} {t : Int} (h : Boxes w X eb sx sb ev t) (hb : But X w w') : Boxes w' X eb sx sb ev t := by
  have l1 : eb < w.heap.size := (Array.getElem?_eq_some_iff.1 h.e).1
  have l2 : sx < w.heap.size := (Array.getElem?_eq_some_iff.1 h.s).1
  exact ⟨(hb.block eb l1 h.eX).trans h.e, (hb.block sx l2 h.sX).trans h.s, (hb.cellB (lt_of_cell h.now) h.bX).trans h.now, h.eX, h.sX, h.bX, h.es, h.eb'⟩

/-- The fault is stored. -/
theorem Boxes.put {w : World} {X : Nat → Prop} {eb sx sb : Nat} {ev : Value} {t : Int} (h : Boxes w X eb sx sb ev t) (v : Value) : Boxes (w.setCell ⟨eb, 0, none⟩ v) X eb sx sb v t := by
  have hb9 : But (· = eb) w (w.setCell ⟨eb, 0, none⟩ v) := (But.refl (· = eb) w).setCell (p := ⟨eb, 0, none⟩) rfl v
  have h9 := heap_setCell_same w eb 0 _ 53 v h.e
  have l2 : sx < w.heap.size := (Array.getElem?_eq_some_iff.1 h.s).1
  refine ⟨by simpa using h9, (hb9.block sx l2 (fun e => h.es e.symm)).trans h.s, (hb9.cellB (lt_of_cell h.now) (fun e => h.eb' e.symm)).trans h.now, h.eX, h.sX, h.bX, h.es, h.eb'⟩

theorem add0 (g j : Nat) : Addr.add ⟨g, 0, none⟩ j = ⟨g, j, none⟩ := by
  unfold Addr.add
  split
  · simp_all
  · simp

theorem PairRow.put {w : World} {s : Option Addr × Nat × Nat} {P : List (Nat × Nat)} (h : PairRow w s P) {eb : Nat} (he : w.cell? ⟨eb, 0, none⟩ = some .nilIface) (v : Value) : PairRow (w.setCell ⟨eb, 0, none⟩ v) s P := by
  refine ⟨h.1, ?_⟩
  rcases h.2 with h1 | ⟨g, c, h1, h2⟩
  · exact .inl h1
  · refine .inr ⟨g, c, h1, fun j u hj => ?_⟩
    have hne : g ≠ eb := by
      rintro rfl
      cases P with
      | nil => simp [pcells] at hj
      | cons p P =>
        have h9 := h2 0 (.pointer (some ⟨p.1, 0, none⟩)) (by simp [pcells])
        rw [add0, he] at h9
        cases h9
    have hb9 : But (· = eb) w (w.setCell ⟨eb, 0, none⟩ v) := (But.refl (· = eb) w).setCell (p := ⟨eb, 0, none⟩) rfl v
    have h9 := h2 j u hj
    rw [add0] at h9 ⊢
    exact (hb9.cellB (lt_of_cell h9) hne).trans h9

/-- An error's value is stored. -/
theorem store_err {P : Program} {w : World} {ad : Addr} {ev u : Value} (hev : ev = .nilIface ∨ ∃ t v, ev = .iface t v) (hc : w.cell? ad = some u) (hf : w.frozen? ad = false) : (store ad ev).run P w = .ok () (w.setCell ad ev) ∧ ev.cells = #[ev] := by
  rcases hev with rfl | ⟨t, v, rfl⟩
  · exact ⟨by simp [go_sem, hc, hf], rfl⟩
  · exact ⟨by simp [go_sem, hc, hf], rfl⟩

/-- What equate's closure leaves. -/
def CRes (X : Nat → Prop) (f : Nat → CC) (lk : Nat → Option Nat) (K : (Option Addr × Nat × Nat) → List Nat) (rt : List Nat) (eb sx sb : Nat) (t : Int) (a b : Nat) (w : World) (e : Ending) (w' : World) : Prop :=
  But (fun i => X i ∨ i = eb) w w' ∧ ((∃ s P, e = .returned (.slice s.1 s.2.1 s.2.2) ∧ PairRow w' s P ∧ (∀ p ∈ P, X p.1 ∧ X p.2) ∧ Boxes w' X eb sx sb .nilIface t ∧
      ∃ (f' : Nat → CC) (lk' : Nat → Option Nat) (d' : Nat → Nat) (rt' : List Nat), CSto w' X f' lk' d' K ∧ (rt'.length < rt.length ∨ (P = [] ∧ rt'.length ≤ rt.length)) ∧ (∀ i, X i → lk' i = none → i ∈ rt') ∧ ∀ θ, (Sat X (gc K f') lk' θ ∧ ∀ p ∈ P, θ p.1 = θ p.2) ↔ (Sat X (gc K f) lk θ ∧ θ a = θ b)) ∨
    ((∃ tt v, e = .returned (.slice none 0 0) ∧ Boxes w' X eb sx sb (.iface tt v) t) ∧ ∀ θ, Sat X (gc K f) lk θ → θ a ≠ θ b))

/-- What equateHeads leaves, within the closure. -/
def CEnd (X : Nat → Prop) (f : Nat → CC) (lk : Nat → Option Nat) (K : (Option Addr × Nat × Nat) → List Nat) (rt : List Nat) (eb sx sb : Nat) (t : Int) (a b : Nat) (w : World) (s : Option Addr × Nat × Nat) (ev : Value) (w' : World) : Prop :=
  Boxes w' X eb sx sb .nilIface t ∧ But X w w' ∧ ((∃ P, ev = .nilIface ∧ PairRow w' s P ∧ (∀ p ∈ P, X p.1 ∧ X p.2) ∧
      ∃ (f' : Nat → CC) (lk' : Nat → Option Nat) (d' : Nat → Nat) (rt' : List Nat), CSto w' X f' lk' d' K ∧ (rt'.length < rt.length ∨ (P = [] ∧ rt'.length ≤ rt.length)) ∧ (∀ i, X i → lk' i = none → i ∈ rt') ∧ ∀ θ, (Sat X (gc K f') lk' θ ∧ ∀ p ∈ P, θ p.1 = θ p.2) ↔ (Sat X (gc K f) lk θ ∧ θ a = θ b)) ∨
    (s = (none, 0, 0) ∧ (∃ tt v, ev = .iface tt v) ∧ ∀ θ, Sat X (gc K f) lk θ → θ a ≠ θ b))

set_option maxRecDepth 20000 in
set_option maxHeartbeats 2000000 in
theorem equate1_any (X : Nat → Prop) (f : Nat → CC) (lk : Nat → Option Nat) (d : Nat → Nat) (K : (Option Addr × Nat × Nat) → List Nat) (w : World) (a b : Nat) (rt : List Nat) (hS : CSto w X f lk d K) (hroots : ∀ i, X i → lk i = none → i ∈ rt) (hXa : X a) (hXb : X b)
    (eb sx sb : Nat) (t : Int) (hBx : Boxes w X eb sx sb .nilIface t) :
    Calls Try.prog 54 #[.agg #[.pointer (some ⟨a, 0, none⟩), .pointer (some ⟨b, 0, none⟩)], .pointer (some ⟨eb, 0, none⟩), .pointer (some ⟨sx, 0, none⟩)] w fun e w' => CRes X f lk K rt eb sx sb t a b w e w' := by
  obtain ⟨ra, hra⟩ := hS.acyc.head _ a (Nat.lt_succ_self _)
  obtain ⟨rb, hrb⟩ := hS.acyc.head _ b (Nat.lt_succ_self _)
  have hXra : X ra := hra.inX hS.cells hXa
  have hXrb : X rb := hrb.inX hS.cells hXb
  have hb0 : Below w.heap.size w (w.alloc (.cells #[.pointer (some ⟨a, 0, none⟩), .pointer (some ⟨b, 0, none⟩)] 89)) := (Below.refl _ w).alloc (Nat.le_refl _) _
  have hB0 : But (fun _ => False) w (w.alloc (.cells #[.pointer (some ⟨a, 0, none⟩), .pointer (some ⟨b, 0, none⟩)] 89)) := But.ofBelow hb0
  have hK0 : (w.alloc (.cells #[.pointer (some ⟨a, 0, none⟩), .pointer (some ⟨b, 0, none⟩)] 89)).heap[w.heap.size]? = some (.cells #[.pointer (some ⟨a, 0, none⟩), .pointer (some ⟨b, 0, none⟩)] 89 (0, 0)) := heap_alloc_new _ _
  have hlX : ∀ i, X i → i < w.heap.size := fun i hi => (hS.cells.at' i hi).lt
  have hit : ¬ X w.heap.size := fun h => Nat.lt_irrefl _ (hlX _ h)
  have le : eb < w.heap.size := (Array.getElem?_eq_some_iff.1 hBx.e).1
  have hne : w.heap.size ≠ eb := by omega
  have hBxA := hBx.but (hB0.mono (T := X) (fun _ h => h.elim))
  have HSA : Hid (CSto (w.alloc (.cells #[.pointer (some ⟨a, 0, none⟩), .pointer (some ⟨b, 0, none⟩)] 89)) X f lk d K) := hS.short (hS.cells.but hB0 (fun _ _ h => h)) hS.acyc (hB0.mono (fun _ h => h.elim))
  have HBA : Hid (But X w (w.alloc (.cells #[.pointer (some ⟨a, 0, none⟩), .pointer (some ⟨b, 0, none⟩)] 89))) := hB0.mono (fun _ h => h.elim)
  have HRT : Hid (∀ i, X i → lk i = none → i ∈ rt) := hroots
  have qe : w.cell? ⟨eb, 0, none⟩ = some .nilIface := by rw [cell_of_row _ _ _ _ 53 (0, 0) hBx.e]; rfl
  clear hS hroots hBx hb0 hB0
  go_enter Try.func54, Try.ntmps54
  go_wp2_with fail
  obtain ⟨wi, hwi⟩ : ∃ i, w.heap.size = i := ⟨_, rfl⟩
  rw [hwi] at hK0 hit hne le
  (try rw [hwi])
  generalize w.alloc (.cells #[.pointer (some ⟨a, 0, none⟩), .pointer (some ⟨b, 0, none⟩)] 89) = wA at *
  have HC := HSA.out.cells
  have HA : Hid (Acyc lk d) := HSA.out.acyc
  have i0 : wA.cell? ⟨wi, 0, none⟩ = some (.pointer (some ⟨a, 0, none⟩)) := by rw [cell_of_row _ _ _ _ 89 (0, 0) hK0]; rfl
  have i1 : wA.cell? ⟨wi, 1, none⟩ = some (.pointer (some ⟨b, 0, none⟩)) := by rw [cell_of_row _ _ _ _ 89 (0, 0) hK0]; rfl
  have s0 : wA.cell? ⟨sx, 0, none⟩ = some (.pointer (some ⟨sb, 0, none⟩)) := by rw [cell_of_row _ _ _ _ 50 (0, 0) hBxA.s]; rfl
  have HL : Hid (∀ W, But X wA.drew W → W.cell? ⟨wi, 0, none⟩ = some (.pointer (some ⟨a, 0, none⟩)) ∧ W.cell? ⟨wi, 1, none⟩ = some (.pointer (some ⟨b, 0, none⟩)) ∧ W.cell? ⟨sx, 0, none⟩ = some (.pointer (some ⟨sb, 0, none⟩))) := by
    intro W hW
    have hW := hW.undrew
    exact ⟨(hW.cellB (lt_of_cell i0) hit).trans i0, (hW.cellB (lt_of_cell i1) hit).trans i1, (hW.cellB (lt_of_cell s0) hBxA.sX).trans s0⟩
  have HL2 : Hid (∀ W, But X wA W → W.cell? ⟨wi, 0, none⟩ = some (.pointer (some ⟨a, 0, none⟩)) ∧ W.cell? ⟨wi, 1, none⟩ = some (.pointer (some ⟨b, 0, none⟩)) ∧ W.cell? ⟨sx, 0, none⟩ = some (.pointer (some ⟨sb, 0, none⟩))) := by
    intro W hW
    exact ⟨(hW.cellB (lt_of_cell i0) hit).trans i0, (hW.cellB (lt_of_cell i1) hit).trans i1, (hW.cellB (lt_of_cell s0) hBxA.sX).trans s0⟩
  have HL3 : Hid (∀ (W : World) (v : Value), (W.cell? ⟨wi, 0, none⟩ = some (.pointer (some ⟨a, 0, none⟩)) ∧ W.cell? ⟨wi, 1, none⟩ = some (.pointer (some ⟨b, 0, none⟩)) ∧ W.cell? ⟨sx, 0, none⟩ = some (.pointer (some ⟨sb, 0, none⟩))) → (W.setCell ⟨eb, 0, none⟩ v).cell? ⟨wi, 0, none⟩ = some (.pointer (some ⟨a, 0, none⟩)) ∧ (W.setCell ⟨eb, 0, none⟩ v).cell? ⟨wi, 1, none⟩ = some (.pointer (some ⟨b, 0, none⟩)) ∧ (W.setCell ⟨eb, 0, none⟩ v).cell? ⟨sx, 0, none⟩ = some (.pointer (some ⟨sb, 0, none⟩))) := by
    rintro W v ⟨h1, h2, h3⟩
    have hb9 : But (· = eb) W (W.setCell ⟨eb, 0, none⟩ v) := (But.refl (· = eb) W).setCell (p := ⟨eb, 0, none⟩) rfl v
    exact ⟨(hb9.cellB (lt_of_cell h1) hne).trans h1, (hb9.cellB (lt_of_cell h2) hne).trans h2, (hb9.cellB (lt_of_cell h3) (fun e => hBxA.es e.symm)).trans h3⟩
  have HEQ : Hid (∀ lk2 w2, Cells w2 X f lk2 → SameHd lk lk2 → Acyc lk2 d → But X wA.drew w2 → Calls Try.prog 55 #[.pointer (some ⟨sb, 0, none⟩), .pointer (some ⟨ra, 0, none⟩), .pointer (some ⟨rb, 0, none⟩)] w2 fun e w' =>
      (w'.cell? ⟨eb, 0, none⟩ = some .nilIface ∧ w'.frozen? ⟨eb, 0, none⟩ = false) ∧ ∃ s1 s2 s3 ev, e = .returned (.tuple #[.slice s1 s2 s3, ev]) ∧ (ev = .nilIface ∨ ∃ tt v, ev = .iface tt v) ∧ CEnd X f lk K rt eb sx sb t a b wA (s1, s2, s3) ev w') := by
    intro lk2 w2 hC2 hS2 hA2 hB2
    have hBd := hB2.undrew
    have hS9 : CSto w2 X f lk2 d K := HSA.out.short hC2 hA2 hBd
    have hBx2 := hBxA.but hBd
    have hl1 : lk2 ra = none := (root_iff lk2 ra).2 ((hS2 ra ra).1 ((root_iff lk ra).1 hra.is_root))
    have hl2 : lk2 rb = none := (root_iff lk2 rb).2 ((hS2 rb rb).1 ((root_iff lk rb).1 hrb.is_root))
    have hsat : ∀ θ, Sat X (gc K f) lk2 θ ↔ Sat X (gc K f) lk θ := fun θ => hS2.sat HSA.out.acyc hA2 θ
    have hab : ∀ θ, (Sat X (gc K f) lk2 θ ∧ θ ra = θ rb) ↔ (Sat X (gc K f) lk θ ∧ θ a = θ b) := by
      intro θ
      rw [hsat θ]
      constructor
      · rintro ⟨h1, h2⟩
        exact ⟨h1, by rw [hra.sat h1, hrb.sat h1]; exact h2⟩
      · rintro ⟨h1, h2⟩
        rw [hra.sat h1, hrb.sat h1] at h2
        exact ⟨h1, h2⟩
    refine (equateHeads_any X f lk2 d K w2 ra rb rt hS9 (fun i hi hl => HRT.out i hi ((root_iff lk i).2 ((hS2 i i).2 ((root_iff lk2 i).1 hl)))) hXra hXrb hl1 hl2 sb t hBxA.bX hBx2.now).mono ?_
    rintro e w' ⟨hB', hres⟩
    have hBx3 := hBx2.but hB'
    refine ⟨⟨?_, frozen_of_row _ _ _ _ 53 hBx3.e⟩, ?_⟩
    · rw [cell_of_row _ _ _ _ 53 (0, 0) hBx3.e]; rfl
    · rcases hres with ⟨⟨s1, s2, s3⟩, P, he, hp, hpx, f', lk', d', rt', h1, h2, h3, h4⟩ | ⟨⟨tt, v, he⟩, hno⟩
      · exact ⟨s1, s2, s3, .nilIface, he, .inl rfl, hBx3, hBd.trans hB', .inl ⟨P, rfl, hp, hpx, f', lk', d', rt', h1, h2, h3, fun θ => (h4 θ).trans (hab θ)⟩⟩
      · refine ⟨none, 0, 0, .iface tt v, he, .inr ⟨tt, v, rfl⟩, hBx3, hBd.trans hB', .inr ⟨rfl, ⟨tt, v, rfl⟩, fun θ h1 h2 => ?_⟩⟩
        obtain ⟨h3, h4⟩ := (hab θ).2 ⟨h1, h2⟩
        exact hno θ h3 h4
  go_region_held3 (fun w' => w'.cell? ⟨wi, 0, none⟩ = some (.pointer (some ⟨a, 0, none⟩)) ∧ w'.cell? ⟨wi, 1, none⟩ = some (.pointer (some ⟨b, 0, none⟩)) ∧ w'.cell? ⟨sx, 0, none⟩ = some (.pointer (some ⟨sb, 0, none⟩)))
    (first | exact ⟨i0, i1, s0⟩ | exact q1 | exact q2 | exact q3 | exact HL3.out w3 ev q3 | go_keep)
    (first
    | (go_at_call_of 56 (Value.pointer (some ⟨a, 0, none⟩)); refine (head_any X f lk d HA wA.drew HC.drew a ra hXa hra).mono ?_; rintro e w1 ⟨rfl, lk1, hC1, hS1, hA1, hB1, hz1⟩; have HA1 : Hid (Acyc lk1 d) := hA1; have hrb1 := (hS1 b rb).1 hrb; have q1 := HL.out w1 hB1)
    | (go_at_call_of 56 (Value.pointer (some ⟨b, 0, none⟩)); refine (head_any X f lk1 d HA1 w1 hC1 b rb hXb hrb1).mono ?_; rintro e w2 ⟨rfl, lk2, hC2, hS2, hA2, hB2, hz2⟩; have q2 := HL.out w2 (hB1.trans hB2))
    | (go_at_call 55; refine (HEQ.out lk2 w2 hC2 (hS1.trans hS2) hA2 (hB1.trans hB2)).mono ?_; rintro e w3 ⟨⟨e3, f3⟩, s1, s2, s3, ev, rfl, hev, hend⟩; have q3 := HL2.out w3 hend.2.1; obtain ⟨hst3, hcl3⟩ := store_err (P := Try.prog) hev e3 f3; simp only [Value.cells] at hcl3))
  have HB9 : Hid (But (fun i => X i ∨ i = eb) w (w3.setCell ⟨eb, 0, none⟩ ev)) := ((HBA.out.trans hend.2.1).mono (fun _ h => .inl h)).setCell (p := ⟨eb, 0, none⟩) (.inr rfl) ev
  have HE : Hid (CEnd X f lk K rt eb sx sb t a b wA (s1, s2, s3) ev w3) := hend
  clear hC1 hC2 hB1 hB2 hS1 hS2 hA1 hA2 HA1 HEQ HL HL2 HL3 HC HA HSA HBA hend hBxA
  go_wp2
  go_ret
  obtain ⟨hBx3, hB3, hres⟩ := HE.out
  refine ⟨HB9.out, ?_⟩
  rcases hres with ⟨P, rfl, hp, hpx, f', lk', d', rt', h1, h2, h3, h4⟩ | ⟨hs, ⟨tt, v, rfl⟩, hno⟩
  · refine .inl ⟨(s1, s2, s3), P, rfl, hp.put e3 _, hpx, hBx3.put _, f', lk', d', rt', ?_, h2, h3, h4⟩
    refine h1.aside ((But.refl (· = eb) w3).setCell (p := ⟨eb, 0, none⟩) rfl _) hBx3.eX (fun cur h => ?_)
    rw [hBx3.e] at h
    simp at h
  · simp only [Prod.mk.injEq] at hs
    obtain ⟨rfl, rfl, rfl⟩ := hs
    exact .inr ⟨⟨tt, v, rfl, hBx3.put _⟩, hno⟩

end Go.Proofs.Ytngomcicdcgldab

namespace Go.Proofs.Ytngomcicdcgldab
open Go.RowKit

set_option maxRecDepth 20000 in
set_option maxHeartbeats 2000000 in
theorem equate1_bad (X : Nat → Prop) (w : World) (a b : Nat) (eb sx sb : Nat) (t : Int) (tt : TypeId) (v : Value) (hBx : Boxes w X eb sx sb (.iface tt v) t) :
    Calls Try.prog 54 #[.agg #[.pointer (some ⟨a, 0, none⟩), .pointer (some ⟨b, 0, none⟩)], .pointer (some ⟨eb, 0, none⟩), .pointer (some ⟨sx, 0, none⟩)] w fun e w' => e = .returned (.slice none 0 0) ∧ Below w.heap.size w w' := by
  have qe : w.cell? ⟨eb, 0, none⟩ = some (.iface tt v) := by rw [cell_of_row _ _ _ _ 53 (0, 0) hBx.e]; rfl
  have le : eb < w.heap.size := (Array.getElem?_eq_some_iff.1 hBx.e).1
  clear hBx
  go_enter Try.func54, Try.ntmps54
  go_wp2
  go_ret
  exact ⟨rfl, (Below.refl _ _).alloc (Nat.le_refl _) _⟩

/-- The least number that something holds of. -/
theorem least {P : Nat → Prop} : ∀ n, P n → ∃ m, P m ∧ ∀ k, k < m → ¬ P k := by
  intro n
  induction n using Nat.strongRecOn with
  | ind n ih =>
    intro h
    by_cases h9 : ∃ k, k < n ∧ P k
    · obtain ⟨k, hk, hP⟩ := h9
      exact ih k hk hP
    · exact ⟨n, h, fun k hk hP => h9 ⟨k, hk, hP⟩⟩

theorem mu_ex : ∃ mu : (Nat → Prop) → Nat, ∀ (P : Nat → Prop) (n : Nat), P n → P (mu P) ∧ mu P ≤ n := by
  classical
  refine ⟨fun P => if h : ∃ n, P n then Classical.choose (least _ (Classical.choose_spec h)) else 0, fun P n h => ?_⟩
  have h1 : ∃ n, P n := ⟨n, h⟩
  have h2 := Classical.choose_spec (least _ (Classical.choose_spec h1))
  simp only [dif_pos h1]
  exact ⟨h2.1, Nat.le_of_not_lt (fun hlt => h2.2 n hlt h)⟩

theorem but_grown {w w' : World} {g : Nat} (h : w.grownBy w' (some g)) : But (· = g) w w' :=
  ⟨h.os, h.tape, h.output, h.size, fun i hi hne => h.block i hi (by simpa using hne)⟩

section
variable {P : Program} (w : World)
/-- append of a slice that may be nil to one of the call's own. -/
theorem wp_appendO {o : Oper} {a : Act} {K : Act → World → Prop} {Q : Exit → Act → World → Prop} (s x : Operand) (t : TypeId)
    (ho : o.op = .call { callee := .builtin .append, args := #[s, x], argTypes := #[t, t] })
    (base : Nat) (e : TypeId) (i : TypeInfo) (z : Value) (size bytes : Nat) (ht : P.underlying t = some (.slice e)) (hi : P.info? e = some i) (hz : i.zero = some z)
    (hsize : i.size = size) (hby : i.bytes = bytes) (hzs : z.cells.size = size) (hsz : 0 < size)
    (g n cap : Nat) (xs : List Value) (hs : a.eval s = .slice (some ⟨g, 0, none⟩) n cap) (hown : w.ownsRow base e size (.slice (some ⟨g, 0, none⟩) n cap) n xs)
    (ao : Option Addr) (m c : Nat) (news : List Value) (hx : a.eval x = .slice ao m c) (hl : news.length = m * size) (hnone : ao = none → m = 0 ∧ c = 0) (hnews : ∀ ad, ao = some ad → ∀ j u, news[j]? = some u → w.cell? (ad.add j) = some u) (h1 : ∀ u ∈ news, u.oneCell' = true)
    (h63 : n + m ≤ maxLen) (hbytes : (n + m) * bytes ≤ 140737488355328) (hbase : base ≤ w.heap.size)
    (h : ∀ g' cap' w', w'.ownsRow base e size (.slice (some ⟨g', 0, none⟩) (n + m) cap') (n + m) (xs ++ news) → w.grownBy w' (some g) → K (a.put o.dst (.slice (some ⟨g', 0, none⟩) (n + m) cap')) w') : o.wp P a w K Q := by
  cases ao with
  | some ad => exact wp_append2 w s x t ho base e i z size bytes ht hi hz hsize hby hzs hsz g n cap xs hs hown ad m c news hx hl (hnews ad rfl) h1 h63 hbytes hbase (fun g' cap' w' a1 a2 _ => h g' cap' w' a1 a2)
  | none =>
    obtain ⟨rfl, rfl⟩ := hnone rfl
    have hne : news = [] := List.eq_nil_of_length_eq_zero (by simpa using hl)
    subst hne
    have hrun := run_append_owned_none (P := P) w base t o.type e i size ht hi _ n xs hown
    unfold Oper.wp
    simp [execOp, ho, resolve, invoke, builtin, hs, hx, hrun, Result.andThen]
    exact h g cap w (by simpa using hown) (World.grownBy.refl _ _)

/-- .. in a region that draws its order. -/
theorem step_appendO {ops : Array Oper} {o : Oper} {a : Act} {K : Act → World → Prop} {Q : Exit → Act → World → Prop} {E : Prop} (hgd : o.guard = none) (s x : Operand) (t : TypeId)
    (ho : o.op = .call { callee := .builtin .append, args := #[s, x], argTypes := #[t, t] })
    (base : Nat) (e : TypeId) (i : TypeInfo) (z : Value) (size bytes : Nat) (ht : P.underlying t = some (.slice e)) (hi : P.info? e = some i) (hz : i.zero = some z)
    (hsize : i.size = size) (hby : i.bytes = bytes) (hzs : z.cells.size = size) (hsz : 0 < size)
    (g n cap : Nat) (xs : List Value) (hs : a.eval s = .slice (some ⟨g, 0, none⟩) n cap) (hown : w.ownsRow base e size (.slice (some ⟨g, 0, none⟩) n cap) n xs)
    (ao : Option Addr) (m c : Nat) (news : List Value) (hx : a.eval x = .slice ao m c) (hl : news.length = m * size) (hnone : ao = none → m = 0 ∧ c = 0) (hnews : ∀ ad, ao = some ad → ∀ j u, news[j]? = some u → w.cell? (ad.add j) = some u) (h1 : ∀ u ∈ news, u.oneCell' = true)
    (h63 : n + m ≤ maxLen) (hbytes : (n + m) * bytes ≤ 140737488355328) (hbase : base ≤ w.heap.size)
    (h : ∀ g' cap' w', w'.ownsRow base e size (.slice (some ⟨g', 0, none⟩) (n + m) cap') (n + m) (xs ++ news) → w.grownBy w' (some g) → K (a.put o.dst (.slice (some ⟨g', 0, none⟩) (n + m) cap')) w') :
    if Region.wanted o (yielded ops a.tmps) = true then Oper.wp P o a w K Q else E := by
  have hw : Region.wanted o (yielded ops a.tmps) = true := by simp [Region.wanted, hgd]
  rw [if_pos hw]
  exact wp_appendO w s x t ho base e i z size bytes ht hi hz hsize hby hzs hsz g n cap xs hs hown ao m c news hx hl hnone hnews h1 h63 hbytes hbase h
end

theorem Boxes.aside {w w' : World} {X : Nat → Prop} {eb sx sb : Nat} {ev : Value} {t : Int} (h : Boxes w X eb sx sb ev t) {g : Nat} (hb : But (· = g) w w') (h1 : eb ≠ g) (h2 : sx ≠ g) (h3 : sb ≠ g) : Boxes w' X eb sx sb ev t := by
  have l1 : eb < w.heap.size := (Array.getElem?_eq_some_iff.1 h.e).1
  have l2 : sx < w.heap.size := (Array.getElem?_eq_some_iff.1 h.s).1
  exact ⟨(hb.block eb l1 h1).trans h.e, (hb.block sx l2 h2).trans h.s, (hb.cellB (lt_of_cell h.now) h3).trans h.now, h.eX, h.sX, h.bX, h.es, h.eb'⟩

theorem owns_tag {w : World} {base : Nat} {e : TypeId} {size g n cap : Nat} {xs : List Value} (h : w.ownsRow base e size (.slice (some ⟨g, 0, none⟩) n cap) n xs) : n ≤ cap ∧ ∃ cur, w.heap[g]? = some (.cells cur e (0, 0)) := by
  rcases h.2 with ⟨h', _⟩ | ⟨g2, cap2, cur, he, hb, hh, hnc, _⟩
  · cases h'
  · simp only [Value.slice.injEq, Option.some.injEq, Addr.mk.injEq, and_true, true_and] at he
    obtain ⟨rfl, rfl⟩ := he
    exact ⟨hnc, cur, hh⟩

theorem pcells_take (Q : List (Nat × Nat)) (p : Nat × Nat) : (pcells (Q ++ [p])).take (Q.length * 2) = pcells Q := by
  rw [pcells_append, ← pcells_length, List.take_left]

theorem pcells_last (Q : List (Nat × Nat)) (p : Nat × Nat) : (pcells (Q ++ [p]))[Q.length * 2]? = some (.pointer (some ⟨p.1, 0, none⟩)) ∧ (pcells (Q ++ [p]))[Q.length * 2 + 1]? = some (.pointer (some ⟨p.2, 0, none⟩)) := by
  rw [pcells_append, ← pcells_length]
  constructor
  · rw [List.getElem?_append_right (Nat.le_refl _)]
    simp [pcells]
  · rw [List.getElem?_append_right (by omega)]
    simp [pcells]

/-- What a look at the last pair leaves: Q is what was in front of it, P what comes to it. -/
def After (X : Nat → Prop) (f : Nat → CC) (lk : Nat → Option Nat) (K : (Option Addr × Nat × Nat) → List Nat) (eb sx sb : Nat) (t : Int) (a b N M : Nat) (Q P : List (Nat × Nat)) (w w' : World) : Prop :=
  But (fun i => X i ∨ i = eb) w w' ∧ (∀ p ∈ P, X p.1 ∧ X p.2) ∧ Q.length + P.length ≤ N ∧
    ((Boxes w' X eb sx sb .nilIface t ∧ ∃ (f' : Nat → CC) (lk' : Nat → Option Nat) (d' : Nat → Nat) (rt' : List Nat), CSto w' X f' lk' d' K ∧ rt'.length * 20001 + (Q.length + P.length) < M ∧ (Q.length + P.length) + rt'.length * 20000 ≤ N ∧ (∀ i, X i → lk' i = none → i ∈ rt') ∧ ∀ θ, (Sat X (gc K f') lk' θ ∧ ∀ p ∈ Q ++ P, θ p.1 = θ p.2) ↔ (Sat X (gc K f) lk θ ∧ θ a = θ b)) ∨
     (Q.length + P.length < M ∧ (∃ tt v, Boxes w' X eb sx sb (.iface tt v) t) ∧ ∀ θ, Sat X (gc K f) lk θ → θ a ≠ θ b))

/-- The worklist of equate: pairs that are still to be equated, and what has been reached; or a fault. -/
def Work (X : Nat → Prop) (f : Nat → CC) (lk : Nat → Option Nat) (K : (Option Addr × Nat × Nat) → List Nat) (eb sx sb : Nat) (t : Int) (a b B N : Nat) (w : World) (v : Value) (wr : World) (n : Nat) : Prop :=
  ∃ (k g c : Nat) (Q : List (Nat × Nat)), v = .slice (some ⟨g, 0, none⟩) k c ∧ k ≤ N ∧ wr.ownsRow B 89 2 (.slice (some ⟨g, 0, none⟩) k c) k (pcells Q) ∧ Q.length = k ∧ But (fun i => X i ∨ i = eb ∨ B ≤ i) w wr ∧ (∀ p ∈ Q, X p.1 ∧ X p.2) ∧
    ((Boxes wr X eb sx sb .nilIface t ∧ ∃ (f' : Nat → CC) (lk' : Nat → Option Nat) (d' : Nat → Nat) (rt' : List Nat), CSto wr X f' lk' d' K ∧ n = rt'.length * 20001 + k ∧ k + rt'.length * 20000 ≤ N ∧ (∀ i, X i → lk' i = none → i ∈ rt') ∧ ∀ θ, (Sat X (gc K f') lk' θ ∧ ∀ p ∈ Q, θ p.1 = θ p.2) ↔ (Sat X (gc K f) lk θ ∧ θ a = θ b)) ∨
     (n = k ∧ (∃ tt v, Boxes wr X eb sx sb (.iface tt v) t) ∧ ∀ θ, Sat X (gc K f) lk θ → θ a ≠ θ b))

set_option maxRecDepth 20000 in
set_option maxHeartbeats 4000000 in
theorem untilP_any (X : Nat → Prop) (f : Nat → CC) (lk : Nat → Option Nat) (K : (Option Addr × Nat × Nat) → List Nat) (eb sx sb : Nat) (t : Int) (a b B N : Nat) (hN : N ≤ 1099511627776) (w : World) (g0 n0 : Nat) (hXB : ∀ i, X i → i < B) (heB : eb < B) (hsB : sx < B) (hbB : sb < B)
    (hW : Work X f lk K eb sx sb t a b B N w (.slice (some ⟨g0, 0, none⟩) 1 1) w n0) :
    Calls Try.prog 53 #[.slice (some ⟨g0, 0, none⟩) 1 1, .func (.func 54) #[] #[.pointer (some ⟨eb, 0, none⟩), .pointer (some ⟨sx, 0, none⟩)]] w fun e w' => e = .returned (.tuple #[]) ∧ ∃ v n, Work X f lk K eb sx sb t a b B N w v w' n ∧ lenOf v = 0 := by
  obtain ⟨mu, hmu⟩ := mu_ex
  obtain ⟨i0, hi, hz0, hz1, hz2⟩ := info_parts Try.infoP
  go_enter Try.func53, Try.ntmps53
  go_wp2
  go_loopw [0] (fun v wr => ∃ n, Work X f lk K eb sx sb t a b B N w v wr n) (fun v wr => mu (fun n => Work X f lk K eb sx sb t a b B N w v wr n))
  case atStart => exact ⟨n0, hW⟩
  case round =>
    clear hW
    obtain ⟨n1, hn1⟩ := hrel
    obtain ⟨hn, hle⟩ := hmu _ _ hn1
    clear hn1 hle
    obtain ⟨M, hM⟩ : ∃ M, mu (fun n => Work X f lk K eb sx sb t a b B N w u0 wr n) = M := ⟨_, rfl⟩
    have HM : Hid (mu (fun n => Work X f lk K eb sx sb t a b B N w u0 wr n) = M) := hM
    rw [hM] at hn
    clear hM
    have HW := hn
    obtain ⟨k, g, c, Q, rfl, hk, hown, hQ, hB, hQX, hst⟩ := hn
    by_cases hk0 : k = 0
    · subst hk0
      clear hst hown hB HM
      go_wp2
      go_end0
      exact ⟨rfl, _, M, HW, rfl⟩
    · obtain ⟨k', rfl⟩ : ∃ k', k = k' + 1 := ⟨k - 1, by omega⟩
      obtain ⟨Q', p, rfl⟩ : ∃ Q' p, Q = Q' ++ [p] := ⟨Q.dropLast, Q.getLast (by rintro rfl; simp at hQ), (List.dropLast_concat_getLast _).symm⟩
      have hQ' : Q'.length = k' := by simpa using hQ
      obtain ⟨hkc, cur, hcur⟩ := owns_tag hown
      have hob := owns_block hown
      obtain ⟨l0, l1⟩ := pcells_last Q' p
      have c0 : wr.cell? ⟨g, k' * 2, none⟩ = some (.pointer (some ⟨p.1, 0, none⟩)) := by
        rw [owns_at hown (k' * 2) (by omega), ← hQ']
        exact l0
      have c1 : wr.cell? ⟨g, k' * 2 + 1, none⟩ = some (.pointer (some ⟨p.2, 0, none⟩)) := by
        rw [owns_at hown (k' * 2 + 1) (by omega), ← hQ']
        exact l1
      have ht := owns_take hown k' (by omega)
      rw [← hQ', pcells_take, hQ'] at ht
      obtain ⟨x, y⟩ := p
      simp only at c0 c1
      have hXx : X x := (hQX (x, y) (by simp)).1
      have hXy : X y := (hQX (x, y) (by simp)).2
      have hQX' : ∀ p ∈ Q', X p.1 ∧ X p.2 := fun p hp => hQX p (by simp [hp])
      have hwA : Below wr.heap.size wr (wr.alloc (.cells #[.pointer (some ⟨x, 0, none⟩), .pointer (some ⟨y, 0, none⟩)] 89)).drew := ((Below.refl _ wr).alloc (Nat.le_refl _) _).drew
      have hwB : But X wr (wr.alloc (.cells #[.pointer (some ⟨x, 0, none⟩), .pointer (some ⟨y, 0, none⟩)] 89)).drew := But.ofBelow hwA
      have hwF : But (fun _ => False) wr (wr.alloc (.cells #[.pointer (some ⟨x, 0, none⟩), .pointer (some ⟨y, 0, none⟩)] 89)).drew := But.ofBelow hwA
      have HCALL : Hid (Calls Try.prog 54 #[.agg #[.pointer (some ⟨x, 0, none⟩), .pointer (some ⟨y, 0, none⟩)], .pointer (some ⟨eb, 0, none⟩), .pointer (some ⟨sx, 0, none⟩)] (wr.alloc (.cells #[.pointer (some ⟨x, 0, none⟩), .pointer (some ⟨y, 0, none⟩)] 89)).drew fun e w' =>
          ∃ s1 s2 s3 P, e = .returned (.slice s1 s2 s3) ∧ (s1 = none → s2 = 0 ∧ s3 = 0) ∧ P.length = s2 ∧ s2 ≤ 20000 ∧ (∀ ad, s1 = some ad → ∀ j u, (pcells P)[j]? = some u → w'.cell? (ad.add j) = some u) ∧ After X f lk K eb sx sb t a b N M Q' P (wr.alloc (.cells #[.pointer (some ⟨x, 0, none⟩), .pointer (some ⟨y, 0, none⟩)] 89)).drew w') := by
        rcases hst with ⟨hBx, f', lk', d', rt', hS, hn, hN', hroots, hθ⟩ | ⟨hn, ⟨tt, v, hBx⟩, hno⟩
        · have hS' := hS.short (hS.cells.but hwF (fun _ _ h => h)) hS.acyc hwB
          refine (equate1_any X f' lk' d' K _ x y rt' hS' hroots hXx hXy eb sx sb t (hBx.but hwB)).mono ?_
          rintro e w' ⟨hB', hres⟩
          rcases hres with ⟨⟨s1, s2, s3⟩, P, rfl, ⟨hp1, hp2⟩, hPX, hBx', f2, lk2, d2, rt2, hS2, hrt2, hroots2, hθ2⟩ | ⟨⟨tt, v, rfl, hBx'⟩, hno⟩
          · have hs : P.length = s2 ∧ (s1 = none → s2 = 0 ∧ s3 = 0) ∧ (∀ ad, s1 = some ad → ∀ j u, (pcells P)[j]? = some u → w'.cell? (ad.add j) = some u) := by
              rcases hp2 with ⟨e1, rfl⟩ | ⟨g9, c9, e1, h9⟩
              · simp only [Prod.mk.injEq] at e1
                obtain ⟨rfl, rfl, rfl⟩ := e1
                exact ⟨rfl, fun _ => ⟨rfl, rfl⟩, (fun ad h => by cases h)⟩
              · simp only [Prod.mk.injEq] at e1
                obtain ⟨rfl, rfl, rfl⟩ := e1
                exact ⟨rfl, (fun h => by cases h), (fun ad h => by cases h; exact h9)⟩
            refine ⟨s1, s2, s3, P, rfl, hs.2.1, hs.1, by rw [← hs.1]; exact hp1, hs.2.2, hB', hPX, ?_, .inl ⟨hBx', f2, lk2, d2, rt2, hS2, ?_, ?_, hroots2, fun θ => ?_⟩⟩
            · rcases hrt2 with h9 | ⟨rfl, h9⟩
              · have : (rt2.length + 1) * 20000 ≤ rt'.length * 20000 := Nat.mul_le_mul_right _ h9
                omega
              · simp only [List.length_nil]; omega
            · rcases hrt2 with h9 | ⟨rfl, h9⟩
              · have : (rt2.length + 1) * 20001 ≤ rt'.length * 20001 := Nat.mul_le_mul_right _ h9
                omega
              · have : rt2.length * 20001 ≤ rt'.length * 20001 := Nat.mul_le_mul_right _ h9
                simp only [List.length_nil]; omega
            · rcases hrt2 with h9 | ⟨rfl, h9⟩
              · have : (rt2.length + 1) * 20000 ≤ rt'.length * 20000 := Nat.mul_le_mul_right _ h9
                omega
              · have : rt2.length * 20000 ≤ rt'.length * 20000 := Nat.mul_le_mul_right _ h9
                simp only [List.length_nil]; omega
            · rw [← hθ θ]
              have h8 := hθ2 θ
              constructor
              · rintro ⟨h1, h2⟩
                obtain ⟨h3, h4⟩ := h8.1 ⟨h1, fun p hp => h2 p (by simp [hp])⟩
                refine ⟨h3, fun p hp => ?_⟩
                rcases List.mem_append.1 hp with hp | hp
                · exact h2 p (by simp [hp])
                · simp only [List.mem_cons, List.not_mem_nil, or_false] at hp
                  subst hp
                  exact h4
              · rintro ⟨h1, h2⟩
                obtain ⟨h3, h4⟩ := h8.2 ⟨h1, h2 (x, y) (by simp)⟩
                refine ⟨h3, fun p hp => ?_⟩
                rcases List.mem_append.1 hp with hp | hp
                · exact h2 p (by simp [hp])
                · exact h4 p hp
          · refine ⟨none, 0, 0, [], rfl, fun _ => ⟨rfl, rfl⟩, rfl, by omega, (fun ad h => by cases h), hB', by simp, by simp only [List.length_nil]; omega, .inr ⟨by simp only [List.length_nil]; omega, ⟨tt, v, hBx'⟩, fun θ h1 h2 => ?_⟩⟩
            obtain ⟨h3, h4⟩ := (hθ θ).2 ⟨h1, h2⟩
            exact hno θ h3 (h4 (x, y) (by simp))
        · refine (equate1_bad X _ x y eb sx sb t tt v (hBx.but hwB)).mono ?_
          rintro e w' ⟨rfl, hb'⟩
          exact ⟨none, 0, 0, [], rfl, fun _ => ⟨rfl, rfl⟩, rfl, by omega, (fun ad h => by cases h), But.ofBelow hb', by simp, by simp only [List.length_nil]; omega, .inr ⟨by simp only [List.length_nil]; omega, ⟨tt, v, (hBx.but hwB).but (But.ofBelow hb')⟩, hno⟩⟩
      have hgX : ¬ X g := fun h => by have := hXB g h; omega
      have hge : g ≠ eb := by omega
      have HOWN : Hid (∀ w' : World, But (fun i => X i ∨ i = eb) (wr.alloc (.cells #[.pointer (some ⟨x, 0, none⟩), .pointer (some ⟨y, 0, none⟩)] 89)).drew w' → w'.ownsRow B 89 2 (.slice (some ⟨g, 0, none⟩) k' c) k' (pcells Q') ∧ B ≤ w'.heap.size) := by
        intro w' hb'
        have h1 := owns_but ht hwF (fun h => h)
        have h2 := owns_but h1 hb' (by rintro (h | h); exact hgX h; exact hge h)
        have h3 := hb'.size
        have h4 := hwF.size
        exact ⟨h2, by omega⟩
      have HWB : Hid (But X wr (wr.alloc (.cells #[.pointer (some ⟨x, 0, none⟩), .pointer (some ⟨y, 0, none⟩)] 89)).drew) := hwB
      have HBW : Hid (But (fun i => X i ∨ i = eb ∨ B ≤ i) w wr) := hB
      have hgl : g < wr.heap.size := hob.2
      have HQX : Hid (∀ p ∈ Q', X p.1 ∧ X p.2) := hQX'
      have HXB : Hid (∀ i, X i → i < B) := hXB
      have hkk : k' + 1 ≤ N := hk
      have hkc2 : k' ≤ c := by omega
      have HQL : Hid (Q'.length = k') := hQ'
      clear hst hown hB hQX hQX' hwA hwB hwF l0 l1 ht hcur HW hQ hQ' hXB
      go_wp2_with fail
      go_region_law (first
        | (go_simp; refine HCALL.out.mono ?_; rintro e w4 ⟨s1, s2, s3, P, rfl, hs1, hs2, hs3, hs4, haf⟩; obtain ⟨how4, hsz4⟩ := HOWN.out w4 haf.1; have hkN : Q'.length + P.length ≤ N := haf.2.2.1; rw [HQL.out, hs2] at hkN)
        | (refine step_appendO _ rfl (.tmp 18) (.tmp 21) 90 rfl B 89 i0 _ 2 16 Try.underlying90 hi hz0 hz1 hz2 rfl (by decide) g k' c _ rfl how4 s1 s2 s3 (pcells P) rfl ?_ hs1 hs4 (pcells_one _) ?_ ?_ hsz4 ?_; (rw [pcells_length, hs2]); (unfold maxLen; omega); omega; intro g5 c5 w5 hown5 hgrow5))
      all_goals
        have HNEXT : Hid (∃ n', n' < M ∧ Work X f lk K eb sx sb t a b B N w (.slice (some ⟨g5, 0, none⟩) (k' + s2) c5) w5 n') := by
          obtain ⟨hB4, hPX, hkN', hres⟩ := haf
          have hb5 := but_grown hgrow5
          obtain ⟨_, cur4, hcur4⟩ := owns_tag how4
          have hown6 : w5.ownsRow B 89 2 (.slice (some ⟨g5, 0, none⟩) (k' + s2) c5) (k' + s2) (pcells (Q' ++ P)) := by
            rw [pcells_append]
            exact hown5
          have hlen : (Q' ++ P).length = k' + s2 := by rw [List.length_append, HQL.out, hs2]
          have hBB : But (fun i => X i ∨ i = eb ∨ B ≤ i) w w5 := by
            refine HBW.out.trans ((HWB.out.mono (fun _ h => .inl h)).trans ((hB4.mono ?_).trans (hb5.mono ?_)))
            · rintro i (h | h)
              · exact .inl h
              · exact .inr (.inl h)
            · rintro i rfl
              exact .inr (.inr hob.1)
          have hPX2 : ∀ p ∈ Q' ++ P, X p.1 ∧ X p.2 := fun p hp => (List.mem_append.1 hp).elim (HQX.out p) (hPX p)
          rw [HQL.out, hs2] at hres
          rcases hres with ⟨hBx, f2, lk2, d2, rt2, hS2, hn2, hN2, hroots2, hθ2⟩ | ⟨hn2, ⟨tt, v, hBx⟩, hno⟩
          · refine ⟨rt2.length * 20001 + (k' + s2), hn2, k' + s2, g5, c5, Q' ++ P, rfl, hkN, hown6, hlen, hBB, hPX2, .inl ⟨hBx.aside hb5 (by omega) (by omega) (by omega), f2, lk2, d2, rt2, hS2.aside hb5 hgX (fun cur h => ?_), rfl, hN2, hroots2, hθ2⟩⟩
            rw [hcur4] at h
            simp at h
          · exact ⟨k' + s2, hn2, k' + s2, g5, c5, Q' ++ P, rfl, hkN, hown6, hlen, hBB, hPX2, .inr ⟨rfl, ⟨tt, v, hBx.aside hb5 (by omega) (by omega) (by omega)⟩, hno⟩⟩
        clear haf how4 hown5 hgrow5 hs4 HOWN HCALL HBW HWB
        simp only [Act.put, List.getElem_toArray, List.getElem_cons_succ, List.getElem_cons_zero, List.setIfInBounds_toArray, List.set_cons_zero]
        obtain ⟨n', hn', hW'⟩ := HNEXT.out
        go_wp2
        go_roundw
        case rel => exact ⟨n', hW'⟩
        case measure =>
          have h1 := (hmu (fun n => Work X f lk K eb sx sb t a b B N w (.slice (some ⟨g5, 0, none⟩) (k' + s2) c5) w5 n) n' hW').2
          have h2 := HM.out
          show mu (fun n => Work X f lk K eb sx sb t a b B N w (.slice (some ⟨g5, 0, none⟩) (k' + s2) c5) w5 n) < mu (fun n => Work X f lk K eb sx sb t a b B N w (.slice (some ⟨g, 0, none⟩) (k' + 1) c) wr n)
          rw [h2]
          omega

end Go.Proofs.Ytngomcicdcgldab

namespace Go.Proofs.Ytngomcicdcgldab
open Go.RowKit

/-- What equate leaves. -/
def ERes (X : Nat → Prop) (f : Nat → CC) (lk : Nat → Option Nat) (K : (Option Addr × Nat × Nat) → List Nat) (a b : Nat) (w : World) (e : Ending) (w' : World) : Prop :=
  But X w w' ∧ ((e = .returned .nilIface ∧ ∃ (f' : Nat → CC) (lk' : Nat → Option Nat) (d' : Nat → Nat), CSto w' X f' lk' d' K ∧ ∀ θ, Sat X (gc K f') lk' θ ↔ Sat X (gc K f) lk θ ∧ θ a = θ b) ∨ ((∃ t v, e = .returned (.iface t v)) ∧ ∀ θ, Sat X (gc K f) lk θ → θ a ≠ θ b))

set_option maxRecDepth 20000 in
set_option maxHeartbeats 4000000 in
theorem equate_any (X : Nat → Prop) (f : Nat → CC) (lk : Nat → Option Nat) (d : Nat → Nat) (K : (Option Addr × Nat × Nat) → List Nat) (w : World) (a b : Nat) (rt : List Nat) (hS : CSto w X f lk d K) (hroots : ∀ i, X i → lk i = none → i ∈ rt) (hrt : rt.length ≤ 10000000) (hXa : X a) (hXb : X b)
    (sb : Nat) (t : Int) (hsX : ¬ X sb) (hst : w.cell? ⟨sb, 1, none⟩ = some (.int .i64 t)) :
    Calls Try.prog 25 #[.pointer (some ⟨sb, 0, none⟩), .pointer (some ⟨a, 0, none⟩), .pointer (some ⟨b, 0, none⟩)] w fun e w' => ERes X f lk K a b w e w' := by
  have hb0 : Below w.heap.size w (w.alloc (.cells #[.pointer (some ⟨sb, 0, none⟩)] 50)) := (Below.refl _ w).alloc (Nat.le_refl _) _
  have hb1 := hb0.alloc hb0.size (.cells #[.nilIface] 53)
  have hb2 := hb1.alloc hb1.size (.cells #[.pointer (some ⟨a, 0, none⟩), .pointer (some ⟨b, 0, none⟩)] 89)
  have hBF : But (fun _ => False) w (((w.alloc (.cells #[.pointer (some ⟨sb, 0, none⟩)] 50)).alloc (.cells #[.nilIface] 53)).alloc (.cells #[.pointer (some ⟨a, 0, none⟩), .pointer (some ⟨b, 0, none⟩)] 89)) := But.ofBelow hb2
  have hBX : But X w (((w.alloc (.cells #[.pointer (some ⟨sb, 0, none⟩)] 50)).alloc (.cells #[.nilIface] 53)).alloc (.cells #[.pointer (some ⟨a, 0, none⟩), .pointer (some ⟨b, 0, none⟩)] 89)) := But.ofBelow hb2
  have hlX : ∀ i, X i → i < w.heap.size := fun i hi => (hS.cells.at' i hi).lt
  have hsl : sb < w.heap.size := lt_of_cell hst
  have hz : (((w.alloc (.cells #[.pointer (some ⟨sb, 0, none⟩)] 50)).alloc (.cells #[.nilIface] 53)).alloc (.cells #[.pointer (some ⟨a, 0, none⟩), .pointer (some ⟨b, 0, none⟩)] 89)).heap.size = w.heap.size + 3 := by simp
  have k0 : (((w.alloc (.cells #[.pointer (some ⟨sb, 0, none⟩)] 50)).alloc (.cells #[.nilIface] 53)).alloc (.cells #[.pointer (some ⟨a, 0, none⟩), .pointer (some ⟨b, 0, none⟩)] 89)).heap[w.heap.size]? = some (.cells #[.pointer (some ⟨sb, 0, none⟩)] 50 (0, 0)) := by
    rw [heap_alloc_old _ _ (by simp; omega), heap_alloc_old _ _ (by simp)]
    exact heap_alloc_new _ _
  have k1 : (((w.alloc (.cells #[.pointer (some ⟨sb, 0, none⟩)] 50)).alloc (.cells #[.nilIface] 53)).alloc (.cells #[.pointer (some ⟨a, 0, none⟩), .pointer (some ⟨b, 0, none⟩)] 89)).heap[w.heap.size + 1]? = some (.cells #[.nilIface] 53 (0, 0)) := by
    rw [heap_alloc_old _ _ (by simp)]
    have h9 := heap_alloc_new (w.alloc (.cells #[.pointer (some ⟨sb, 0, none⟩)] 50)) (.cells #[.nilIface] 53)
    simpa using h9
  have k2 : (((w.alloc (.cells #[.pointer (some ⟨sb, 0, none⟩)] 50)).alloc (.cells #[.nilIface] 53)).alloc (.cells #[.pointer (some ⟨a, 0, none⟩), .pointer (some ⟨b, 0, none⟩)] 89)).heap[w.heap.size + 1 + 1]? = some (.cells #[.pointer (some ⟨a, 0, none⟩), .pointer (some ⟨b, 0, none⟩)] 89 (0, 0)) := by
    have h9 := heap_alloc_new ((w.alloc (.cells #[.pointer (some ⟨sb, 0, none⟩)] 50)).alloc (.cells #[.nilIface] 53)) (.cells #[.pointer (some ⟨a, 0, none⟩), .pointer (some ⟨b, 0, none⟩)] 89)
    simpa using h9
  have hBx : Boxes (((w.alloc (.cells #[.pointer (some ⟨sb, 0, none⟩)] 50)).alloc (.cells #[.nilIface] 53)).alloc (.cells #[.pointer (some ⟨a, 0, none⟩), .pointer (some ⟨b, 0, none⟩)] 89)) X (w.heap.size + 1) w.heap.size sb .nilIface t :=
    ⟨k1, k0, (hBX.cellB hsl hsX).trans hst, fun h => by have := hlX _ h; omega, fun h => by have := hlX _ h; omega, hsX, by omega, by omega⟩
  have hS1 : CSto (((w.alloc (.cells #[.pointer (some ⟨sb, 0, none⟩)] 50)).alloc (.cells #[.nilIface] 53)).alloc (.cells #[.pointer (some ⟨a, 0, none⟩), .pointer (some ⟨b, 0, none⟩)] 89)) X f lk d K := hS.short (hS.cells.but hBF (fun _ _ h => h)) hS.acyc hBX
  have hown : (((w.alloc (.cells #[.pointer (some ⟨sb, 0, none⟩)] 50)).alloc (.cells #[.nilIface] 53)).alloc (.cells #[.pointer (some ⟨a, 0, none⟩), .pointer (some ⟨b, 0, none⟩)] 89)).ownsRow (w.heap.size + 1 + 1) 89 2 (.slice (some ⟨w.heap.size + 1 + 1, 0, none⟩) 1 1) 1 (pcells [(a, b)]) :=
    ⟨rfl, Or.inr ⟨_, 1, _, rfl, Nat.le_refl _, k2, Nat.le_refl _, by simp [maxLen], rfl, rfl⟩⟩
  have hW : Work X f lk K (w.heap.size + 1) w.heap.size sb t a b (w.heap.size + 1 + 1) (1 + rt.length * 20000) (((w.alloc (.cells #[.pointer (some ⟨sb, 0, none⟩)] 50)).alloc (.cells #[.nilIface] 53)).alloc (.cells #[.pointer (some ⟨a, 0, none⟩), .pointer (some ⟨b, 0, none⟩)] 89)) (.slice (some ⟨w.heap.size + 1 + 1, 0, none⟩) 1 1) (((w.alloc (.cells #[.pointer (some ⟨sb, 0, none⟩)] 50)).alloc (.cells #[.nilIface] 53)).alloc (.cells #[.pointer (some ⟨a, 0, none⟩), .pointer (some ⟨b, 0, none⟩)] 89)) (rt.length * 20001 + 1) :=
    ⟨1, _, 1, [(a, b)], rfl, by omega, hown, rfl, But.refl _ _, by simp [hXa, hXb], .inl ⟨hBx, f, lk, d, rt, hS1, rfl, Nat.le_refl _, hroots, fun θ => by simp⟩⟩
  have HU := untilP_any X f lk K (w.heap.size + 1) w.heap.size sb t a b (w.heap.size + 1 + 1) (1 + rt.length * 20000) (by omega) (((w.alloc (.cells #[.pointer (some ⟨sb, 0, none⟩)] 50)).alloc (.cells #[.nilIface] 53)).alloc (.cells #[.pointer (some ⟨a, 0, none⟩), .pointer (some ⟨b, 0, none⟩)] 89)) (w.heap.size + 1 + 1) _ (fun i hi => by have := hlX i hi; omega) (by omega) (by omega) (by omega) hW
  have HBX : Hid (∀ w', But (fun i => X i ∨ i = w.heap.size + 1 ∨ w.heap.size + 1 + 1 ≤ i) (((w.alloc (.cells #[.pointer (some ⟨sb, 0, none⟩)] 50)).alloc (.cells #[.nilIface] 53)).alloc (.cells #[.pointer (some ⟨a, 0, none⟩), .pointer (some ⟨b, 0, none⟩)] 89)) w' → But X w w') := by
    intro w' h
    refine ⟨h.os.trans hBX.os, h.tape.trans hBX.tape, h.output.trans hBX.output, Nat.le_trans hBX.size h.size, fun i hi hn => ?_⟩
    refine (h.block i (Nat.lt_of_lt_of_le hi hBX.size) ?_).trans (hBX.block i hi hn)
    rintro (h9 | h9 | h9)
    · exact hn h9
    · omega
    · omega
  clear hW hown hS1 hBx k0 k1 k2 hBF hBX hb0 hb1 hb2 hS hroots hst hlX
  go_enter Try.func25, Try.ntmps25
  go_wp2_with fail
  refine HU.mono ?_
  rintro e w1 ⟨rfl, v, n, ⟨k, g, c, Q, rfl, hk, hown, hQ, hB, hQX, hres⟩, hlen⟩
  have hk0 : k = 0 := hlen
  subst hk0
  obtain rfl : Q = [] := List.eq_nil_of_length_eq_zero hQ
  have HB := HBX.out w1 hB
  clear HU HBX hown hB hQX hlen hz
  rcases hres with ⟨hBx, f', lk', d', rt', hS', _, _, _, hθ⟩ | ⟨_, ⟨tt, v, hBx⟩, hno⟩
  · have qe : w1.cell? ⟨w.heap.size + 1, 0, none⟩ = some .nilIface := by rw [cell_of_row _ _ _ _ 53 (0, 0) hBx.e]; rfl
    have HR : Hid (∃ (f' : Nat → CC) (lk' : Nat → Option Nat) (d' : Nat → Nat), CSto w1 X f' lk' d' K ∧ ∀ θ, Sat X (gc K f') lk' θ ↔ Sat X (gc K f) lk θ ∧ θ a = θ b) := ⟨f', lk', d', hS', fun θ => by rw [← hθ θ]; simp⟩
    clear hBx hS' hθ
    go_wp2
    go_ret
    exact ⟨HB, .inl ⟨rfl, HR.out⟩⟩
  · have qe : w1.cell? ⟨w.heap.size + 1, 0, none⟩ = some (.iface tt v) := by rw [cell_of_row _ _ _ _ 53 (0, 0) hBx.e]; rfl
    clear hBx
    go_wp2
    go_ret
    exact ⟨HB, .inr ⟨⟨_, _, rfl⟩, hno⟩⟩

end Go.Proofs.Ytngomcicdcgldab

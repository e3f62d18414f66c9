import Derived.Test.YtdcnejhlmdkecaaGreatDoorWAA
import Derived.Test.YtdcnejhlmdkecaaGreatDoorProg
import Derived.WalkKit
import Derived.Deep.QuietTactic
import Derived.BigQuiet
namespace Go.Proofs.YtdcnejhlmdkecaaGreatDoor

open Go.RowKit

/-- What lies in a cell of impl's store: its id, its node, its kids' slice, since when it is told, its level, its rank, what it was tied to, since when, and its mark (where it is linked to is told beside). -/
structure CC where
  id : Int
  nd : Nd
  ks : Option Addr × Nat × Nat
  told : Int
  lv : Int
  rk : Int
  td : Option Nat
  si : Int
  sn : Int

/-- A pointer to a block, or nil. -/
def ptr (o : Option Nat) : Value := .pointer (o.map fun b => ⟨b, 0, none⟩)

/-- A cell in a block. -/
def CellAt (w : World) (b : Nat) (c : CC) (l : Option Nat) : Prop :=
  w.heap[b]? = some (.cells #[.int .i64 c.id, .int .i64 c.nd.kind, .int .i64 c.nd.num, .string c.nd.text, .int .i64 c.nd.kids, .int .i64 c.nd.place, .slice c.ks.1 c.ks.2.1 c.ks.2.2, .int .i64 c.told, .int .i64 c.lv, ptr l, .int .i64 c.rk, ptr c.td, .int .i64 c.si, .int .i64 c.sn] 158 (0, 0))

/-- The cells of a store: which blocks they are, what lies in them, how they are linked. -/
structure Cells (w : World) (X : Nat → Prop) (f : Nat → CC) (lk : Nat → Option Nat) : Prop where
  at' : ∀ b, X b → CellAt w b (f b) (lk b)
  link : ∀ b j, lk b = some j → X b ∧ X j

/-- Where the links from a cell end. -/
def HdF (lk : Nat → Option Nat) (R : Nat × Nat → Prop) (x : Nat × Nat) : Prop :=
  (∃ (i : Nat), x = (i, i) ∧ (lk i = none)) ∨
  (∃ (i j r : Nat), x = (i, r) ∧ (lk i = some j) ∧ (R (j, r)))

structure Hd (lk : Nat → Option Nat) (i : Nat) (r : Nat) : Prop where
  of ::
  lfp : Lfp (HdF lk) (i, r)

theorem Hd.grows (lk : Nat → Option Nat) : Grows (HdF lk) := by
  rintro R R' x h0 (⟨i, e0, h⟩ | ⟨i, j, r, e0, h, k⟩)
  · exact .inl ⟨i, e0, h⟩
  · exact .inr (⟨i, j, r, e0, h, h0 _ k⟩)

theorem Hd.root {lk : Nat → Option Nat} {i : Nat} (h : lk i = none) : Hd lk i i :=
  ⟨Lfp.fold (Hd.grows lk) (.inl ⟨i, rfl, h⟩)⟩

theorem Hd.step {lk : Nat → Option Nat} {i j r : Nat} (h : lk i = some j) (k : Hd lk j r) : Hd lk i r :=
  ⟨Lfp.fold (Hd.grows lk) (.inr (⟨i, j, r, rfl, h, k.lfp⟩))⟩

theorem Hd.elim {lk : Nat → Option Nat} {motive : ∀ i r, Hd lk i r → Prop}
    (root : ∀ {i : Nat} (h : lk i = none), motive i i (Hd.root (i := i) h))
    (step : ∀ {i j r : Nat} (h : lk i = some j) (k : Hd lk j r), motive j r (k) → motive i r (Hd.step (i := i) (j := j) (r := r) h k))
    {i : Nat} {r : Nat} (h : Hd lk i r) : motive i r h := by
  have key : ∀ h, motive (i, r).1 (i, r).2 h := Lfp.ind (Hd.grows lk) (p := fun x => ∀ h, motive x.1 x.2 h) (by
    rintro x (⟨i, e0, h⟩ | ⟨i, j, r, e0, h, k⟩) h9
    · subst e0; exact root (i := i) h
    · subst e0; exact step (i := i) (j := j) (r := r) h ⟨k.1⟩ (k.2 _)) h.lfp
  exact key h

theorem Hd.inv {lk : Nat → Option Nat} {motive : ∀ i r, Hd lk i r → Prop}
    (root : ∀ {i : Nat} (h : lk i = none), motive i i (Hd.root (i := i) h))
    (step : ∀ {i j r : Nat} (h : lk i = some j) (k : Hd lk j r), motive i r (Hd.step (i := i) (j := j) (r := r) h k))
    {i : Nat} {r : Nat} (h : Hd lk i r) : motive i r h := by
  induction h using Hd.elim with
  | root h => exact root h
  | step h k _ => exact step h k

theorem Hd.is_root {lk : Nat → Option Nat} {i r : Nat} (h : Hd lk i r) : lk r = none := by
  induction h using Hd.elim with
  | root h => exact h
  | step _ _ ih => exact ih

theorem Hd.fun {lk : Nat → Option Nat} {i r r' : Nat} (h : Hd lk i r) (h' : Hd lk i r') : r = r' := by
  induction h using Hd.elim with
  | root h =>
    cases h' using Hd.inv with
    | root _ => rfl
    | step h1 _ => rw [h] at h1; cases h1
  | step h1 _ ih =>
    cases h' using Hd.inv with
    | root h2 => rw [h1] at h2; cases h2
    | step h2 h3 => rw [h1] at h2; cases h2; exact ih h3

/-- Links that lead somewhere. -/
def Acyc (lk : Nat → Option Nat) (d : Nat → Nat) : Prop := ∀ i j, lk i = some j → d j < d i

theorem CellAt.cell {w : World} {b : Nat} {c : CC} {l : Option Nat} (h : CellAt w b c l) :
    w.cell? ⟨b, 0, none⟩ = some (.int .i64 c.id) ∧ w.cell? ⟨b, 1, none⟩ = some (.int .i64 c.nd.kind) ∧ w.cell? ⟨b, 2, none⟩ = some (.int .i64 c.nd.num) ∧ w.cell? ⟨b, 3, none⟩ = some (.string c.nd.text) ∧ w.cell? ⟨b, 4, none⟩ = some (.int .i64 c.nd.kids) ∧ w.cell? ⟨b, 5, none⟩ = some (.int .i64 c.nd.place) ∧ w.cell? ⟨b, 6, none⟩ = some (.slice c.ks.1 c.ks.2.1 c.ks.2.2) ∧ w.cell? ⟨b, 7, none⟩ = some (.int .i64 c.told) ∧ w.cell? ⟨b, 8, none⟩ = some (.int .i64 c.lv) ∧ w.cell? ⟨b, 9, none⟩ = some (ptr l) ∧ w.cell? ⟨b, 10, none⟩ = some (.int .i64 c.rk) ∧ w.cell? ⟨b, 11, none⟩ = some (ptr c.td) ∧ w.cell? ⟨b, 12, none⟩ = some (.int .i64 c.si) ∧ w.cell? ⟨b, 13, none⟩ = some (.int .i64 c.sn) := by
  refine ⟨?_, ?_, ?_, ?_, ?_, ?_, ?_, ?_, ?_, ?_, ?_, ?_, ?_, ?_⟩
  all_goals
    rw [cell_of_row _ b _ _ 158 (0, 0) h]
    rfl

theorem CellAt.frozen {w : World} {b : Nat} {c : CC} {l : Option Nat} (h : CellAt w b c l) (o : Nat) : w.frozen? ⟨b, o, none⟩ = false := frozen_of_row w b o _ 158 h

theorem CellAt.lt {w : World} {b : Nat} {c : CC} {l : Option Nat} (h : CellAt w b c l) : b < w.heap.size := (Array.getElem?_eq_some_iff.1 h).1

theorem CellAt.relink {w : World} {b : Nat} {c : CC} {l : Option Nat} (h : CellAt w b c l) (l' : Option Nat) : CellAt (w.setCell ⟨b, 9, none⟩ (ptr l')) b c l' := by
  have h9 := heap_setCell_same w b 9 _ 158 (ptr l') h
  simpa [CellAt] using h9

theorem CellAt.but {S : Nat → Prop} {w w' : World} {b : Nat} {c : CC} {l : Option Nat} (h : CellAt w b c l) (hb : But S w w') (hn : ¬ S b) : CellAt w' b c l := (hb.block b h.lt hn).trans h

theorem Cells.but {S : Nat → Prop} {w w' : World} {X : Nat → Prop} {f : Nat → CC} {lk : Nat → Option Nat} (h : Cells w X f lk) (hb : But S w w') (hn : ∀ b, X b → ¬ S b) : Cells w' X f lk :=
  ⟨fun b hx => (h.at' b hx).but hb (hn b hx), h.link⟩

/-- One cell is linked anew. -/
theorem Cells.relink {w : World} {X : Nat → Prop} {f : Nat → CC} {lk : Nat → Option Nat} (h : Cells w X f lk) {b j : Nat} (hb : X b) (hj : X j) : Cells (w.setCell ⟨b, 9, none⟩ (ptr (some j))) X f (fun i => if i = b then some j else lk i) := by
  refine ⟨fun x hx => ?_, fun x y e => ?_⟩
  · by_cases hxb : x = b
    · subst hxb
      rw [if_pos rfl]
      exact (h.at' x hx).relink (some j)
    · rw [if_neg hxb]
      have hs : But (· = b) w (w.setCell ⟨b, 9, none⟩ (ptr (some j))) := (But.refl (· = b) w).setCell (p := ⟨b, 9, none⟩) rfl _
      exact (h.at' x hx).but hs hxb
  · by_cases hxb : x = b
    · subst hxb
      rw [if_pos rfl] at e
      simp only [Option.some.injEq] at e
      subst e
      exact ⟨hb, hj⟩
    · rw [if_neg hxb] at e
      exact h.link x y e

/-- Two forests with the same heads. -/
def SameHd (lk lk' : Nat → Option Nat) : Prop := ∀ i r, Hd lk i r ↔ Hd lk' i r

theorem SameHd.refl (lk : Nat → Option Nat) : SameHd lk lk := fun _ _ => Iff.rfl
theorem SameHd.trans {a b c : Nat → Option Nat} (h : SameHd a b) (h' : SameHd b c) : SameHd a c := fun i r => (h i r).trans (h' i r)

theorem Hd.low {lk : Nat → Option Nat} {d : Nat → Nat} (ha : Acyc lk d) {i r : Nat} (h : Hd lk i r) : d r ≤ d i ∧ (i ≠ r → d r < d i) := by
  induction h using Hd.elim with
  | root _ => exact ⟨Nat.le_refl _, fun h => absurd rfl h⟩
  | step h1 _ ih =>
    have := ha _ _ h1
    exact ⟨by omega, fun _ => by omega⟩

/-- A path is shortened: its heads stay. -/
theorem same_short {lk : Nat → Option Nat} {d : Nat → Nat} (ha : Acyc lk d) {b r : Nat} (hb : Hd lk b r) (hne : b ≠ r) : SameHd lk (fun i => if i = b then some r else lk i) ∧ Acyc (fun i => if i = b then some r else lk i) d := by
  have hr0 := hb.is_root
  have hr1 : (fun i => if i = b then some r else lk i) r = none := by
    show (if r = b then some r else lk r) = none
    rw [if_neg (fun e => hne e.symm)]
    exact hr0
  refine ⟨fun i q => ⟨fun h => ?_, fun h => ?_⟩, fun i j e => ?_⟩
  · induction h using Hd.elim with
    | @root i h1 =>
      refine Hd.root ?_
      show (if i = b then some r else lk i) = none
      by_cases hi : i = b
      · subst hi
        exact absurd ((Hd.root h1).fun hb) hne
      · rw [if_neg hi]; exact h1
    | @step i j q h1 h2 ih =>
      by_cases hi : i = b
      · subst hi
        have e : q = r := (Hd.step h1 h2).fun hb
        subst e
        exact Hd.step (j := q) (by show (if i = i then some q else lk i) = some q; rw [if_pos rfl]) (Hd.root hr1)
      · exact Hd.step (j := j) (by show (if i = b then some r else lk i) = some j; rw [if_neg hi]; exact h1) ih
  · induction h using Hd.elim with
    | @root i h1 =>
      have h1 : (if i = b then some r else lk i) = none := h1
      by_cases hi : i = b
      · rw [if_pos hi] at h1; cases h1
      · rw [if_neg hi] at h1
        exact Hd.root h1
    | @step i j q h1 h2 ih =>
      have h1 : (if i = b then some r else lk i) = some j := h1
      by_cases hi : i = b
      · rw [if_pos hi] at h1
        simp only [Option.some.injEq] at h1
        subst h1
        subst hi
        have e : q = r := ih.fun (Hd.root hr0)
        subst e
        exact hb
      · rw [if_neg hi] at h1
        exact Hd.step h1 ih
  · have e : (if i = b then some r else lk i) = some j := e
    by_cases hi : i = b
    · rw [if_pos hi] at e
      simp only [Option.some.injEq] at e
      subst e
      subst hi
      exact (hb.low ha).2 hne
    · rw [if_neg hi] at e
      exact ha i j e

/-- The block that a pointer leads to. -/
def blk : Value → Nat
  | .pointer (some a) => a.block
  | _ => 0

/-- Pointers to two cells are not equal. -/
theorem run_neq_ptr_other {P : Program} {w : World} {tp te : TypeId} {j : TypeInfo} {a b : Addr} {ca cb : Array Value} {ta tb : TypeId} (hp : P.underlying tp = some (.pointer te)) (hte : P.info? te = some j) (hsz : j.size ≠ 0)
    (hne : a ≠ b) (ha : w.heap[a.block]? = some (.cells ca ta (0, 0))) (hb : w.heap[b.block]? = some (.cells cb tb (0, 0))) :
    (binOp .neq tp (.pointer (some a)) (.pointer (some b))).run P w = .ok (.bool true) w := by
  have h : ∀ d : Nat, (Op.equalIn (d + 1) tp (.pointer (some a)) (.pointer (some b))).run P w = .ok false w := fun d => by
    simp [Op.equalIn, run_underlying hp, sizeOf, typeInfo, hte, hsz, run_sameAddr_other w hne ha hb]
  simp only [binOp]
  simp [Op.equal, Op.maxDepth, h 9999]

theorem run_eql_ptr_other {P : Program} {w : World} {tp te : TypeId} {j : TypeInfo} {a b : Addr} {ca cb : Array Value} {ta tb : TypeId} (hp : P.underlying tp = some (.pointer te)) (hte : P.info? te = some j) (hsz : j.size ≠ 0)
    (hne : a ≠ b) (ha : w.heap[a.block]? = some (.cells ca ta (0, 0))) (hb : w.heap[b.block]? = some (.cells cb tb (0, 0))) :
    (binOp .eql tp (.pointer (some a)) (.pointer (some b))).run P w = .ok (.bool false) w := by
  have h : ∀ d : Nat, (Op.equalIn (d + 1) tp (.pointer (some a)) (.pointer (some b))).run P w = .ok false w := fun d => by
    simp [Op.equalIn, run_underlying hp, sizeOf, typeInfo, hte, hsz, run_sameAddr_other w hne ha hb]
  simp only [binOp]
  simp [Op.equal, Op.maxDepth, h 9999]

theorem run_eql_ptr_same {P : Program} {w : World} {tp te : TypeId} {j : TypeInfo} (a : Addr) (hp : P.underlying tp = some (.pointer te)) (hte : P.info? te = some j) :
    (binOp .eql tp (.pointer (some a)) (.pointer (some a))).run P w = .ok (.bool true) w := by
  have h : ∀ d : Nat, (Op.equalIn (d + 1) tp (.pointer (some a)) (.pointer (some a))).run P w = .ok true w := fun d => by
    simp [Op.equalIn, run_underlying hp, sizeOf, typeInfo, hte, run_sameAddr_same]
  simp only [binOp]
  simp [Op.equal, Op.maxDepth, h 9999]

theorem run_neq_ptr_same' {P : Program} {w : World} {tp te : TypeId} {j : TypeInfo} (a : Addr) (hp : P.underlying tp = some (.pointer te)) (hte : P.info? te = some j) :
    (binOp .neq tp (.pointer (some a)) (.pointer (some a))).run P w = .ok (.bool false) w := by
  have h : ∀ d : Nat, (Op.equalIn (d + 1) tp (.pointer (some a)) (.pointer (some a))).run P w = .ok true w := fun d => by
    simp [Op.equalIn, run_underlying hp, sizeOf, typeInfo, hte, run_sameAddr_same]
  simp only [binOp]
  simp [Op.equal, Op.maxDepth, h 9999]

theorem u_cp : Tryz.prog.underlying 110 = some (.pointer 158) := Tryz.underlying110
theorem infoCell : (Tryz.prog.info? 158).map (fun i => i.size) = some 14 := by kernel_rfl
theorem u_cell : ∃ j, Tryz.prog.info? 158 = some j ∧ j.size ≠ 0 := by
  obtain ⟨j, hj, hz⟩ := Option.map_eq_some_iff.1 infoCell
  exact ⟨j, hj, by rw [hz]; decide⟩

set_option maxRecDepth 20000 in
set_option maxHeartbeats 2000000 in
theorem head_any (X : Nat → Prop) (f : Nat → CC) (lk : Nat → Option Nat) (d : Nat → Nat) (HA : Hid (Acyc lk d)) (w : World) (hC : Cells w X f lk) (b r : Nat) (hX : X b) (hr : Hd lk b r) :
    Calls Tryz.prog 79 #[.pointer (some ⟨b, 0, none⟩)] w fun e w' => e = .returned (.pointer (some ⟨r, 0, none⟩)) ∧ ∃ lk', Cells w' X f lk' ∧ SameHd lk lk' ∧ Acyc lk' d ∧ But X w w' ∧ w'.heap.size = w.heap.size := by
  go_enter Tryz.func79, Tryz.ntmps79
  go_wp2
  go_loopw [3] (fun v wr => ∃ k : Nat, X k ∧ v = .pointer (some ⟨k, 0, none⟩) ∧ Hd lk k r ∧ wr = w) (fun v _ => d (blk v))
  case atStart => exact ⟨b, hX, rfl, hr, rfl⟩
  case round =>
    obtain ⟨k, hk, rfl, hrt, rfl⟩ := hrel
    obtain ⟨_, _, _, _, _, _, _, _, _, c7, _, _, _, _⟩ := (hC.at' k hk).cell
    cases hl : lk k with
    | none =>
      have e : k = r := by
        cases hrt using Hd.inv with
        | root _ => rfl
        | step h1 _ => rw [hl] at h1; cases h1
      subst e
      rw [hl] at c7
      simp only [ptr, Option.map_none] at c7
      have hr9 := hr
      clear hrt hr
      go_wp2
      go_loopw [0] (fun v wq => ∃ (i : Nat) (lk' : Nat → Option Nat), X i ∧ v = .pointer (some ⟨i, 0, none⟩) ∧ Hd lk' i k ∧ Cells wq X f lk' ∧ SameHd lk lk' ∧ Acyc lk' d ∧ But X wr wq ∧ wq.heap.size = wr.heap.size) (fun v _ => d (blk v))
      case atStart => exact ⟨b, lk, hX, rfl, hr9, hC, SameHd.refl _, HA.out, But.refl _ _, rfl⟩
      case round =>
        obtain ⟨i, lk', hi, rfl, hrt, hC', hS, hA', hB, hsz⟩ := hrel
        by_cases hik : i = k
        · subst hik
          obtain ⟨j9, hj9, _⟩ := u_cell
          have hq := run_neq_ptr_same' (w := wr) ⟨i, 0, none⟩ u_cp hj9
          clear hC c7 hl hr9
          go_wp2
          go_ret
          exact ⟨rfl, lk', hC', hS, hA', hB, hsz⟩
        · obtain ⟨_, _, _, _, _, _, _, _, _, d7, _, _, _, _⟩ := (hC'.at' i hi).cell
          have hfz := (hC'.at' i hi).frozen 9
          obtain ⟨j, hj⟩ : ∃ j, lk' i = some j := by
            cases h9 : lk' i with
            | none =>
              cases hrt using Hd.inv with
              | root _ => exact absurd rfl hik
              | step h1 _ => rw [h9] at h1; cases h1
            | some j => exact ⟨j, rfl⟩
          have hjX := (hC'.link i j hj).2
          have hkX := hk
          have hdj := hA' i j hj
          have hjk : Hd lk' j k := by
            cases hrt using Hd.inv with
            | root h1 => rw [hj] at h1; cases h1
            | step h1 h2 => rw [hj] at h1; cases h1; exact h2
          rw [hj] at d7
          simp only [ptr, Option.map_some] at d7
          obtain ⟨hS2, hA2⟩ := same_short hA' hrt hik
          have hC2 := hC'.relink (j := k) hi hkX
          have hB2 := hB.setCell (p := ⟨i, 9, none⟩) hi (ptr (some k))
          have hS3 := hS.trans hS2
          have hj3 : Hd (fun x => if x = i then some k else lk' x) j k := (hS2 j k).1 hjk
          simp only [ptr, Option.map_some] at hC2 hB2
          obtain ⟨j9, hj9, hz9⟩ := u_cell
          have hq := run_neq_ptr_other (w := wr) u_cp hj9 hz9 (a := ⟨i, 0, none⟩) (b := ⟨k, 0, none⟩) (by simp) (hC'.at' i hi) (hC'.at' k hkX)
          clear hC c7 hl hr9 hrt hjk hj hC' hS hS2 hA' hB
          go_wp2
          go_roundw
          case rel => exact ⟨j, _, hjX, rfl, hj3, hC2, hS3, hA2, hB2, by simp [hsz]⟩
          case measure => simpa [blk] using hdj
    | some j =>
      have hj := (hC.link k j hl).2
      have hrj : Hd lk j r := by
        cases hrt using Hd.inv with
        | root h1 => rw [hl] at h1; cases h1
        | step h1 h2 => rw [hl] at h1; cases h1; exact h2
      have hdj := HA.out k j hl
      rw [hl] at c7
      simp only [ptr, Option.map_some] at c7
      clear hrt hl
      go_wp2
      go_roundw
      case rel => exact ⟨j, hj, rfl, hrj, trivial⟩
      case measure => simpa [blk] using hdj

/-- Is the cell an unknown that isn't held? -/
def CC.open? (c : CC) : Bool := c.nd.kind == 61 && decide (1 ≤ c.lv)

set_option maxRecDepth 20000 in
set_option maxHeartbeats 2000000 in
theorem isOpen_any (w : World) (b : Nat) (c : CC) (l : Option Nat) (hc : CellAt w b c l) :
    Calls Tryz.prog 95 #[.pointer (some ⟨b, 0, none⟩)] w fun e w' => e = .returned (.bool c.open?) ∧ w' = w := by
  obtain ⟨_, c0, _, _, _, _, _, _, c6, _, _, _, _, _⟩ := hc.cell
  go_enter Tryz.func95, Tryz.ntmps95
  go_wp2
  · rename_i h9
    go_ret
    exact ⟨by simp [CC.open?, h9], rfl⟩
  · rename_i h9
    go_ret
    exact ⟨by simp [CC.open?, h9], rfl⟩

theorem Cells.drewN {w : World} {X : Nat → Prop} {f : Nat → CC} {lk : Nat → Option Nat} (h : Cells w X f lk) (n : Nat) : Cells (w.drewN n) X f lk := ⟨fun b hb => h.at' b hb, h.link⟩

theorem Cells.drew {w : World} {X : Nat → Prop} {f : Nat → CC} {lk : Nat → Option Nat} (h : Cells w X f lk) : Cells w.drew X f lk := ⟨fun b hb => h.at' b hb, h.link⟩

theorem But.drew {S : Nat → Prop} {a w : World} (h : But S a w) : But S a w.drew := ⟨h.os, h.tape, h.output, h.size, h.block⟩

theorem But.drewN {S : Nat → Prop} {a w : World} (h : But S a w) (n : Nat) : But S a (w.drewN n) := ⟨h.os, h.tape, h.output, h.size, h.block⟩

theorem But.cellB {S : Nat → Prop} {w w' : World} (h : But S w w') {b o : Nat} (hl : b < w.heap.size) (hn : ¬ S b) : w'.cell? ⟨b, o, none⟩ = w.cell? ⟨b, o, none⟩ := by
  unfold World.cell?
  rw [h.block b hl hn]

/-- A cell's block is written anew. -/
theorem Cells.upd {w w' : World} {X : Nat → Prop} {f : Nat → CC} {lk : Nat → Option Nat} (h : Cells w X f lk) {b : Nat} {c' : CC} (hc : CellAt w' b c' (lk b)) (hb : But (· = b) w w') : Cells w' X (fun i => if i = b then c' else f i) lk := by
  refine ⟨fun x hx => ?_, h.link⟩
  by_cases hxb : x = b
  · subst hxb
    rw [if_pos rfl]
    exact hc
  · rw [if_neg hxb]
    exact (h.at' x hx).but hb hxb

/-- A cell's rank is stored anew. -/
theorem Cells.rerank {w : World} {X : Nat → Prop} {f : Nat → CC} {lk : Nat → Option Nat} (h : Cells w X f lk) {b : Nat} (hb : X b) (r : Int) : Cells (w.setCell ⟨b, 10, none⟩ (.int .i64 r)) X (fun i => if i = b then { f b with rk := r } else f i) lk := by
  refine h.upd ?_ ((But.refl (· = b) w).setCell (p := ⟨b, 10, none⟩) rfl _)
  have h9 := heap_setCell_same w b 10 _ 158 (.int .i64 r) (h.at' b hb)
  simpa [CellAt] using h9

/-- What another cell says is written into a cell. -/
theorem Cells.says {w : World} {X : Nat → Prop} {f : Nat → CC} {lk : Nat → Option Nat} (h : Cells w X f lk) {b : Nat} (hb : X b) (c : CC) (t : Int) :
    Cells ((((((((w.setCell ⟨b, 1, none⟩ (.int .i64 c.nd.kind)).setCell ⟨b, 2, none⟩ (.int .i64 c.nd.num)).setCell ⟨b, 3, none⟩ (.string c.nd.text)).setCell ⟨b, 4, none⟩ (.int .i64 c.nd.kids)).setCell ⟨b, 5, none⟩ (.int .i64 c.nd.place)).setCell ⟨b, 6, none⟩ (.slice c.ks.1 c.ks.2.1 c.ks.2.2)).setCell ⟨b, 8, none⟩ (.int .i64 c.lv)).setCell ⟨b, 7, none⟩ (.int .i64 t)) X
      (fun i => if i = b then { f b with nd := c.nd, ks := c.ks, lv := c.lv, told := t } else f i) lk := by
  refine h.upd ?_ ?_
  · have h0 := heap_setCell_same w b 1 _ 158 (.int .i64 c.nd.kind) (h.at' b hb)
    have h1 := heap_setCell_same _ b 2 _ 158 (.int .i64 c.nd.num) h0
    have h2 := heap_setCell_same _ b 3 _ 158 (.string c.nd.text) h1
    have h3 := heap_setCell_same _ b 4 _ 158 (.int .i64 c.nd.kids) h2
    have h4 := heap_setCell_same _ b 5 _ 158 (.int .i64 c.nd.place) h3
    have h5 := heap_setCell_same _ b 6 _ 158 (.slice c.ks.1 c.ks.2.1 c.ks.2.2) h4
    have h6 := heap_setCell_same _ b 8 _ 158 (.int .i64 c.lv) h5
    have h7 := heap_setCell_same _ b 7 _ 158 (.int .i64 t) h6
    simpa [CellAt] using h7
  · exact (((((((((But.refl (· = b) w).setCell (p := ⟨b, 1, none⟩) rfl (.int .i64 c.nd.kind)).setCell (p := ⟨b, 2, none⟩) rfl (.int .i64 c.nd.num)).setCell (p := ⟨b, 3, none⟩) rfl (.string c.nd.text)).setCell (p := ⟨b, 4, none⟩) rfl (.int .i64 c.nd.kids)).setCell (p := ⟨b, 5, none⟩) rfl (.int .i64 c.nd.place)).setCell (p := ⟨b, 6, none⟩) rfl (.slice c.ks.1 c.ks.2.1 c.ks.2.2)).setCell (p := ⟨b, 8, none⟩) rfl (.int .i64 c.lv)).setCell (p := ⟨b, 7, none⟩) rfl (.int .i64 t))

/-- A head is linked to another, and it is kept beside since when. -/
theorem Cells.ties {w : World} {X : Nat → Prop} {f : Nat → CC} {lk : Nat → Option Nat} (h : Cells w X f lk) {b j : Nat} (hb : X b) (hj : X j) (t : Int) :
    Cells (((w.setCell ⟨b, 9, none⟩ (ptr (some j))).setCell ⟨b, 11, none⟩ (ptr (some j))).setCell ⟨b, 12, none⟩ (.int .i64 t)) X
      (fun i => if i = b then { f b with td := some j, si := t } else f i) (fun i => if i = b then some j else lk i) := by
  have h1 := h.relink hb hj
  refine h1.upd ?_ ?_
  · have h2 := heap_setCell_same _ b 11 _ 158 (ptr (some j)) (h1.at' b hb)
    have h3 := heap_setCell_same _ b 12 _ 158 (.int .i64 t) h2
    simpa [CellAt] using h3
  · exact ((But.refl (· = b) _).setCell (p := ⟨b, 11, none⟩) rfl _).setCell (p := ⟨b, 12, none⟩) rfl _

/-- The cells behind a tie: q is linked to h, which has got what a says where it was an unknown. -/
def tiedF (f : Nat → CC) (a h q : Nat) (r t : Int) : Nat → CC := fun i => if i = q then { f q with td := some h, si := t } else if i = h then (if (f h).nd.kind = 61 then { f h with rk := r, nd := (f a).nd, ks := (f a).ks, lv := (f a).lv, told := t } else { f h with rk := r }) else f i

set_option maxRecDepth 20000 in
set_option maxHeartbeats 2000000 in
theorem tie_any (X : Nat → Prop) (f : Nat → CC) (lk : Nat → Option Nat) (w : World) (hC : Cells w X f lk) (sb : Nat) (t : Int) (hsX : ¬ X sb) (hst : w.cell? ⟨sb, 1, none⟩ = some (.int .i64 t)) (a b : Nat) (hXa : X a) (hXb : X b) (hab : a ≠ b) (ha : lk a = none) (hb : lk b = none) :
    Calls Tryz.prog 97 #[.pointer (some ⟨sb, 0, none⟩), .pointer (some ⟨a, 0, none⟩), .pointer (some ⟨b, 0, none⟩)] w fun e w' => e = .returned (.tuple #[]) ∧ ∃ h q r, (h = a ∧ q = b ∨ h = b ∧ q = a) ∧ Cells w' X (tiedF f a h q r t) (fun i => if i = q then some h else lk i) ∧ But X w w' ∧ w'.heap.size = w.heap.size := by
  obtain ⟨a0, a1, a2, a3, a4, a5, a6, a7, a8, a9, a10, a11, a12, a13⟩ := (hC.at' a hXa).cell
  obtain ⟨b0, b1, b2, b3, b4, b5, b6, b7, b8, b9, b10, b11, b12, b13⟩ := (hC.at' b hXb).cell
  have fa := (hC.at' a hXa).frozen
  have fb := (hC.at' b hXb).frozen
  have hsa : sb ≠ a := fun e => hsX (e ▸ hXa)
  have hsb : sb ≠ b := fun e => hsX (e ▸ hXb)
  go_enter Tryz.func97, Tryz.ntmps97
  rcases Int.lt_trichotomy (f a).rk (f b).rk with hlt | heq | hgt
  · by_cases hm : (f b).nd.kind = 61
    · go_wp2
      go_quiet (fail)
      go_wp2
      go_quiet (fail)
      go_wp2
      generalize hW : World.setCell _ _ _ = w5
      obtain ⟨f5, hf5, hC5⟩ : ∃ f5, f5 = (fun i => if i = a then { f a with td := some b, si := t } else f i) ∧ Cells w5 X f5 (fun i => if i = a then some b else lk i) := by
        subst hW
        exact ⟨_, rfl, (hC.drewN _).ties hXa hXb t⟩
      have hB5 : But X w w5 := by
        subst hW
        exact ((((But.refl X w).drewN _).setCell (p := ⟨a, 9, none⟩) hXa _).setCell (p := ⟨a, 11, none⟩) hXa _).setCell (p := ⟨a, 12, none⟩) hXa _
      have hz5 : w5.heap.size = w.heap.size := by
        subst hW
        simp [World.drewN]
      have hst5 : w5.cell? ⟨sb, 1, none⟩ = some (.int .i64 t) := (hB5.cellB (lt_of_cell hst) hsX).trans hst
      have HF5 : Hid (f5 = (fun i => if i = a then { f a with td := some b, si := t } else f i)) := hf5
      clear hW hC a0 a1 a2 a3 a4 a5 a6 a7 a8 a9 a10 a11 a12 a13 b0 b1 b2 b3 b4 b5 b6 b7 b8 b9 b10 b11 b12 b13 fa fb hf5 hst
      obtain ⟨a0, a1, a2, a3, a4, a5, a6, a7, a8, a9, a10, a11, a12, a13⟩ := (hC5.at' a hXa).cell
      obtain ⟨b0, b1, b2, b3, b4, b5, b6, b7, b8, b9, b10, b11, b12, b13⟩ := (hC5.at' b hXb).cell
      have fa := (hC5.at' a hXa).frozen
      have fb := (hC5.at' b hXb).frozen
      go_region
      go_end0
      refine ⟨rfl, b, a, (f b).rk, .inr ⟨rfl, rfl⟩, ?_, ?_, ?_⟩
      · have h9 := (hC5.says hXb (f5 a) t).drew
        have e9 : (fun i => if i = b then { f5 b with nd := (f5 a).nd, ks := (f5 a).ks, lv := (f5 a).lv, told := t } else f5 i) = tiedF f a b a (f b).rk t := by
          funext i
          rw [HF5.out]
          unfold tiedF
          by_cases i1 : i = a
          · subst i1
            simp [hab]
          · by_cases i2 : i = b
            · subst i2
              simp [hab.symm, hm]
            · simp [i1, i2]
        rw [e9] at h9
        exact h9
      · refine hB5.trans ?_
        exact (((((((((But.refl X w5).setCell (p := ⟨b, 1, none⟩) hXb _).setCell (p := ⟨b, 2, none⟩) hXb _).setCell (p := ⟨b, 3, none⟩) hXb _).setCell (p := ⟨b, 4, none⟩) hXb _).setCell (p := ⟨b, 5, none⟩) hXb _).setCell (p := ⟨b, 6, none⟩) hXb _).setCell (p := ⟨b, 8, none⟩) hXb _).setCell (p := ⟨b, 7, none⟩) hXb _).drew
      · simp [World.drew, hz5]
    · have tm : ((f b).nd.kind == 61) = false := by simpa using hm
      go_wp2
      go_quiet (fail)
      go_wp2
      go_quiet (fail)
      go_wp2
      generalize hW : World.setCell _ _ _ = w5
      obtain ⟨f5, hf5, hC5⟩ : ∃ f5, f5 = (fun i => if i = a then { f a with td := some b, si := t } else f i) ∧ Cells w5 X f5 (fun i => if i = a then some b else lk i) := by
        subst hW
        exact ⟨_, rfl, (hC.drewN _).ties hXa hXb t⟩
      have hB5 : But X w w5 := by
        subst hW
        exact ((((But.refl X w).drewN _).setCell (p := ⟨a, 9, none⟩) hXa _).setCell (p := ⟨a, 11, none⟩) hXa _).setCell (p := ⟨a, 12, none⟩) hXa _
      have hz5 : w5.heap.size = w.heap.size := by
        subst hW
        simp [World.drewN]
      clear hW
      go_end0
      refine ⟨rfl, b, a, (f b).rk, .inr ⟨rfl, rfl⟩, ?_, hB5, hz5⟩
      have e9 : (fun i => if i = a then { f a with td := some b, si := t } else f i) = tiedF f a b a (f b).rk t := by
          funext i
          unfold tiedF
          by_cases i1 : i = a
          · subst i1
            simp
          · by_cases i2 : i = b
            · subst i2
              simp [hab.symm, hm]
            · simp [i1, i2]
      rw [hf5, e9] at hC5
      exact hC5
  · by_cases hm : (f a).nd.kind = 61
    · go_wp2
      go_quiet (fail)
      go_wp2
      go_quiet (fail)
      go_wp2
      generalize hW : World.setCell _ _ _ = w5
      obtain ⟨r, f5, hf5, hC5⟩ : ∃ r f5, f5 = (fun i => if i = b then { (fun i => if i = a then { f a with rk := r } else f i) b with td := some a, si := t } else (fun i => if i = a then { f a with rk := r } else f i) i) ∧ Cells w5 X f5 (fun i => if i = b then some a else lk i) := by
        subst hW
        exact ⟨_, _, rfl, ((hC.drewN _).rerank hXa _).ties hXb hXa t⟩
      have hB5 : But X w w5 := by
        subst hW
        exact (((((But.refl X w).drewN _).setCell (p := ⟨a, 10, none⟩) hXa _).setCell (p := ⟨b, 9, none⟩) hXb _).setCell (p := ⟨b, 11, none⟩) hXb _).setCell (p := ⟨b, 12, none⟩) hXb _
      have hz5 : w5.heap.size = w.heap.size := by
        subst hW
        simp [World.drewN]
      have hst5 : w5.cell? ⟨sb, 1, none⟩ = some (.int .i64 t) := (hB5.cellB (lt_of_cell hst) hsX).trans hst
      have HF5 : Hid (f5 = (fun i => if i = b then { (fun i => if i = a then { f a with rk := r } else f i) b with td := some a, si := t } else (fun i => if i = a then { f a with rk := r } else f i) i)) := hf5
      clear hW hC a0 a1 a2 a3 a4 a5 a6 a7 a8 a9 a10 a11 a12 a13 b0 b1 b2 b3 b4 b5 b6 b7 b8 b9 b10 b11 b12 b13 fa fb hf5 hst
      obtain ⟨a0, a1, a2, a3, a4, a5, a6, a7, a8, a9, a10, a11, a12, a13⟩ := (hC5.at' a hXa).cell
      obtain ⟨b0, b1, b2, b3, b4, b5, b6, b7, b8, b9, b10, b11, b12, b13⟩ := (hC5.at' b hXb).cell
      have fa := (hC5.at' a hXa).frozen
      have fb := (hC5.at' b hXb).frozen
      go_region
      go_end0
      refine ⟨rfl, a, b, r, .inl ⟨rfl, rfl⟩, ?_, ?_, ?_⟩
      · have h9 := (hC5.says hXa (f5 a) t).drew
        have e9 : (fun i => if i = a then { f5 a with nd := (f5 a).nd, ks := (f5 a).ks, lv := (f5 a).lv, told := t } else f5 i) = tiedF f a a b r t := by
          funext i
          rw [HF5.out]
          unfold tiedF
          by_cases i1 : i = b
          · subst i1
            simp [hab.symm]
          · by_cases i2 : i = a
            · subst i2
              simp [hab, hm]
            · simp [i1, i2]
        rw [e9] at h9
        exact h9
      · refine hB5.trans ?_
        exact (((((((((But.refl X w5).setCell (p := ⟨a, 1, none⟩) hXa _).setCell (p := ⟨a, 2, none⟩) hXa _).setCell (p := ⟨a, 3, none⟩) hXa _).setCell (p := ⟨a, 4, none⟩) hXa _).setCell (p := ⟨a, 5, none⟩) hXa _).setCell (p := ⟨a, 6, none⟩) hXa _).setCell (p := ⟨a, 8, none⟩) hXa _).setCell (p := ⟨a, 7, none⟩) hXa _).drew
      · simp [World.drew, hz5]
    · have tm : ((f a).nd.kind == 61) = false := by simpa using hm
      go_wp2
      go_quiet (fail)
      go_wp2
      go_quiet (fail)
      go_wp2
      generalize hW : World.setCell _ _ _ = w5
      obtain ⟨r, f5, hf5, hC5⟩ : ∃ r f5, f5 = (fun i => if i = b then { (fun i => if i = a then { f a with rk := r } else f i) b with td := some a, si := t } else (fun i => if i = a then { f a with rk := r } else f i) i) ∧ Cells w5 X f5 (fun i => if i = b then some a else lk i) := by
        subst hW
        exact ⟨_, _, rfl, ((hC.drewN _).rerank hXa _).ties hXb hXa t⟩
      have hB5 : But X w w5 := by
        subst hW
        exact (((((But.refl X w).drewN _).setCell (p := ⟨a, 10, none⟩) hXa _).setCell (p := ⟨b, 9, none⟩) hXb _).setCell (p := ⟨b, 11, none⟩) hXb _).setCell (p := ⟨b, 12, none⟩) hXb _
      have hz5 : w5.heap.size = w.heap.size := by
        subst hW
        simp [World.drewN]
      clear hW
      go_end0
      refine ⟨rfl, a, b, r, .inl ⟨rfl, rfl⟩, ?_, hB5, hz5⟩
      have e9 : (fun i => if i = b then { (fun i => if i = a then { f a with rk := r } else f i) b with td := some a, si := t } else (fun i => if i = a then { f a with rk := r } else f i) i) = tiedF f a a b r t := by
          funext i
          unfold tiedF
          by_cases i1 : i = b
          · subst i1
            simp [hab.symm]
          · by_cases i2 : i = a
            · subst i2
              simp [hab, hm]
            · simp [i1, i2]
      rw [hf5, e9] at hC5
      exact hC5
  · by_cases hm : (f a).nd.kind = 61
    · go_wp2
      go_quiet (fail)
      go_wp2
      go_quiet (fail)
      go_wp2
      generalize hW : World.setCell _ _ _ = w5
      obtain ⟨f5, hf5, hC5⟩ : ∃ f5, f5 = (fun i => if i = b then { f b with td := some a, si := t } else f i) ∧ Cells w5 X f5 (fun i => if i = b then some a else lk i) := by
        subst hW
        exact ⟨_, rfl, (hC.drewN _).ties hXb hXa t⟩
      have hB5 : But X w w5 := by
        subst hW
        exact ((((But.refl X w).drewN _).setCell (p := ⟨b, 9, none⟩) hXb _).setCell (p := ⟨b, 11, none⟩) hXb _).setCell (p := ⟨b, 12, none⟩) hXb _
      have hz5 : w5.heap.size = w.heap.size := by
        subst hW
        simp [World.drewN]
      have hst5 : w5.cell? ⟨sb, 1, none⟩ = some (.int .i64 t) := (hB5.cellB (lt_of_cell hst) hsX).trans hst
      have HF5 : Hid (f5 = (fun i => if i = b then { f b with td := some a, si := t } else f i)) := hf5
      clear hW hC a0 a1 a2 a3 a4 a5 a6 a7 a8 a9 a10 a11 a12 a13 b0 b1 b2 b3 b4 b5 b6 b7 b8 b9 b10 b11 b12 b13 fa fb hf5 hst
      obtain ⟨a0, a1, a2, a3, a4, a5, a6, a7, a8, a9, a10, a11, a12, a13⟩ := (hC5.at' a hXa).cell
      obtain ⟨b0, b1, b2, b3, b4, b5, b6, b7, b8, b9, b10, b11, b12, b13⟩ := (hC5.at' b hXb).cell
      have fa := (hC5.at' a hXa).frozen
      have fb := (hC5.at' b hXb).frozen
      go_region
      go_end0
      refine ⟨rfl, a, b, (f a).rk, .inl ⟨rfl, rfl⟩, ?_, ?_, ?_⟩
      · have h9 := (hC5.says hXa (f5 a) t).drew
        have e9 : (fun i => if i = a then { f5 a with nd := (f5 a).nd, ks := (f5 a).ks, lv := (f5 a).lv, told := t } else f5 i) = tiedF f a a b (f a).rk t := by
          funext i
          rw [HF5.out]
          unfold tiedF
          by_cases i1 : i = b
          · subst i1
            simp [hab.symm]
          · by_cases i2 : i = a
            · subst i2
              simp [hab, hm]
            · simp [i1, i2]
        rw [e9] at h9
        exact h9
      · refine hB5.trans ?_
        exact (((((((((But.refl X w5).setCell (p := ⟨a, 1, none⟩) hXa _).setCell (p := ⟨a, 2, none⟩) hXa _).setCell (p := ⟨a, 3, none⟩) hXa _).setCell (p := ⟨a, 4, none⟩) hXa _).setCell (p := ⟨a, 5, none⟩) hXa _).setCell (p := ⟨a, 6, none⟩) hXa _).setCell (p := ⟨a, 8, none⟩) hXa _).setCell (p := ⟨a, 7, none⟩) hXa _).drew
      · simp [World.drew, hz5]
    · have tm : ((f a).nd.kind == 61) = false := by simpa using hm
      go_wp2
      go_quiet (fail)
      go_wp2
      go_quiet (fail)
      go_wp2
      generalize hW : World.setCell _ _ _ = w5
      obtain ⟨f5, hf5, hC5⟩ : ∃ f5, f5 = (fun i => if i = b then { f b with td := some a, si := t } else f i) ∧ Cells w5 X f5 (fun i => if i = b then some a else lk i) := by
        subst hW
        exact ⟨_, rfl, (hC.drewN _).ties hXb hXa t⟩
      have hB5 : But X w w5 := by
        subst hW
        exact ((((But.refl X w).drewN _).setCell (p := ⟨b, 9, none⟩) hXb _).setCell (p := ⟨b, 11, none⟩) hXb _).setCell (p := ⟨b, 12, none⟩) hXb _
      have hz5 : w5.heap.size = w.heap.size := by
        subst hW
        simp [World.drewN]
      clear hW
      go_end0
      refine ⟨rfl, a, b, (f a).rk, .inl ⟨rfl, rfl⟩, ?_, hB5, hz5⟩
      have e9 : (fun i => if i = b then { f b with td := some a, si := t } else f i) = tiedF f a a b (f a).rk t := by
          funext i
          unfold tiedF
          by_cases i1 : i = b
          · subst i1
            simp
          · by_cases i2 : i = a
            · subst i2
              simp [hab, hm]
            · simp [i1, i2]
      rw [hf5, e9] at hC5
      exact hC5

end Go.Proofs.YtdcnejhlmdkecaaGreatDoor

import Derived.Test.YtoiiibplkhedcaaGreatDoorProg
import Derived.Test.YtoiiibplkhedcaaGreatDoorGA
import Derived.Deep.Light
import Derived.RangeFuncNested
import Derived.RangeFuncBound
import Derived.RangeFuncCalls
import Derived.RangeFuncLeaves
import Derived.Shelf.Abstract
import Derived.Shelf.RegionOpen
import Derived.WalkKit
import Derived.OwnWalkIn
import Derived.TacticsInMore
import Derived.LoopNIn
import Derived.LoopIn
import Derived.Deep.RegionLaw
import Derived.Test.YtoiiibplkhedcaaGreatDoorGD
import Derived.Lib.Strings
namespace Go.Proofs.YtoiiibplkhedcaaGreatDoor
open Go.RowKit
def SpAt (w : World) (b o : Nat) (s : Sp) : Prop :=
  w.cell? ⟨b, o, none⟩ = some (.int .i64 (s.fr : Int)) ∧ w.cell? ⟨b, o + 1, none⟩ = some (.int .i64 (s.rt : Int)) ∧ w.cell? ⟨b, o + 2, none⟩ = some (.int .i64 (s.dp : Int))
theorem SpAt.below {w w' : World} {b o : Nat} {s : Sp} (h : SpAt w b o s) (hb : Below w.heap.size w w') : SpAt w' b o s := by
  have hlt : b < w.heap.size := lt_of_cell h.1
  exact ⟨(hb.cell (p := ⟨b, o, none⟩) hlt).trans h.1, (hb.cell (p := ⟨b, o + 1, none⟩) hlt).trans h.2.1, (hb.cell (p := ⟨b, o + 2, none⟩) hlt).trans h.2.2⟩
def Sps (w : World) (ao : Option Addr) (ks : List Sp) : Prop :=
  ∀ i (h : i < ks.length), ∃ b o, ao = some ⟨b, o, none⟩ ∧ SpAt w b (o + i * 3) ks[i]
theorem Sps.below {w w' : World} {ao : Option Addr} {ks : List Sp} (h : Sps w ao ks) (hb : Below w.heap.size w w') : Sps w' ao ks := by
  intro i hi
  obtain ⟨b, o, e, hn⟩ := h i hi
  exact ⟨b, o, e, hn.below hb⟩
def Box3 (w : World) (b : Nat) (x y z : Value) : Prop := w.heap[b]? = some (.cells #[x, y, z] 199 (0, 0))
theorem Box3.lt {w : World} {b : Nat} {x y z : Value} (h : Box3 w b x y z) : b < w.heap.size := (Array.getElem?_eq_some_iff.1 h).1
theorem Box3.cells {w : World} {b : Nat} {x y z : Value} (h : Box3 w b x y z) : w.cell? ⟨b, 0, none⟩ = some x ∧ w.cell? ⟨b, 1, none⟩ = some y ∧ w.cell? ⟨b, 2, none⟩ = some z :=
  ⟨by rw [cell_of_row w b 0 _ 199 (0, 0) h]; rfl, by rw [cell_of_row w b 1 _ 199 (0, 0) h]; rfl, by rw [cell_of_row w b 2 _ 199 (0, 0) h]; rfl⟩
theorem Box3.frozen {w : World} {b : Nat} {x y z : Value} (h : Box3 w b x y z) (j : Nat) : w.frozen? ⟨b, j, none⟩ = false := frozen_of_row w b j _ 199 h
theorem Box3.alloc {w : World} {b : Nat} {x y z : Value} (h : Box3 w b x y z) (o : Obj) : Box3 (w.alloc o) b x y z := (Below.heap_alloc w o b h.lt).trans h
theorem Box3.new (w : World) (x y z : Value) : Box3 (w.alloc (.cells #[x, y, z] 199)) w.heap.size x y z := heap_alloc_new _ _
theorem Box3.set0 {w : World} {b : Nat} {x y z : Value} (h : Box3 w b x y z) (u : Value) : Box3 (w.setCell ⟨b, 0, none⟩ u) b u y z := by
  have := heap_setCell_same w b 0 _ 199 u h
  exact this
theorem Box3.set1 {w : World} {b : Nat} {x y z : Value} (h : Box3 w b x y z) (u : Value) : Box3 (w.setCell ⟨b, 1, none⟩ u) b x u z := by
  have := heap_setCell_same w b 1 _ 199 u h
  exact this
theorem Box3.set2 {w : World} {b : Nat} {x y z : Value} (h : Box3 w b x y z) (u : Value) : Box3 (w.setCell ⟨b, 2, none⟩ u) b x y u := by
  have := heap_setCell_same w b 2 _ 199 u h
  exact this
theorem Box3.other {w : World} {b c j : Nat} {x y z : Value} (h : Box3 w b x y z) (hne : b ≠ c) (u : Value) : Box3 (w.setCell ⟨c, j, none⟩ u) b x y z :=
  (Below.heap_setCell w ⟨c, j, none⟩ u b hne).trans h
theorem size_setC (w : World) (a : Addr) (v : Value) : (w.setCell a v).heap.size = w.heap.size := by simp [World.setCell]
theorem dpOf_take_succ (ks : List Sp) (j : Nat) (h : j < ks.length) : dpOf (ks.take (j + 1)) = max (dpOf (ks.take j)) (ks[j].dp + 1) := by
  unfold dpOf
  rw [List.take_succ_eq_append_getElem h, List.foldl_append]
  rfl
set_option maxHeartbeats 1000000 in
theorem spanOver_any (ks : List Sp) (n i : Nat) (HN : Hid (ks.length = n)) (ao : Option Addr) (cap : Nat) (w : World) (hx : Sps w ao ks) (hn : n ≤ 60000) (_hi : i ≤ 60000) (hd : ∀ x ∈ ks, x.dp ≤ 60000) :
    Calls Tryz.prog 125 #[.slice ao n cap, .int .i64 (i : Int)] w fun e w' =>
      e = .returned (.agg #[.int .i64 ((over ks i).fr : Int), .int .i64 ((over ks i).rt : Int), .int .i64 ((over ks i).dp : Int)]) ∧ Below w.heap.size w w' := by
  by_cases h0 : 0 < n
  · have h0k : 0 < ks.length := by have := HN.out; omega
    obtain ⟨b, o, rfl, hs0⟩ := hx 0 h0k
    have c0 := hs0.1
    simp only [Nat.zero_mul, Nat.add_zero] at c0
    have hlb : b < w.heap.size := lt_of_cell c0
    have HFR : Hid (frOf ks i = ks[0].fr) := by
      show frOf ks i = ks[0].fr
      cases ks with
      | nil => simp at h0k
      | cons k l => rfl
    go_enter Tryz.func125, Tryz.ntmps125
    go_wp2
    go_loopw [21] (fun p wr => ∃ (j : Nat), j ≤ n ∧ p = .int .i64 j ∧ Box3 wr w.heap.size (.int .i64 0) (.int .i64 0) (.int .i64 0) ∧ Box3 wr (w.heap.size + 1) (.int .i64 (ks[0].fr : Int)) (.int .i64 (i : Int)) (.int .i64 (dpOf (ks.take j) : Int)) ∧ Below w.heap.size w wr) (fun p _ => n - (intOf p).toNat)
    case atStart =>
      refine ⟨0, Nat.zero_le _, rfl, (Box3.new w _ _ _).alloc _, ?_, ((Below.refl _ _).alloc (Nat.le_refl _) _).alloc (by simp) _⟩
      have := Box3.new (w.alloc (Obj.cells #[Value.int IntKind.i64 0, Value.int IntKind.i64 0, Value.int IntKind.i64 0] 199)) (.int .i64 (ks[0].fr : Int)) (.int .i64 (i : Int)) (.int .i64 1)
      rw [World.size_alloc] at this
      exact this
    case round =>
      obtain ⟨j, hj, rfl, b0, b1, hb⟩ := hrel
      have hl0 := b0.lt
      have hl1 := b1.lt
      by_cases hlt : j < n
      · have hltk : j < ks.length := by have := HN.out; omega
        obtain ⟨bb, oo, e, hsj⟩ := hx.below hb j hltk
        simp only [Option.some.injEq, Addr.mk.injEq, and_true] at e
        obtain ⟨rfl, rfl⟩ := e
        obtain ⟨s, hs⟩ : ∃ s, ks[j] = s := ⟨_, rfl⟩
        rw [hs] at hsj
        obtain ⟨e0, e1, e2⟩ := hsj
        have hsd : s.dp ≤ 60000 := by rw [← hs]; exact hd _ (List.getElem_mem hltk)
        have HDS : Hid (dpOf (ks.take (j + 1)) = max (dpOf (ks.take j)) (s.dp + 1)) := by rw [← hs]; exact dpOf_take_succ ks j hltk
        have hdb := (dpOf_le (ks.take j) 60000 (fun x hx => hd x (List.mem_of_mem_take hx))).2
        obtain ⟨dd, hdd⟩ : ∃ dd, dpOf (ks.take j) = dd := ⟨_, rfl⟩
        have HDD : Hid (dpOf (ks.take j) = dd) := hdd
        rw [hdd] at b1 hdb
        obtain ⟨q0, q1, q2⟩ := b1.cells
        have f2 := b1.frozen 2
        clear hx hd hs hdd hs0 c0
        go_wp2
        have hv : (if (dd : Int) < (s.dp : Int) + 1 then (s.dp : Int) + 1 else (dd : Int)) = ((dpOf (ks.take (j + 1)) : Nat) : Int) := by
          rw [HDS.out, HDD.out]
          split <;> omega
        go_roundw
        case rel => exact ⟨j + 1, by omega, by go_num, (b0.other (by omega) _).alloc _, by have := (b1.set2 (.int .i64 (if (dd : Int) < (s.dp : Int) + 1 then (s.dp : Int) + 1 else (dd : Int)))).alloc (Obj.cells #[Value.int IntKind.i64 ↑s.fr, Value.int IntKind.i64 ↑s.rt, Value.int IntKind.i64 ↑s.dp] 199); rw [hv] at this ⊢; exact this, (hb.setCell (p := ⟨w.heap.size + 1, 2, none⟩) (Nat.le_succ _) _).alloc (by rw [size_setC]; exact hb.size) _⟩
        case measure => simp [intOf]; omega
      · have HE : Hid (ks.take j = ks) := List.take_of_length_le (by have := HN.out; omega)
        rw [HE.out] at b1
        obtain ⟨q0, q1, q2⟩ := b1.cells
        obtain ⟨p0, p1, p2⟩ := b0.cells
        have f0 := b0.frozen 0
        have f1 := b0.frozen 1
        have f2 := b0.frozen 2
        have HB : Below w.heap.size w (((wr.setCell ⟨w.heap.size, 0, none⟩ (.int .i64 (ks[0].fr : Int))).setCell ⟨w.heap.size, 1, none⟩ (.int .i64 (i : Int))).setCell ⟨w.heap.size, 2, none⟩ (.int .i64 (dpOf ks : Int))) :=
          ((hb.setCell (p := ⟨w.heap.size, 0, none⟩) (Nat.le_refl _) _).setCell (p := ⟨w.heap.size, 1, none⟩) (Nat.le_refl _) _).setCell (p := ⟨w.heap.size, 2, none⟩) (Nat.le_refl _) _
        clear hx hd hs0 c0
        go_wp2
        refine bodyPost_ret (v := .agg #[.int .i64 (ks[0].fr : Int), .int .i64 (i : Int), .int .i64 (dpOf ks : Int)]) (by simp [results, Tryz.results125, go_sem, p0, p1, p2]) rfl ⟨?_, HB⟩
        rw [← HFR.out]
        rfl
  · have hk0 : ks = [] := List.eq_nil_of_length_eq_zero (by have := HN.out; omega)
    subst hk0
    have hn0 : n = 0 := by omega
    subst hn0
    clear hx hd
    go_enter Tryz.func125, Tryz.ntmps125
    go_wp2
    refine wp_loop_rounds 1 ?_
    rw [rounds_succ]
    go_wp2
    refine bodyPost_ret (v := .agg #[.int .i64 (i : Int), .int .i64 (i : Int), .int .i64 1]) (by simp [results, Tryz.results125, go_sem]) rfl ⟨rfl, ?_⟩
    exact ((Below.refl _ _).alloc (Nat.le_refl _) _).alloc (by simp) _
end Go.Proofs.YtoiiibplkhedcaaGreatDoor

namespace Go.Proofs.YtoiiibplkhedcaaGreatDoor
open Go.RowKit Go.Shelf
def Mine (n₀ B : Nat) (k : Nat) : Prop := n₀ ≤ k ∧ k < B
def leftAt {α : Type} (n₀ B : Nat) (I : List α → World → Prop) (Ix : Code → List α → World → Prop) (xs : List α) (W : World) : Exit → Act → World → Prop
  | .normal, _, W' => But (Mine n₀ B) W W' ∧ I xs W'
  | .ret, _, W' => But (Mine n₀ B) W W' ∧ Ix .ret xs W'
  | .exit id, _, W' => But (Mine n₀ B) W W' ∧ Ix (.exit id) xs W'
  | .goto t, _, W' => But (Mine n₀ B) W W' ∧ Ix (.goto t) xs W'
  | .panic _, _, _ => False
  | .outgrown, _, _ => False
def Iter {α : Type} (F : Fence) (n : Nat) (P : Program) (g : Nat) (lb : Array Value) (encs : α → Array Value) (S Sp : List α → Prop) (Fit : List α → α → Prop) (Rd : World → Prop) (N n₀ : Nat) (w : World) : Prop :=
  ∀ (J Jx : List α → World → Prop), (∀ s A C, J s A → Below (w.heap.size + 2) A C → J s C) → (∀ s A, J s A → Rd A) →
    (∀ pre x W1, J pre W1 → pre.length < N → Fit pre x → YieldAt F (n - 1) P (w.heap.size + 1) (encs x) W1 fun e W' =>
      (e = .returned (.bool true) ∧ J (pre ++ [x]) W' ∧ But (Mine n₀ (w.heap.size + 2)) W1 W') ∨ (e = .returned (.bool false) ∧ Jx (pre ++ [x]) W')) →
    ∀ W, Below w.heap.size w W → W.heap.size = w.heap.size + 2 → J [] W →
    CallsIn F n P g (#[.func (.yield (w.heap.size + 1)) #[] #[]] ++ lb) W fun e W' => (∃ v, e = .returned v) ∧ ((∃ xs, S xs ∧ J xs W') ∨ (∃ pre, Sp pre ∧ Jx pre W'))
theorem But.putObj {S : Nat → Prop} (W : World) (l : Nat) (o : Obj) (hl : S l) : But S W (W.putObj l o) :=
  ⟨rfl, rfl, rfl, by simp, fun k _ hk => World.putObj_heap_other (fun e => hk (by rw [e]; exact hl))⟩
theorem wpIn_range {F : Fence} {n : Nat} {P : Program} {α : Type} {g : Operand} {ps : Array Tmp} {assign body : Code} {Q : Exit → Act → World → Prop} {a : Act} {w : World}
    (hro : F.round = none) (h1 : 1 ≤ n) {gf : Nat} {lb : Array Value} (hg : a.eval g = .func (.func gf) #[] lb) (hFg : F.fn gf) (eg : ∀ args w, (callFunc gf args).run P w = .ok (.enter gf args) w)
    {encs : α → Array Value} {S Sp : List α → Prop} {Fit : List α → α → Prop} {Rd : World → Prop} {N : Nat} (n₀ : Nat) (hn₀ : n₀ ≤ w.heap.size) (hseq : Iter F (n - 1) P gf lb encs S Sp Fit Rd N n₀ w) (hps : ∀ x, (encs x).size = ps.size)
    (I : List α → World → Prop) (Ix : Code → List α → World → Prop) (hI : ∀ s A C, I s A → Below w.heap.size A C → I s C) (hIx : ∀ c s A C, Ix c s A → But (· = w.heap.size + 1) A C → Ix c s C) (hRd : ∀ s A, I s A → Rd A) (h0 : I [] w)
    (hround : ∀ (pre : List α) (x : α) (W : World), I pre W → pre.length < N → Fit pre x → w.heap.size + 1 < W.heap.size →
      assign.wpIn (F.inRound (w.heap.size + 1)) (n - 1 - 1) P
        (Exit.then (fun a' Wa => But (Mine n₀ w.heap.size) W Wa ∧ ∀ Wb, But (· = w.heap.size + 1) Wa Wb → body.wpIn (F.inRound (w.heap.size + 1)) (n - 1 - 1) P (leftAt n₀ w.heap.size I Ix (pre ++ [x]) Wb) a' Wb) (fun _ _ _ => False))
        { tmps := (ps.zip (encs x)).foldl (fun t (p, v) => t.setIfInBounds p v) a.tmps, defers := [] } W)
    (hdone : ∀ (xs : List α) (W : World), S xs → I xs W → W.heap[w.heap.size]? = some (.deferred (some [])) → Q .normal { a with defers := { target := .collected w.heap.size, args := #[] } :: a.defers } W)
    (hstop : ∀ (c : Code) (pre : List α) (W : World), Sp pre → Ix c pre W → W.heap[w.heap.size]? = some (.deferred (some [])) → c.wpIn F n P Q { a with defers := { target := .collected w.heap.size, args := #[] } :: a.defers } W) :
    (Code.rangeFunc g ps assign body).wpIn F n P Q a w := by
  refine wpIn_rangeFunc ?_
  intro fn hfn
  rw [hro]
  obtain ⟨B, hB⟩ : ∃ B, B = w.heap.size := ⟨_, rfl⟩
  obtain ⟨rec, hrec⟩ : ∃ rec : LoopState → Option Code → Loop, rec = fun st pe => { state := st, pending := pe, fn, tmps := a.tmps, params := ps, assign, body, defers := w.heap.size } := ⟨_, rfl⟩
  obtain ⟨W1, hW1⟩ : ∃ W1, (w.alloc (.deferred (some []))).alloc (.loop (rec .ready none)) = W1 := ⟨_, rfl⟩
  have hs1 : W1.heap.size = w.heap.size + 2 := by rw [← hW1]; simp
  have hb1 : Below w.heap.size w W1 := by rw [← hW1]; exact ((Below.refl _ w).alloc (Nat.le_refl _) _).alloc (by simp) _
  have hL1 : W1.heap[w.heap.size + 1]? = some (.loop (rec .ready none)) := by
    rw [← hW1]; have := World.alloc_heap_new (w.alloc (.deferred (some []))) (.loop (rec .ready none)); rwa [World.size_alloc] at this
  have hK1 : W1.heap[w.heap.size]? = some (.deferred (some [])) := by
    rw [← hW1]; exact (Below.heap_alloc _ _ _ (by simp)).trans (World.alloc_heap_new w _)
  refine ⟨w.heap.size + 1, [{ target := .collected w.heap.size, args := #[] }], W1, { target := .fn (.func gf) lb, args := #[.func (.yield (w.heap.size + 1)) #[] #[]] }, W1, gf,
    #[.func (.yield (w.heap.size + 1)) #[] #[]] ++ lb, W1, ?_, ?_, ?_, ?_, fun _ => h1, ?_⟩
  · rw [← hW1, hrec]; exact run_enterLoop_outer _ _ _ _ _
  · simp only [resolve, hg]
    simp [go_sem]
  · intro f' hf'; simp [Target.leads] at hf'; subst hf'; exact hFg
  · simp [invoke, go_sem, eg]
  · refine (hseq
      (fun pre W => I pre W ∧ W.heap[w.heap.size + 1]? = some (.loop (rec .ready none)) ∧ W.heap[w.heap.size]? = some (.deferred (some [])))
      (fun pre W => ∃ c, Ix c pre W ∧ W.heap[w.heap.size + 1]? = some (.loop (rec .done (some c))) ∧ W.heap[w.heap.size]? = some (.deferred (some [])))
      (fun s A C hs hb => ⟨hI s A C hs.1 (hb.mono (by omega)), (hb.block _ (by omega)).trans hs.2.1, (hb.block _ (by omega)).trans hs.2.2⟩)
      (fun s A hs => hRd s A hs.1)
      ?_ W1 hb1 hs1 ⟨hI _ _ _ h0 hb1, hL1, hK1⟩).mono ?_
    · rintro pre x W ⟨hi, hl, hk⟩ hlen hfit
      have hlt : w.heap.size + 1 < W.heap.size := (Array.getElem?_eq_some_iff.1 hl).1
      have hy := run_yield (P := P) (args := encs x) hl (by rw [hrec]; exact hps x)
      rw [hrec] at hy
      refine ⟨fn, _, assign, body, hy, roundIn_of_wpIn hfn (wpIn_mono (hround pre x W hi hlen hfit hlt) ?_)⟩
      clear hy
      intro e a' Wa hp
      cases e with
      | normal =>
        obtain ⟨hba, hbody⟩ := hp
        have hla := (hba.block (w.heap.size + 1) hlt (fun h => by have := h.2; omega)).trans hl
        have hka := (hba.block w.heap.size (by omega) (fun h => by have := h.2; omega)).trans hk
        have hlta : w.heap.size + 1 < Wa.heap.size := (Array.getElem?_eq_some_iff.1 hla).1
        refine ⟨_, run_beginRound hla (by rw [hrec]), ?_⟩
        have hbb : But (· = w.heap.size + 1) Wa (Wa.putObj (w.heap.size + 1) (.loop { rec .ready none with state := .busy })) := But.putObj _ _ _ rfl
        have hl2 : (Wa.putObj (w.heap.size + 1) (.loop { rec .ready none with state := .busy })).heap[w.heap.size + 1]? = some (.loop { rec .ready none with state := .busy }) := World.putObj_heap_same hlta
        have hk2 : (Wa.putObj (w.heap.size + 1) (.loop { rec .ready none with state := .busy })).heap[w.heap.size]? = some (.deferred (some [])) := (World.putObj_heap_other (by omega)).trans hka
        have hab : But (Mine n₀ (w.heap.size + 2)) W (Wa.putObj (w.heap.size + 1) (.loop { rec .ready none with state := .busy })) :=
          (hba.mono (fun k hk => ⟨hk.1, by have := hk.2; omega⟩)).trans (hbb.mono (fun k hk => ⟨by omega, by omega⟩))
        refine wpIn_mono (hbody _ hbb) ?_
        have fin : ∀ (jump : Option Code) (W3 : World), But (Mine n₀ w.heap.size) (Wa.putObj (w.heap.size + 1) (.loop { rec .ready none with state := .busy })) W3 →
            (Instr.endRound (w.heap.size + 1) jump).run P W3 = .ok (.bool jump.isNone) (W3.putObj (w.heap.size + 1) (.loop (rec (if jump.isNone then .ready else .done) jump))) ∧
            (W3.putObj (w.heap.size + 1) (.loop (rec (if jump.isNone then .ready else .done) jump))).heap[w.heap.size + 1]? = some (.loop (rec (if jump.isNone then .ready else .done) jump)) ∧
            (W3.putObj (w.heap.size + 1) (.loop (rec (if jump.isNone then .ready else .done) jump))).heap[w.heap.size]? = some (.deferred (some [])) ∧
            But (· = w.heap.size + 1) W3 (W3.putObj (w.heap.size + 1) (.loop (rec (if jump.isNone then .ready else .done) jump))) ∧
            But (Mine n₀ (w.heap.size + 2)) W (W3.putObj (w.heap.size + 1) (.loop (rec (if jump.isNone then .ready else .done) jump))) := fun jump W3 hk3 => by
          have hl3 := (hk3.block (w.heap.size + 1) (by simp; omega) (fun h => by have := h.2; omega)).trans hl2
          have hd3 := (hk3.block w.heap.size (by simp; omega) (fun h => by have := h.2; omega)).trans hk2
          have hr := run_endRound (P := P) jump hl3
          have hlt3 := (Array.getElem?_eq_some_iff.1 hl3).1
          have hput : But (· = w.heap.size + 1) W3 (W3.putObj (w.heap.size + 1) (.loop (rec (if jump.isNone then .ready else .done) jump))) := But.putObj _ _ _ rfl
          refine ⟨by rw [hrec] at hr ⊢; exact hr, World.putObj_heap_same hlt3, (World.putObj_heap_other (by omega)).trans hd3, hput, ?_⟩
          exact (hab.trans (hk3.mono (fun k hk => ⟨hk.1, by have := hk.2; omega⟩))).trans (hput.mono (fun k hk => ⟨by omega, by omega⟩))
        rintro e a3 W3 hp
        cases e with
        | normal =>
          obtain ⟨hk3, hi3⟩ := hp
          obtain ⟨hr, hl4, hk4, hb4, hbut⟩ := fin none W3 hk3
          have hs3 : w.heap.size ≤ W3.heap.size := by have := hk3.size; simp at this; omega
          exact ⟨_, _, hr, .inl ⟨rfl, ⟨hI _ _ _ hi3 (hb4.below hs3 (fun k hk => by omega)), hl4, hk4⟩, hbut⟩⟩
        | ret =>
          obtain ⟨hk3, hi3⟩ := hp
          obtain ⟨hr, hl4, hk4, hb4, hbut⟩ := fin (some .ret) W3 hk3
          exact ⟨_, _, hr, .inr ⟨rfl, .ret, hIx _ _ _ _ hi3 hb4, hl4, hk4⟩⟩
        | exit id =>
          obtain ⟨hk3, hi3⟩ := hp
          obtain ⟨hr, hl4, hk4, hb4, hbut⟩ := fin (some (.exit id)) W3 hk3
          exact ⟨_, _, hr, .inr ⟨rfl, .exit id, hIx _ _ _ _ hi3 hb4, hl4, hk4⟩⟩
        | goto t =>
          obtain ⟨hk3, hi3⟩ := hp
          obtain ⟨hr, hl4, hk4, hb4, hbut⟩ := fin (some (.goto t)) W3 hk3
          exact ⟨_, _, hr, .inr ⟨rfl, .goto t, hIx _ _ _ _ hi3 hb4, hl4, hk4⟩⟩
        | panic ch => exact hp.elim
        | outgrown => exact hp.elim
      | ret => exact hp.elim
      | exit id => exact hp.elim
      | goto t => exact hp.elim
      | panic ch => exact hp.elim
      | outgrown => exact hp.elim
    · rintro e W2 ⟨⟨v, rfl⟩, (⟨xs, hS, hi, hl, hk⟩ | ⟨pre, hSp, c, hi, hl, hk⟩)⟩
      · have hlt2 := (Array.getElem?_eq_some_iff.1 hl).1
        have hput : ∀ o, Below w.heap.size W2 (W2.putObj (w.heap.size + 1) o) := fun o => (But.putObj (S := (· = w.heap.size + 1)) W2 _ o rfl).below (by omega) (fun k hk => by omega)
        exact ⟨none, _, by have := run_endLoop (P := P) hl (by rw [hrec]; simp); rw [hrec] at this; exact this, hdone xs _ hS (hI _ _ _ hi (hput _)) ((World.putObj_heap_other (by omega)).trans hk)⟩
      · have hput : ∀ o, But (· = w.heap.size + 1) W2 (W2.putObj (w.heap.size + 1) o) := fun o => But.putObj W2 _ o rfl
        exact ⟨some c, _, by have := run_endLoop (P := P) hl (by rw [hrec]; simp); rw [hrec] at this; exact this, hstop c pre _ hSp (hIx _ _ _ _ hi (hput _)) ((World.putObj_heap_other (by omega)).trans hk)⟩
end Go.Proofs.YtoiiibplkhedcaaGreatDoor

namespace Go.Proofs.YtoiiibplkhedcaaGreatDoor
open Go.RowKit Go.Shelf
def Turns (n₀ B : Nat) (U : Nat → Prop) (k : Nat) : Prop := n₀ ≤ k ∧ (k < B ∨ U k)
def Iter2 {α : Type} (F : Fence) (n : Nat) (P : Program) (g : Nat) (lb : Array Value) (encs : α → Array Value) (S Sp : List α → Prop) (Fit : List α → α → Prop) (Rd : World → Prop) (N n₀ : Nat) (w : World) : Prop :=
  ∀ (J : List α → (Nat → Prop) → World → Prop) (Jx : List α → World → Prop), (∀ s U A C, J s U A → But (fun k => w.heap.size + 2 ≤ k ∧ ¬ U k) A C → J s U C) → (∀ s U A, J s U A → (∀ k, U k → k < A.heap.size) ∧ Rd A) →
    (∀ pre U x W1, J pre U W1 → pre.length < N → Fit pre x → YieldAt F (n - 1) P (w.heap.size + 1) (encs x) W1 fun e W' =>
      (e = .returned (.bool true) ∧ (∃ U', J (pre ++ [x]) U' W' ∧ ∀ k, U' k → U k ∨ W1.heap.size ≤ k) ∧ But (Turns n₀ (w.heap.size + 2) U) W1 W') ∨ (e = .returned (.bool false) ∧ Jx (pre ++ [x]) W')) →
    ∀ W, Below w.heap.size w W → W.heap.size = w.heap.size + 2 → J [] (fun _ => False) W →
    CallsIn F n P g (#[.func (.yield (w.heap.size + 1)) #[] #[]] ++ lb) W fun e W' => (∃ v, e = .returned v) ∧ ((∃ xs U, S xs ∧ J xs U W') ∨ (∃ pre, Sp pre ∧ Jx pre W'))
theorem Iter2.iter {α : Type} {F : Fence} {n : Nat} {P : Program} {g : Nat} {lb : Array Value} {encs : α → Array Value} {S Sp : List α → Prop} {Fit : List α → α → Prop} {Rd : World → Prop} {N n₀ : Nat} {w : World} (h : Iter2 F n P g lb encs S Sp Fit Rd N n₀ w) : Iter F n P g lb encs S Sp Fit Rd N n₀ w := by
  intro J Jx hJ hRd hY W hW hWs h0
  have hsz : w.heap.size + 2 ≤ W.heap.size := by omega
  refine (h (fun s U A => J s A ∧ (∀ k, ¬ U k) ∧ w.heap.size + 2 ≤ A.heap.size) Jx ?_ ?_ ?_ W hW hWs ⟨h0, fun _ h => h, hsz⟩).mono ?_
  · rintro s U A C ⟨hj, hu, hs⟩ hb
    exact ⟨hJ s A C hj (hb.below hs (fun k hk => hk.1)), hu, Nat.le_trans hs hb.size⟩
  · rintro s U A ⟨hj, hu, _⟩
    exact ⟨fun k hk => (hu k hk).elim, hRd s A hj⟩
  · rintro pre U x W1 ⟨hj, hu, hs⟩ hlen hfit
    obtain ⟨fn, tmps, assign, body, hy, hR⟩ := hY pre x W1 hj hlen hfit
    refine ⟨fn, tmps, assign, body, hy, hR.mono ?_⟩
    rintro e W' (⟨rfl, hj', hb'⟩ | ⟨rfl, hx⟩)
    · exact .inl ⟨rfl, ⟨fun _ => False, ⟨hj', fun _ h => h, Nat.le_trans hs hb'.size⟩, fun _ h => h.elim⟩, hb'.mono (fun k hk => ⟨hk.1, Or.inl hk.2⟩)⟩
    · exact .inr ⟨rfl, hx⟩
  · rintro e W' ⟨hv, (⟨xs, U, hS, hj, _, _⟩ | hx)⟩
    · exact ⟨hv, .inl ⟨xs, hS, hj⟩⟩
    · exact ⟨hv, .inr hx⟩
end Go.Proofs.YtoiiibplkhedcaaGreatDoor

namespace Go.Proofs.YtoiiibplkhedcaaGreatDoor
open Go.RowKit Go.Shelf
attribute [local go_sem] Oper.semAt_some
def Sp.row (s : Sp) : List Value := [.int .i64 (s.fr : Int), .int .i64 (s.rt : Int), .int .i64 (s.dp : Int)]
def flat3 (ss : List Sp) : List Value := ss.flatMap Sp.row
theorem flat3_cons (y : Sp) (ys : List Sp) : flat3 (y :: ys) = y.row ++ flat3 ys := rfl
theorem flat3_append (xs ys : List Sp) : flat3 (xs ++ ys) = flat3 xs ++ flat3 ys := by simp [flat3]
theorem flat3_get (ys : List Sp) (i t : Nat) (hi : i < ys.length) (ht : t < 3) : (flat3 ys)[i * 3 + t]? = (ys[i].row)[t]? := by
  induction ys generalizing i with
  | nil => simp at hi
  | cons y ys ih =>
    rw [flat3_cons]
    cases i with
    | zero => rw [List.getElem?_append_left (by simp [Sp.row]; omega)]; simp
    | succ i =>
      rw [List.getElem?_append_right (by simp [Sp.row]; omega)]
      have e : (i + 1) * 3 + t - y.row.length = i * 3 + t := by simp [Sp.row]; omega
      rw [e, ih i (by simpa using hi)]
      simp
theorem flat3_take (ys : List Sp) (m : Nat) : (flat3 ys).take (m * 3) = flat3 (ys.take m) := by
  induction ys generalizing m with
  | nil => simp [flat3]
  | cons y ys ih =>
    cases m with
    | zero => simp [flat3]
    | succ m =>
      rw [flat3_cons, List.take_succ_cons, flat3_cons, ← ih m, List.take_append]
      have e1 : y.row.take ((m + 1) * 3) = y.row := List.take_of_length_le (by simp [Sp.row]; omega)
      have e2 : (m + 1) * 3 - y.row.length = m * 3 := by simp [Sp.row]; omega
      rw [e1, e2]
def Free (w : World) (B g l cap : Nat) (S : List Sp) : Prop := S.length = l ∧ w.ownsRow B 199 3 (.slice (some ⟨g, 0, none⟩) l cap) l (flat3 S)
theorem Free.at {w : World} {B g l cap : Nat} {S : List Sp} (h : Free w B g l cap S) (i : Nat) (hi : i < S.length) : SpAt w g (i * 3) S[i] := by
  have hl := h.1
  have c : ∀ t, t < 3 → w.cell? ⟨g, i * 3 + t, none⟩ = (S[i].row)[t]? := fun t ht => (owns_at h.2 (i * 3 + t) (by omega)).trans (flat3_get S i t hi ht)
  exact ⟨c 0 (by omega), c 1 (by omega), c 2 (by omega)⟩
theorem Free.drop {w : World} {B g l cap : Nat} {S : List Sp} (h : Free w B g l cap S) (m : Nat) : Sps w (some ⟨g, m * 3, none⟩) (S.drop m) := by
  intro i hi
  have hi' : m + i < S.length := by simp at hi; omega
  refine ⟨g, m * 3, rfl, ?_⟩
  have := h.at (m + i) hi'
  rw [List.getElem_drop]
  have e : (m + i) * 3 = m * 3 + i * 3 := by omega
  rw [e] at this
  exact this
theorem Free.cap {w : World} {B g l cap : Nat} {S : List Sp} (h : Free w B g l cap S) : l ≤ cap ∧ B ≤ g ∧ g < w.heap.size := by
  rcases h.2.2 with ⟨h', _⟩ | ⟨g2, cap2, cur, he, hb, hh, hnc, r⟩
  · cases h'
  · simp only [Value.slice.injEq, Option.some.injEq, Addr.mk.injEq, and_true, true_and] at he
    obtain ⟨rfl, rfl⟩ := he
    exact ⟨hnc, hb, (Array.getElem?_eq_some_iff.1 hh).1⟩
theorem Free.take {w : World} {B g l cap : Nat} {S : List Sp} (h : Free w B g l cap S) (m : Nat) (hm : m ≤ l) : Free w B g m cap (S.take m) := by
  refine ⟨by have := h.1; simp; omega, ?_⟩
  rw [← flat3_take]
  exact owns_take h.2 m hm
theorem Free.but {P : Nat → Prop} {w w' : World} {B g l cap : Nat} {S : List Sp} (h : Free w B g l cap S) (hb : But P w w') (hne : ¬ P g) : Free w' B g l cap S := ⟨h.1, owns_but h.2 hb hne⟩
theorem Free.below {w w' : World} {B g l cap : Nat} {S : List Sp} (h : Free w B g l cap S) (hb : Below w.heap.size w w') : Free w' B g l cap S := h.but (P := fun _ => False) (But.ofBelow hb) (fun h => h)
theorem chain_length {S : List Sp} {k : Nat} (h : Chain S k) : S.length ≤ k := by
  have key : ∀ j (hj : j < S.length), j ≤ S[j].rt := by
    intro j
    induction j with
    | zero => intro _; omega
    | succ j ih =>
      intro hj
      have h1 := ih (by omega)
      have h2 := h.2.1 j hj
      have h3 := (h.1 (j + 1) hj).1
      omega
  by_cases h0 : S.length = 0
  · omega
  · have h1 := key (S.length - 1) (by omega)
    have h2 := (h.1 (S.length - 1) (by omega)).2
    omega
theorem new3_cells (w : World) (s : Sp) : ∀ j u, s.row[j]? = some u →
    (w.alloc (.cells #[.int .i64 (s.fr : Int), .int .i64 (s.rt : Int), .int .i64 (s.dp : Int)] 199)).cell? (Addr.add ⟨w.heap.size, 0, none⟩ j) = some u := by
  intro j u hj
  have ad : Addr.add ⟨w.heap.size, 0, none⟩ j = ⟨w.heap.size, j, none⟩ := by
    unfold Addr.add
    split
    · simp_all
    · simp
  rw [ad, cell_of_row _ w.heap.size j _ 199 (0, 0) (heap_alloc_new _ _), ← hj]
  simp [Sp.row]
theorem new3_drew (w : World) (s : Sp) : ∀ j u, s.row[j]? = some u →
    ((w.alloc (.cells #[.int .i64 (s.fr : Int), .int .i64 (s.rt : Int), .int .i64 (s.dp : Int)] 199)).drew).cell? (Addr.add ⟨w.heap.size, 0, none⟩ j) = some u := new3_cells w s
theorem row3_one (s : Sp) : ∀ u ∈ s.row, u.oneCell' = true := by
  intro u hu
  simp [Sp.row] at hu
  rcases hu with rfl | rfl | rfl <;> rfl
set_option maxHeartbeats 400000 in
theorem spans_any (ao : Option Addr) (n cap : Nat) (w : World) :
    Calls Tryz.prog 111 #[.slice ao n cap] w fun e w' => e = .returned (.func (.func 124) #[] #[.pointer (some ⟨w.heap.size, 0, none⟩)]) ∧ w' = w.alloc (.cells #[.slice ao n cap] 23) := by
  go_enter Tryz.func111, Tryz.ntmps111
  go_wp2
  go_ret
  exact ⟨rfl, rfl⟩
theorem Tryz.infoSp : (Tryz.prog.info? 199).map (fun i => (i.zero, i.size, i.bytes)) = some (some (.agg #[.int .i64 0, .int .i64 0, .int .i64 0]), 3, 24) := by kernel_rfl
def Came (t : List Nd) (xs : List Sp) : Prop := ∃ k S, after t k = some (S, xs) ∧ (k = t.length ∨ after t (k + 1) = none)
def Part (t : List Nd) (xs : List Sp) : Prop := ∃ k S, after t k = some (S, xs)
def encSp (s : Sp) : Array Value := #[.agg #[.int .i64 (s.fr : Int), .int .i64 (s.rt : Int), .int .i64 (s.dp : Int)]]
theorem grown_but {U : Nat → Prop} {B g : Nat} {W w4 : World} {o : Obj} (hgrow : (W.alloc o).drew.grownBy w4 (some g)) (hg : B ≤ g) (hu : ¬ U g) : But (fun k => B ≤ k ∧ ¬ U k) W w4 := by
  have hA : Below W.heap.size W (W.alloc o).drew := ((Below.refl _ W).alloc (Nat.le_refl _) o).drew
  refine ⟨hgrow.os.trans hA.os, hgrow.tape.trans hA.tape, hgrow.output.trans hA.output, Nat.le_trans hA.size hgrow.size, ?_⟩
  intro k hk hn
  refine (hgrow.block k (Nat.lt_of_lt_of_le hk hA.size) ?_).trans (hA.block k hk)
  intro e
  cases e
  exact hn ⟨hg, hu⟩
set_option maxRecDepth 100000 in
set_option maxHeartbeats 2000000 in
theorem spans1_turn (t : List Nd) (m : Nat) (HM : Hid (t.length = m)) (hm : m ≤ 60000) (ao : Option Addr) (cap Bn n₀ n : Nat) (w : World) (hn₀ : n₀ ≤ w.heap.size) (hBn : Bn < w.heap.size) (hbox : w.cell? ⟨Bn, 0, none⟩ = some (.slice ao m cap))
    (w00 : World) (hsz : w00.heap.size = n₀) (hx : Nodes w00 ao t) (hw00 : Below n₀ w00 w) :
    Iter2 Fence.wide n Tryz.prog 124 #[.pointer (some ⟨Bn, 0, none⟩)] encSp (Came t) (Part t) (fun pre x => Part t (pre ++ [x])) (fun _ => True) m n₀ w := by
  intro J Jx hJ hJU hY W hW hWs h0
  obtain ⟨i0, hi, hz0, hz1, hz2⟩ := info_parts Tryz.infoSp
  have hbox1 : W.cell? ⟨Bn, 0, none⟩ = some (.slice ao m cap) := (hW.cell (p := ⟨Bn, 0, none⟩) hBn).trans hbox
  have hb0 : Below n₀ w00 W := hw00.trans (hW.mono hn₀)
  clear hbox
  refine callsIn_of_wp Tryz.func124 rfl trivial ?_
  simp only [Tryz.ntmps124, List.size_toArray, List.length_cons, List.length_nil, Nat.reduceAdd, Nat.reduceSub, Array.replicate_succ, Array.replicate_zero, List.push_toArray, List.append_toArray, List.nil_append, List.cons_append]
  have hBW : Bn < w.heap.size + 2 := by omega
  have HSZ : Hid (w00.heap.size = n₀) := hsz
  clear hsz
  gi_wp2
  gi_loopw [3, 11] (fun v p wr => ∃ (k g l c : Nat) (S ys : List Sp) (U : Nat → Prop), k ≤ m ∧ p = .int .i64 k ∧ after t k = some (S, ys) ∧ v = .slice (some ⟨g, 0, none⟩) l c ∧ Free wr (w.heap.size + 2) g l c S ∧ J ys U wr ∧ (¬ U g) ∧ Below n₀ w00 wr ∧ w.heap.size + 2 ≤ wr.heap.size)
    (fun _ p _ => m - (intOf p).toNat)
  case atStart =>
    refine ⟨0, w.heap.size + 2, 0, 0, [], [], fun _ => False, Nat.zero_le _, rfl, rfl, rfl, ⟨rfl, ⟨rfl, Or.inr ⟨_, 0, #[], rfl, Nat.le_refl _, ?_, Nat.le_refl _, by simp [maxLen], rfl, rfl⟩⟩⟩, hJ _ _ _ _ h0 (But.ofBelow ((Below.refl _ _).alloc (Nat.le_refl _) _)), fun h => h, hb0.alloc (by omega) _, by simp; omega⟩
    have := heap_alloc_new W (.cells #[] 199)
    rw [hWs] at this
    exact this
  case round =>
    obtain ⟨k, g, l, c, S, ys, U, hk, rfl, hst, rfl, hfree, hj, hUg, hb, hsize⟩ := hrel
    have hUl := (hJU _ _ _ hj).1
    clear hb0 h0 hbox1 hW hWs
    by_cases hlt : k < m
    · have hltk : k < t.length := by have := HM.out; omega
      obtain ⟨b, o, rfl, hn⟩ := (hx.below (hb.mono (by have := HSZ.out; omega))) k hltk
      obtain ⟨x, hxk⟩ : ∃ x, t[k] = x := ⟨_, rfl⟩
      rw [hxk] at hn
      obtain ⟨c0, c1, c2, c3, c4⟩ := hn
      have hblt : b < wr.heap.size := lt_of_cell c0
      have HXK : Hid (t[k] = x) := hxk
      have hfine := after_fine hst
      have hSl := chain_length hfine.chain
      have HST : Hid (after t k = some (S, ys)) := hst
      have HF : Hid (Fine k S ys) := hfine
      have HSL : Hid (S.length = l) := hfree.1
      have hlk : l ≤ k := by have := hfree.1; omega
      clear hx hxk hfine hst hSl
      by_cases hbad : x.kids < 0 ∨ (l : Int) < x.kids
      · have HE : Hid (Came t ys) := by
          refine ⟨k, S, HST.out, Or.inr (after_fail HST.out hltk ?_)⟩
          rw [HXK.out]
          exact step_none (by have := HSL.out; rw [this]; exact hbad)
        have hj2 := hJ _ _ _ _ hj (But.ofBelow ((Below.refl _ wr).alloc (Nat.le_refl _) (.cells #[.int .i64 x.kind, .int .i64 x.num, .string x.text, .int .i64 x.kids, .int .i64 x.place] 43)))
        by_cases hneg : x.kids < 0
        · gi_wp2
          refine bodyPost_ret (results_none rfl _ _ _) rfl ?_
          first | exact ⟨⟨_, rfl⟩, .inl ⟨ys, HE.out, U, hj2⟩⟩ | exact ⟨⟨_, rfl⟩, .inl ⟨ys, U, HE.out, hj2⟩⟩
        · have hgt : (l : Int) < x.kids := by omega
          gi_wp2
          refine bodyPost_ret (results_none rfl _ _ _) rfl ?_
          first | exact ⟨⟨_, rfl⟩, .inl ⟨ys, HE.out, U, hj2⟩⟩ | exact ⟨⟨_, rfl⟩, .inl ⟨ys, U, HE.out, hj2⟩⟩
      · obtain ⟨q, hq⟩ : ∃ q : Nat, x.kids = (q : Int) := ⟨x.kids.toNat, by omega⟩
        have HQ : Hid (x.kids = (q : Int)) := hq
        rw [hq] at c3 hbad
        have hqS : q ≤ l := by omega
        obtain ⟨f, rfl⟩ : ∃ f, l = f + q := ⟨l - q, by omega⟩
        clear hq hbad
        have hcap := hfree.cap
        have hff : f < c ∨ (c = f ∧ q = 0) := by omega
        have HDL : Hid ((S.drop f).length = q) := by have := HSL.out; show (S.drop f).length = q; simp; omega
        have HDD : Hid (∀ y ∈ S.drop f, y.dp ≤ 60000) := by
          intro y hy
          obtain ⟨j, hj, rfl⟩ := List.getElem_of_mem (List.mem_of_mem_drop hy)
          have h2 := HF.out.mem j hj
          obtain ⟨hlt2, he⟩ := List.getElem?_eq_some_iff.1 h2
          have h3 := HF.out.root _ hlt2
          rw [he] at h3
          have := HF.out.len
          omega
        have hA : Below wr.heap.size wr (wr.alloc (.cells #[.int .i64 x.kind, .int .i64 x.num, .string x.text, .int .i64 (q : Int), .int .i64 x.place] 43)) := (Below.refl _ wr).alloc (Nat.le_refl _) _
        have hfreeA := hfree.below hA
        have hsps := hfreeA.drop f
        have HSPS : Hid (q = 0 → S.drop f = []) := by
          intro h0
          exact List.eq_nil_of_length_eq_zero (by have := HDL.out; omega)
        obtain ⟨s, hs⟩ : ∃ s, over (S.drop f) k = s := ⟨_, rfl⟩
        have HS : Hid (over (S.drop f) k = s) := hs
        have HST2 : Hid (after t (k + 1) = some (S.take f ++ [s], ys ++ [s])) := by
          refine after_succ HST.out hltk ?_
          rw [HXK.out, HQ.out, step_of (by omega) (by have := HSL.out; omega)]
          have e : S.length - ((q : Int)).toNat = f := by have := HSL.out; simp; omega
          rw [e, HS.out]
        have hyk : ys.length < m := by have := HF.out.len; omega
        clear hs
        rcases hff with hff | ⟨rfl, rfl⟩
        · gi_wp2_with fail
          refine ⟨trivial, fun h => (by cases h), callsIn_wide.2 ((spanOver_any (S.drop f) q k HDL _ _ _ hsps (by omega) (by omega) HDD.out).mono ?_)⟩
          rintro e w1 ⟨rfl, hb1⟩
          rw [HS.out]
          have hB1 := hA.trans (hb1.mono hA.size)
          have hbx := Box3.new w1 (.int .i64 (s.fr : Int)) (.int .i64 (s.rt : Int)) (.int .i64 (s.dp : Int))
          have hB2 : Below wr.heap.size wr (w1.alloc (.cells #[.int .i64 (s.fr : Int), .int .i64 (s.rt : Int), .int .i64 (s.dp : Int)] 199)) := hB1.alloc hB1.size _
          have hf2 := hfree.below hB2
          obtain ⟨fn, tmps, assign, body, hy, hR⟩ := hY ys U s _ (hJ _ _ _ _ hj (But.ofBelow hB2)) hyk ⟨_, _, HST2.out⟩
          simp only [encSp] at hy
          have s1 : wr.heap.size ≤ w1.heap.size := hB1.size
          have hb2 := hb.trans (hB2.mono (by have := hb.size; have := HSZ.out; omega))
          clear hj hb hb1 hB1 hfree hfreeA hsps hA c0 c1 c2 c3 c4
          gi_wp2
          refine ⟨fun h => (by cases h), hR.mono ?_⟩
          rintro e W3 (⟨rfl, ⟨U', hJ3, hU3⟩, hk3⟩ | ⟨rfl, hJx3⟩)
          · have hnm : ¬ Turns n₀ (w.heap.size + 2) U w1.heap.size := fun h => h.2.elim (fun h => by omega) (fun h => by have := hUl _ h; omega)
            have hng : ¬ Turns n₀ (w.heap.size + 2) U g := fun h => h.2.elim (fun h => by omega) hUg
            have hUg3 : ¬ U' g := fun h => (hU3 g h).elim hUg (fun h => by have := hcap.2.2; have := hB2.size; omega)
            have hUl3 := (hJU _ _ _ hJ3).1
            have hbx3 : Box3 W3 w1.heap.size (.int .i64 (s.fr : Int)) (.int .i64 (s.rt : Int)) (.int .i64 (s.dp : Int)) := (hk3.block _ hbx.lt hnm).trans hbx
            have hf3 := (hf2.but hk3 hng).take f (by omega)
            have hb3 : Below n₀ w00 W3 := hb2.trans (hk3.below (by have := hB2.size; have := hb2.size; have := HSZ.out; omega) (fun q hq => hq.1))
            have hs3 : w.heap.size + 2 ≤ W3.heap.size := by have := hk3.size; have := hB2.size; omega
            obtain ⟨q0, q1, q2⟩ := hbx3.cells
            have hown := hf3.2
            have hfc : f ≤ c := by omega
            clear hk3 hbx hB2 hf2 hb2 hbx3 hnm hng hy hR
            gi_wp2
            refine wpIn_wide.2 ?_
            go_region_law (refine step_append2 _ rfl (.tmp 42) (.tmp 44) 221 rfl (w.heap.size + 2) 199 i0 _ 3 24 Tryz.underlying221 hi hz0 hz1 hz2 rfl (by decide) g f c _ rfl ((hown.alloc _).drew) ⟨_, 0, none⟩ 1 1 s.row rfl rfl ?_ (row3_one s) ?_ ?_ ?_ ?_; exact new3_drew _ s; (unfold maxLen; omega); omega; (simp; omega); intro g' c' w4 hown4 hgrow4 hwh)
            have hAllB : But (fun k => w.heap.size + 2 ≤ k ∧ ¬ U' k) W3 w4 := grown_but hgrow4 hcap.2.1 hUg3
            have hUg4 : ¬ U' g' := fun h => hwh.elim (fun e => hUg3 (e ▸ h)) (fun e => by have h9 := hUl3 _ h; rw [e] at h9; simp at h9; omega)
            have hAll : Below (w.heap.size + 2) W3 w4 := (((Below.refl _ W3).alloc hs3 _).drew).grown hgrow4 (by simp; omega) (fun q hq => by cases hq; exact hcap.2.1)
            have F4 : Free w4 (w.heap.size + 2) g' (f + 1) c' (S.take f ++ [s]) := by
              refine ⟨by have := HSL.out; simp; omega, ?_⟩
              rw [flat3_append]
              have e : flat3 [s] = s.row := by simp [flat3]
              rw [e]
              exact hown4
            have J4 := hJ _ _ _ _ hJ3 hAllB
            have B4 := hb3.trans (hAll.mono (by omega))
            have S4 : w.heap.size + 2 ≤ w4.heap.size := by have := hAll.size; omega
            clear hown4 hgrow4 hwh hown hAll hAllB hUl3 hUg3 hf3 hb3 hJ3 q0 q1 q2
            gi_wp2
            go_roundw
            case rel => exact ⟨k + 1, g', f + 1, c', _, _, U', by omega, by go_num, HST2.out, rfl, F4, J4, hUg4, B4, S4⟩
            case measure => simp [intOf]; omega
          · gi_wp2
            refine bodyPost_ret (results_none rfl _ _ _) rfl ?_
            exact ⟨⟨_, rfl⟩, .inr ⟨ys ++ [s], ⟨_, _, HST2.out⟩, hJx3⟩⟩
        · gi_wp2_with fail
          refine ⟨trivial, fun h => (by cases h), callsIn_wide.2 ((spanOver_any (S.drop c) 0 k HDL _ _ _ (by have h9 : S.drop c = [] := List.eq_nil_of_length_eq_zero HDL.out; rw [h9]; intro i hi; simp at hi) (by omega) (by omega) HDD.out).mono ?_)⟩
          rintro e w1 ⟨rfl, hb1⟩
          rw [HS.out]
          have hB1 := hA.trans (hb1.mono hA.size)
          have hbx := Box3.new w1 (.int .i64 (s.fr : Int)) (.int .i64 (s.rt : Int)) (.int .i64 (s.dp : Int))
          have hB2 : Below wr.heap.size wr (w1.alloc (.cells #[.int .i64 (s.fr : Int), .int .i64 (s.rt : Int), .int .i64 (s.dp : Int)] 199)) := hB1.alloc hB1.size _
          have hf2 := hfree.below hB2
          obtain ⟨fn, tmps, assign, body, hy, hR⟩ := hY ys U s _ (hJ _ _ _ _ hj (But.ofBelow hB2)) hyk ⟨_, _, HST2.out⟩
          simp only [encSp] at hy
          have s1 : wr.heap.size ≤ w1.heap.size := hB1.size
          have hb2 := hb.trans (hB2.mono (by have := hb.size; have := HSZ.out; omega))
          clear hj hb hb1 hB1 hfree hfreeA hsps hA c0 c1 c2 c3 c4
          gi_wp2
          refine ⟨fun h => (by cases h), hR.mono ?_⟩
          rintro e W3 (⟨rfl, ⟨U', hJ3, hU3⟩, hk3⟩ | ⟨rfl, hJx3⟩)
          · have hnm : ¬ Turns n₀ (w.heap.size + 2) U w1.heap.size := fun h => h.2.elim (fun h => by omega) (fun h => by have := hUl _ h; omega)
            have hng : ¬ Turns n₀ (w.heap.size + 2) U g := fun h => h.2.elim (fun h => by omega) hUg
            have hUg3 : ¬ U' g := fun h => (hU3 g h).elim hUg (fun h => by have := hcap.2.2; have := hB2.size; omega)
            have hUl3 := (hJU _ _ _ hJ3).1
            have hbx3 : Box3 W3 w1.heap.size (.int .i64 (s.fr : Int)) (.int .i64 (s.rt : Int)) (.int .i64 (s.dp : Int)) := (hk3.block _ hbx.lt hnm).trans hbx
            have hf3 := (hf2.but hk3 hng).take c (by omega)
            have hb3 : Below n₀ w00 W3 := hb2.trans (hk3.below (by have := hB2.size; have := hb2.size; have := HSZ.out; omega) (fun q hq => hq.1))
            have hs3 : w.heap.size + 2 ≤ W3.heap.size := by have := hk3.size; have := hB2.size; omega
            obtain ⟨q0, q1, q2⟩ := hbx3.cells
            have hown := hf3.2
            have hfc : c ≤ c := by omega
            clear hk3 hbx hB2 hf2 hb2 hbx3 hnm hng hy hR
            gi_wp2
            refine wpIn_wide.2 ?_
            go_region_law (refine step_append2 _ rfl (.tmp 42) (.tmp 44) 221 rfl (w.heap.size + 2) 199 i0 _ 3 24 Tryz.underlying221 hi hz0 hz1 hz2 rfl (by decide) g c c _ rfl ((hown.alloc _).drew) ⟨_, 0, none⟩ 1 1 s.row rfl rfl ?_ (row3_one s) ?_ ?_ ?_ ?_; exact new3_drew _ s; (unfold maxLen; omega); omega; (simp; omega); intro g' c' w4 hown4 hgrow4 hwh)
            have hAllB : But (fun k => w.heap.size + 2 ≤ k ∧ ¬ U' k) W3 w4 := grown_but hgrow4 hcap.2.1 hUg3
            have hUg4 : ¬ U' g' := fun h => hwh.elim (fun e => hUg3 (e ▸ h)) (fun e => by have h9 := hUl3 _ h; rw [e] at h9; simp at h9; omega)
            have hAll : Below (w.heap.size + 2) W3 w4 := (((Below.refl _ W3).alloc hs3 _).drew).grown hgrow4 (by simp; omega) (fun q hq => by cases hq; exact hcap.2.1)
            have F4 : Free w4 (w.heap.size + 2) g' (c + 1) c' (S.take c ++ [s]) := by
              refine ⟨by have := HSL.out; simp; omega, ?_⟩
              rw [flat3_append]
              have e : flat3 [s] = s.row := by simp [flat3]
              rw [e]
              exact hown4
            have J4 := hJ _ _ _ _ hJ3 hAllB
            have B4 := hb3.trans (hAll.mono (by omega))
            have S4 : w.heap.size + 2 ≤ w4.heap.size := by have := hAll.size; omega
            clear hown4 hgrow4 hwh hown hAll hAllB hUl3 hUg3 hf3 hb3 hJ3 q0 q1 q2
            gi_wp2
            go_roundw
            case rel => exact ⟨k + 1, g', c + 1, c', _, _, U', by omega, by go_num, HST2.out, rfl, F4, J4, hUg4, B4, S4⟩
            case measure => simp [intOf]; omega
          · gi_wp2
            refine bodyPost_ret (results_none rfl _ _ _) rfl ?_
            exact ⟨⟨_, rfl⟩, .inr ⟨ys ++ [s], ⟨_, _, HST2.out⟩, hJx3⟩⟩
    · have HE : Hid (Came t ys) := ⟨k, S, hst, Or.inl (by have := HM.out; omega)⟩
      clear hx hfree
      gi_wp2
      go_end0
      exact ⟨⟨_, rfl⟩, .inl ⟨ys, U, HE.out, hj⟩⟩
theorem spans1_any (t : List Nd) (m : Nat) (HM : Hid (t.length = m)) (hm : m ≤ 60000) (ao : Option Addr) (cap Bn n₀ n : Nat) (w : World) (hn₀ : n₀ ≤ w.heap.size) (hBn : Bn < w.heap.size) (hbox : w.cell? ⟨Bn, 0, none⟩ = some (.slice ao m cap))
    (w00 : World) (hsz : w00.heap.size = n₀) (hx : Nodes w00 ao t) (hw00 : Below n₀ w00 w) :
    Iter Fence.wide n Tryz.prog 124 #[.pointer (some ⟨Bn, 0, none⟩)] encSp (Came t) (Part t) (fun pre x => Part t (pre ++ [x])) (fun _ => True) m n₀ w :=
  (spans1_turn t m HM hm ao cap Bn n₀ n w hn₀ hBn hbox w00 hsz hx hw00).iter
end Go.Proofs.YtoiiibplkhedcaaGreatDoor

namespace Go.Proofs.YtoiiibplkhedcaaGreatDoor
open Go.RowKit Go.Shelf
attribute [local go_sem] Oper.semAt_some
def lastOf (xs : List Sp) : Sp := xs.getLast?.getD ⟨0, 0, 0⟩
theorem lastOf_snoc (xs : List Sp) (s : Sp) : lastOf (xs ++ [s]) = s := by simp [lastOf]
def rawDeep (t : List Nd) : Nat :=
  match after t t.length with
  | none => 0
  | some (_, ys) => match ys.getLast? with
    | none => 0
    | some s => if s.fr = 0 then s.dp else 0
theorem deepOf_raw (t : List Nd) : deepOf t = if 6000 < t.length ∨ 300 < rawDeep t then 0 else rawDeep t := by
  unfold deepOf rawDeep
  by_cases h : 6000 < t.length
  · rw [if_pos h, if_pos (.inl h)]
  · rw [if_neg h]
    cases after t t.length with
    | none => simp
    | some p =>
      obtain ⟨S, ys⟩ := p
      simp only
      cases ys.getLast? with
      | none => simp
      | some s =>
        simp only
        by_cases h1 : s.fr = 0
        · by_cases h2 : s.dp ≤ 300
          · rw [if_pos ⟨h1, h2⟩, if_pos h1, if_neg (by omega)]
          · rw [if_neg (by omega), if_pos h1, if_pos (by omega)]
        · rw [if_neg (by omega), if_neg h1]; simp
theorem deep_came {t : List Nd} {xs : List Sp} (h : Came t xs) :
    rawDeep t = if (lastOf xs).fr ≠ 0 ∨ ((lastOf xs).rt : Int) ≠ (t.length : Int) - 1 then 0 else (lastOf xs).dp := by
  obtain ⟨k, S, ha, hk⟩ := h
  have hf := after_fine ha
  have hle := after_le ha
  unfold rawDeep
  by_cases hkl : k = t.length
  · subst hkl
    rw [ha]
    simp only
    cases hx : xs.getLast? with
    | none =>
      have hx0 : xs = [] := List.getLast?_eq_none_iff.1 hx
      subst hx0
      have h0 : t.length = 0 := by have := hf.len; simpa using this.symm
      simp [lastOf, h0]
    | some s =>
      have hls : lastOf xs = s := by simp [lastOf, hx]
      rw [hls]
      have hne : xs ≠ [] := by intro e; rw [e] at hx; simp at hx
      have hlen : 0 < xs.length := List.length_pos_iff.2 hne
      have hs : xs[xs.length - 1]'(by omega) = s := by
        rw [List.getLast?_eq_getElem?, List.getElem?_eq_getElem (by omega)] at hx
        simpa using hx
      have hr := (hf.root (xs.length - 1) (by omega)).1
      rw [hs] at hr
      have hl2 := hf.len
      have hrt : ¬ ((s.rt : Int) ≠ (t.length : Int) - 1) := by omega
      simp only
      by_cases h1 : s.fr = 0
      · rw [if_pos h1, if_neg (by omega)]
      · rw [if_neg h1, if_pos (by omega)]
  · have hk : after t (k + 1) = none := by
      rcases hk with h | h
      · exact absurd h hkl
      · exact h
    have hn := after_none hk t.length
    rw [hn (by omega)]
    simp only
    by_cases hk0 : k = 0
    · subst hk0
      have hx0 : xs = [] := List.eq_nil_of_length_eq_zero hf.len
      subst hx0
      simp [lastOf]
    · have hlen := hf.len
      have hx : xs.getLast? = some (xs[xs.length - 1]'(by omega)) := by
        rw [List.getLast?_eq_getElem?, List.getElem?_eq_getElem (by omega)]
      have hls : lastOf xs = xs[xs.length - 1]'(by omega) := by simp [lastOf, hx]
      have hr := (hf.root (xs.length - 1) (by omega)).1
      rw [← hls] at hr
      rw [if_pos (by right; omega)]
set_option maxRecDepth 100000 in
set_option maxHeartbeats 2000000 in
theorem implDeepOf_any (t : List Nd) (m : Nat) (HM : Hid (t.length = m)) (hm : m ≤ 60000) (ao : Option Addr) (cap : Nat) (w : World) (hx : Nodes w ao t) :
    Calls Tryz.prog 98 #[.slice ao m cap] w fun e w' => e = .returned (.int .i64 (rawDeep t : Int)) ∧ Below w.heap.size w w' := by
  obtain ⟨n, hn⟩ : ∃ n : Nat, 6 ≤ n := ⟨6, Nat.le_refl _⟩
  refine (callsIn_wide (n := n)).1 ?_
  refine callsIn_of_wp_marks Tryz.func98 rfl trivial ?_
  simp only [Tryz.ntmps98, List.size_toArray, List.length_cons, List.length_nil, Nat.reduceAdd, Nat.reduceSub, Array.replicate_succ, Array.replicate_zero, List.push_toArray, List.append_toArray, List.nil_append, List.cons_append]
  gi_wp2_with fail
  refine ⟨trivial, fun h => (by cases h), callsIn_wide.2 ((spans_any ao m cap _).mono ?_)⟩
  rintro e w1 ⟨rfl, rfl⟩
  gi_wp2
  obtain ⟨W1, hW1⟩ : ∃ W1, ((w.alloc (Obj.cells #[Value.int IntKind.i64 0, Value.int IntKind.i64 0, Value.int IntKind.i64 0] 199)).alloc (.cells #[.slice ao m cap] 23)) = W1 := ⟨_, rfl⟩
  have hB1 : Below w.heap.size w W1 := by rw [← hW1]; exact ((Below.refl _ w).alloc (Nat.le_refl _) _).alloc (by simp) _
  have hs1 : W1.heap.size = w.heap.size + 2 := by rw [← hW1]; simp
  have bL : Box3 W1 w.heap.size (.int .i64 0) (.int .i64 0) (.int .i64 0) := by rw [← hW1]; exact (Box3.new w _ _ _).alloc _
  have bT : W1.cell? ⟨w.heap.size + 1, 0, none⟩ = some (.slice ao m cap) := by
    rw [← hW1]
    have := cell_of_row ((w.alloc (Obj.cells #[Value.int IntKind.i64 0, Value.int IntKind.i64 0, Value.int IntKind.i64 0] 199)).alloc (.cells #[.slice ao m cap] 23)) (w.heap.size + 1) 0 #[.slice ao m cap] 23 (0, 0) (by have := heap_alloc_new (w.alloc (Obj.cells #[Value.int IntKind.i64 0, Value.int IntKind.i64 0, Value.int IntKind.i64 0] 199)) (.cells #[.slice ao m cap] 23); rw [World.size_alloc] at this; exact this)
    rw [this]; rfl
  try rw [hW1]
  clear hW1
  refine wpIn_range (α := Sp) rfl (by omega) (gf := 124) (lb := #[.pointer (some ⟨w.heap.size + 1, 0, none⟩)]) rfl trivial (enters_of Tryz.func124 (by kernel_rfl) rfl)
    (encs := encSp) w.heap.size hB1.size (spans1_any t m HM hm ao cap (w.heap.size + 1) w.heap.size (n - 1) W1 hB1.size (by omega) bT w rfl hx hB1) (fun _ => rfl)
    (fun pre W => Box3 W w.heap.size (.int .i64 ((lastOf pre).fr : Int)) (.int .i64 ((lastOf pre).rt : Int)) (.int .i64 ((lastOf pre).dp : Int)) ∧ Below w.heap.size w W)
    (fun _ _ _ => False) ?hI (fun _ _ _ _ h _ => h) (fun _ _ _ => trivial) ⟨bL, hB1⟩ ?round ?done (fun _ _ _ _ h _ => h.elim)
  case hI =>
    rintro s A C ⟨h1, h2⟩ hb
    exact ⟨(hb.block _ (by omega)).trans h1, h2.trans (hb.mono (by omega))⟩
  case round =>
    rintro pre s W ⟨hbx, hb⟩ hlen _ hsz
    simp only [encSp]
    gi_wp2
    refine ⟨But.ofBelow ((Below.refl _ W).alloc (Nat.le_refl _) _), ?_⟩
    intro Wb hWb
    have bs : Box3 Wb W.heap.size (.int .i64 (s.fr : Int)) (.int .i64 (s.rt : Int)) (.int .i64 (s.dp : Int)) := (hWb.block W.heap.size (by simp) (by omega)).trans (Box3.new W _ _ _)
    have bl := (hWb.block w.heap.size (by have := hbx.lt; simp; omega) (by omega)).trans (hbx.alloc (Obj.cells #[Value.int IntKind.i64 ↑s.fr, Value.int IntKind.i64 ↑s.rt, Value.int IntKind.i64 ↑s.dp] 199))
    have hbb : Below w.heap.size w Wb := (hb.alloc hb.size _).trans (hWb.below (by have := hb.size; simp; omega) (fun k hk => by omega))
    have bl' : Box3 Wb w.heap.size _ _ _ := bl
    obtain ⟨p0, p1, p2⟩ := bs.cells
    obtain ⟨q0, q1, q2⟩ := bl'.cells
    have f0 := bl'.frozen 0
    have f1 := bl'.frozen 1
    have f2 := bl'.frozen 2
    have hfin : Box3 (((Wb.setCell ⟨w.heap.size, 0, none⟩ (.int .i64 (s.fr : Int))).setCell ⟨w.heap.size, 1, none⟩ (.int .i64 (s.rt : Int))).setCell ⟨w.heap.size, 2, none⟩ (.int .i64 (s.dp : Int))) w.heap.size (.int .i64 (s.fr : Int)) (.int .i64 (s.rt : Int)) (.int .i64 (s.dp : Int)) := ((bl'.set0 _).set1 _).set2 _
    have hmine : Mine w.heap.size W1.heap.size w.heap.size := ⟨Nat.le_refl _, by omega⟩
    have hbut : But (Mine w.heap.size W1.heap.size) Wb (((Wb.setCell ⟨w.heap.size, 0, none⟩ (.int .i64 (s.fr : Int))).setCell ⟨w.heap.size, 1, none⟩ (.int .i64 (s.rt : Int))).setCell ⟨w.heap.size, 2, none⟩ (.int .i64 (s.dp : Int))) :=
      (((But.refl _ Wb).setCell (p := ⟨w.heap.size, 0, none⟩) hmine _).setCell (p := ⟨w.heap.size, 1, none⟩) hmine _).setCell (p := ⟨w.heap.size, 2, none⟩) hmine _
    have hbel : Below w.heap.size w (((Wb.setCell ⟨w.heap.size, 0, none⟩ (.int .i64 (s.fr : Int))).setCell ⟨w.heap.size, 1, none⟩ (.int .i64 (s.rt : Int))).setCell ⟨w.heap.size, 2, none⟩ (.int .i64 (s.dp : Int))) :=
      ((hbb.setCell (p := ⟨w.heap.size, 0, none⟩) (Nat.le_refl _) _).setCell (p := ⟨w.heap.size, 1, none⟩) (Nat.le_refl _) _).setCell (p := ⟨w.heap.size, 2, none⟩) (Nat.le_refl _) _
    clear hbx hb bl bl' bs hbb hmine hWb
    gi_wp2
    exact ⟨hbut, by rw [lastOf_snoc]; exact hfin, hbel⟩
  case done =>
    rintro xs W hcame ⟨hbx, hb⟩ hK
    have HD := deep_came hcame
    obtain ⟨L, hL⟩ : ∃ L, lastOf xs = L := ⟨_, rfl⟩
    rw [hL] at hbx HD
    rw [HM.out] at HD
    have HDD : Hid (rawDeep t = if L.fr ≠ 0 ∨ (L.rt : Int) ≠ (m : Int) - 1 then 0 else L.dp) := HD
    obtain ⟨q0, q1, q2⟩ := hbx.cells
    clear HD hcame hL
    have hput : Below w.heap.size w (W.putObj W1.heap.size (.deferred none)) := hb.trans ((But.putObj (S := (· = W1.heap.size)) W _ _ rfl).below hb.size (fun k hk => by omega))
    clear hs1 hB1 bL bT
    by_cases h1 : L.fr = 0
    · by_cases h2 : (L.rt : Int) = (m : Int) - 1
      · have HV : Hid (rawDeep t = L.dp) := by rw [HDD.out, if_neg (by omega)]; rfl
        clear hbx hb
        gi_wp2
        refine ⟨by simp, .inl ⟨_, _, rfl, run_takeDeferred hK, ?_⟩⟩
        exact ⟨_, results_tmp rfl _ _ _, by rw [HV.out]; rfl, hput⟩
      · have HV : Hid (rawDeep t = 0) := by rw [HDD.out, if_pos (by omega)]; rfl
        clear hbx hb
        gi_wp2
        refine ⟨by simp, .inl ⟨_, _, rfl, run_takeDeferred hK, ?_⟩⟩
        exact ⟨_, results_tmp rfl _ _ _, by rw [HV.out]; rfl, hput⟩
    · have HV : Hid (rawDeep t = 0) := by rw [HDD.out, if_pos (by omega)]; rfl
      have h1' : ¬ ((L.fr : Int) = 0) := by omega
      clear hbx hb
      gi_wp2
      refine ⟨by simp, .inl ⟨_, _, rfl, run_takeDeferred hK, ?_⟩⟩
      exact ⟨_, results_tmp rfl _ _ _, by rw [HV.out]; rfl, hput⟩
set_option maxHeartbeats 400000 in
theorem implDeep_any (t : List Nd) (m : Nat) (HM : Hid (t.length = m)) (hm : m ≤ 1048576) (ao : Option Addr) (cap : Nat) (w : World) (hx : Nodes w ao t) :
    Calls Tryz.prog 75 #[.slice ao m cap] w fun e w' => e = .returned (.int .i64 (deepOf t : Int)) ∧ Below w.heap.size w w' := by
  by_cases h : m ≤ 6000
  · have HV : Hid (deepOf t = if 300 < rawDeep t then 0 else rawDeep t) := by
      show deepOf t = _
      rw [deepOf_raw]
      have := HM.out
      by_cases h3 : 300 < rawDeep t
      · rw [if_pos (.inr h3), if_pos h3]
      · rw [if_neg (by omega), if_neg h3]
    go_enter Tryz.func75, Tryz.ntmps75
    go_wp2_with fail
    refine (implDeepOf_any t m HM (by omega) ao cap w hx).mono ?_
    rintro e w1 ⟨rfl, hb⟩
    obtain ⟨d, hd⟩ : ∃ d, rawDeep t = d := ⟨_, rfl⟩
    rw [hd] at HV ⊢
    clear hx hd
    by_cases h3 : 300 < d
    · rw [if_pos h3] at HV
      go_wp2
      go_ret
      exact ⟨by rw [HV.out]; rfl, hb⟩
    · rw [if_neg h3] at HV
      go_wp2
      go_ret
      exact ⟨by rw [HV.out]; rfl, hb⟩
  · have HV : Hid (deepOf t = 0) := by
      show deepOf t = 0
      unfold deepOf
      rw [if_pos (by have := HM.out; omega)]
    clear hx
    go_enter Tryz.func75, Tryz.ntmps75
    go_wp2
    go_ret
    exact ⟨by rw [HV.out]; rfl, Below.refl _ _⟩
set_option maxHeartbeats 400000 in
theorem implGood_any (t : List Nd) (m : Nat) (HM : Hid (t.length = m)) (hm : m ≤ 1048576) (ao : Option Addr) (cap : Nat) (w : World) (hx : Nodes w ao t) :
    Calls Tryz.prog 42 #[.slice ao m cap] w fun e w' => e = .returned (.bool (decide (0 < deepOf t))) ∧ Below w.heap.size w w' := by
  go_enter Tryz.func42, Tryz.ntmps42
  go_wp2_with fail
  refine (implDeep_any t m HM hm ao cap w hx).mono ?_
  rintro e w1 ⟨rfl, hb⟩
  obtain ⟨d, hd⟩ : ∃ d, deepOf t = d := ⟨_, rfl⟩
  rw [hd]
  have HD : Hid (deepOf t = d) := hd
  clear hx hd
  go_wp2
  go_ret
  exact ⟨by rw [HD.out]; simp, hb⟩
end Go.Proofs.YtoiiibplkhedcaaGreatDoor

namespace Go.Proofs.YtoiiibplkhedcaaGreatDoor
open Go.RowKit
theorem text_empty (tx : ByteArray) : tx.toList.isEmpty = (tx.size == 0) := by
  rw [Lib.toList_data]
  cases h : tx.data.toList with
  | nil =>
    have h9 : tx.data = #[] := by simpa using h
    simp [ByteArray.size, h9]
  | cons a l =>
    have h9 : tx.data.size = l.length + 1 := by rw [← Array.length_toList, h]; rfl
    simp [ByteArray.size, h9]
set_option maxHeartbeats 1000000 in
theorem isBare_any (x : Nd) (w : World) :
    Calls Tryz.prog 74 #[.agg #[.int .i64 x.kind, .int .i64 x.num, .string x.text, .int .i64 x.kids, .int .i64 x.place]] w fun e w' =>
      e = .returned (.bool (x.num == 0 && x.text.size == 0)) ∧ Below w.heap.size w w' := by
  obtain ⟨kd, nm, tx, ks, pl⟩ := x
  simp only
  have ht := text_empty tx
  by_cases hn : nm = 0
  · subst hn
    go_enter Tryz.func74, Tryz.ntmps74
    go_wp2
    go_ret
    exact ⟨by rw [← ht]; rfl, (Below.refl _ _).alloc (Nat.le_refl _) _⟩
  · have t1 : (nm == 0) = false := by simpa using hn
    rw [t1]
    go_enter Tryz.func74, Tryz.ntmps74
    go_wp2
    go_ret
    exact ⟨rfl, (Below.refl _ _).alloc (Nat.le_refl _) _⟩
set_option maxHeartbeats 1000000 in
theorem iIsPlain_any (x : Nd) (w : World) :
    Calls Tryz.prog 41 #[.agg #[.int .i64 x.kind, .int .i64 x.num, .string x.text, .int .i64 x.kids, .int .i64 x.place]] w fun e w' =>
      e = .returned (.bool x.plainb) ∧ Below w.heap.size w w' := by
  obtain ⟨kd, nm, tx, ks, pl⟩ := x
  have hb0 : Below w.heap.size w (w.alloc (Obj.cells #[.int .i64 kd, .int .i64 nm, .string tx, .int .i64 ks, .int .i64 pl] 43)) := (Below.refl _ _).alloc (Nat.le_refl _) _
  have ht := text_empty tx
  by_cases hp : pl = 0
  · subst hp
    by_cases h12 : kd = 12
    · subst h12
      go_enter Tryz.func41, Tryz.ntmps41
      go_wp2
      go_ret
      exact ⟨by simp [Nd.plainb], hb0⟩
    · have t12 : ((kd : Int) == 12) = false := by simpa using h12
      by_cases h13 : kd = 13
      · subst h13
        have HV : Hid (Nd.plainb ⟨13, nm, tx, ks, 0⟩ = ((nm == 0 && tx.size == 0) && ks == 2)) := by
          simp only [Hid, Nd.plainb, bne]
          cases ks == 2 <;> cases ks == 1 <;> cases nm == 0 <;> cases tx.size == 0 <;> simp
        obtain ⟨z, hz⟩ : ∃ z, (nm == 0 && tx.size == 0) = z := ⟨_, rfl⟩
        have HB := isBare_any ⟨13, nm, tx, ks, 0⟩
        simp only [hz] at HB HV
        clear hz ht
        go_enter Tryz.func41, Tryz.ntmps41
        go_wp2_with fail
        refine (HB _).mono ?_
        rintro e w1 ⟨rfl, hb1⟩
        have hblk : w1.heap[w.heap.size]? = some (.cells #[.int .i64 13, .int .i64 nm, .string tx, .int .i64 ks, .int .i64 0] 43 (0, 0)) := (hb1.block _ (by simp)).trans (heap_alloc_new _ _)
        have q3 : w1.cell? ⟨w.heap.size, 3, none⟩ = some (.int .i64 ks) := by rw [cell_of_row _ _ _ _ _ _ hblk]; rfl
        have hb2 := Below.step hb0 hb1
        clear HB hb0 hb1 hblk
        cases z
        · go_wp2
          go_ret
          exact ⟨by rw [HV.out]; rfl, hb2⟩
        · go_wp2
          go_ret
          exact ⟨by rw [HV.out]; rfl, hb2⟩
      · have t13 : ((kd : Int) == 13) = false := by simpa using h13
        by_cases h14 : kd = 14
        · subst h14
          have HV : Hid (Nd.plainb ⟨14, nm, tx, ks, 0⟩ = ((nm == 0 && tx.size == 0) && ks != 1)) := by
            simp only [Hid, Nd.plainb, bne]
            cases ks == 2 <;> cases ks == 1 <;> cases nm == 0 <;> cases tx.size == 0 <;> simp
          obtain ⟨z, hz⟩ : ∃ z, (nm == 0 && tx.size == 0) = z := ⟨_, rfl⟩
          have HB := isBare_any ⟨14, nm, tx, ks, 0⟩
          simp only [hz] at HB HV
          clear hz ht
          go_enter Tryz.func41, Tryz.ntmps41
          go_wp2_with fail
          refine (HB _).mono ?_
          rintro e w1 ⟨rfl, hb1⟩
          have hblk : w1.heap[w.heap.size]? = some (.cells #[.int .i64 14, .int .i64 nm, .string tx, .int .i64 ks, .int .i64 0] 43 (0, 0)) := (hb1.block _ (by simp)).trans (heap_alloc_new _ _)
          have q3 : w1.cell? ⟨w.heap.size, 3, none⟩ = some (.int .i64 ks) := by rw [cell_of_row _ _ _ _ _ _ hblk]; rfl
          have hb2 := Below.step hb0 hb1
          clear HB hb0 hb1 hblk
          cases z
          · go_wp2
            go_ret
            exact ⟨by rw [HV.out]; rfl, hb2⟩
          · go_wp2
            go_ret
            exact ⟨by rw [HV.out]; rfl, hb2⟩
        · have t14 : ((kd : Int) == 14) = false := by simpa using h14
          by_cases h60 : kd = 60 ∨ kd = 61
          · have HV : Hid (Nd.plainb ⟨kd, nm, tx, ks, 0⟩ = ((decide (nm > 0) && tx.size == 0) && ks == 0)) := by
              have h9 : (kd == 60 || kd == 61) = true := by simpa using h60
              have h8 : decide (1 ≤ nm) = decide (nm > 0) := by rw [decide_eq_decide]; omega
              simp only [Hid, Nd.plainb, h9, t12, t13, t14, h8]
              cases ks == 0 <;> cases decide (nm > 0) <;> cases tx.size == 0 <;> simp
            rw [← ht] at HV
            clear ht
            by_cases hn : nm > 0
            · have tn : decide (nm > 0) = true := decide_eq_true hn
              rw [tn] at HV
              cases he : tx.toList.isEmpty
              · rw [he] at HV
                have HW : Hid (Nd.plainb ⟨kd, nm, tx, ks, 0⟩ = false) := HV.out
                clear HV
                rcases h60 with rfl | rfl
                all_goals
                  go_enter Tryz.func41, Tryz.ntmps41
                  go_wp2
                  go_ret
                  exact ⟨by rw [HW.out]; rfl, hb0⟩
              · rw [he] at HV
                rcases h60 with rfl | rfl
                all_goals
                  go_enter Tryz.func41, Tryz.ntmps41
                  go_wp2
                  go_ret
                  exact ⟨by rw [HV.out]; rfl, hb0⟩
            · have tn : decide (nm > 0) = false := decide_eq_false hn
              rw [tn] at HV
              have HW : Hid (Nd.plainb ⟨kd, nm, tx, ks, 0⟩ = false) := HV.out
              clear HV
              rcases h60 with rfl | rfl
              all_goals
                go_enter Tryz.func41, Tryz.ntmps41
                go_wp2
                go_ret
                exact ⟨by rw [HW.out]; rfl, hb0⟩
          · have t60 : ((kd : Int) == 60) = false := by simp; omega
            have t61 : ((kd : Int) == 61) = false := by simp; omega
            go_enter Tryz.func41, Tryz.ntmps41
            go_wp2
            go_ret
            exact ⟨by simp [Nd.plainb, t12, t13, t14, t60, t61], hb0⟩
  · have tp : ((pl : Int) != 0) = true := by simpa using hp
    go_enter Tryz.func41, Tryz.ntmps41
    go_wp2
    go_ret
    exact ⟨by simp [Nd.plainb, hp], hb0⟩
set_option maxHeartbeats 1000000 in
theorem unfit_any (x : Nd) (w : World) :
    Calls Tryz.prog 40 #[.agg #[.int .i64 x.kind, .int .i64 x.num, .string x.text, .int .i64 x.kids, .int .i64 x.place]] w fun e w' =>
      e = .returned (.bool (!x.plainb)) ∧ Below w.heap.size w w' := by
  have HP := iIsPlain_any x
  obtain ⟨p, hp⟩ : ∃ p, x.plainb = p := ⟨_, rfl⟩
  rw [hp] at HP ⊢
  clear hp
  obtain ⟨kd, nm, tx, ks, pl⟩ := x
  have hb0 : Below w.heap.size w (w.alloc (Obj.cells #[.int .i64 kd, .int .i64 nm, .string tx, .int .i64 ks, .int .i64 pl] 43)) := (Below.refl _ _).alloc (Nat.le_refl _) _
  simp only at HP
  go_enter Tryz.func40, Tryz.ntmps40
  go_wp2_with fail
  refine (HP _).mono ?_
  rintro e w1 ⟨rfl, hb1⟩
  have hb2 := Below.step hb0 hb1
  clear HP hb0 hb1
  go_wp2
  go_ret
  exact ⟨rfl, hb2⟩
theorem any_true {α : Type} {p : α → Bool} {xs : List α} (k : Nat) (h : k < xs.length) (hf : p xs[k] = true) : xs.any p = true :=
  List.any_eq_true.2 ⟨_, List.getElem_mem h, hf⟩
theorem takeL_any {α : Type} {p : α → Bool} {xs : List α} (k : Nat) (h : k < xs.length) (ht : p xs[k] = false) (ha : (xs.take k).any p = false) : (xs.take (k + 1)).any p = false := by
  rw [List.take_succ_eq_append_getElem h, List.any_append, ha]
  simp [ht]
set_option maxHeartbeats 2000000 in
theorem indexFunc_unfit (xs : List Nd) (n : Nat) (HX : Hid (xs.length = n)) (ao : Option Addr) (cap : Nat) (w : World) (hx : Nodes w ao xs) (hlx : n ≤ 1048576) :
    Calls Tryz.prog 76 #[.slice ao n cap, .func (.func 40) #[] #[]] w fun e w' =>
      (∃ r : Int, e = .returned (.int .i64 r) ∧ decide (r ≥ 0) = xs.any (fun n => !n.plainb)) ∧ Below w.heap.size w w' := by
  go_enter Tryz.func76, Tryz.ntmps76
  go_wp2
  go_loopw [8] (fun i wr => ∃ (k : Nat), k ≤ n ∧ i = .int .i64 k ∧ (xs.take k).any (fun n => !n.plainb) = false ∧ Below w.heap.size w wr) (fun i _ => n - (intOf i).toNat)
  case atStart => exact ⟨0, Nat.zero_le _, rfl, by simp, Below.refl _ _⟩
  case round =>
    obtain ⟨k, hk, rfl, hall, hb⟩ := hrel
    by_cases hlt : k < n
    · have hltx : k < xs.length := by have := HX.out; omega
      obtain ⟨x, hxk⟩ : ∃ x, xs[k] = x := ⟨_, rfl⟩
      obtain ⟨b, o, rfl, hcx⟩ := hx.below hb k hltx
      rw [hxk] at hcx
      obtain ⟨c0, c1, c2, c3, c4⟩ := hcx
      have hlb : b < wr.heap.size := lt_of_cell c0
      have HXK : Hid (xs[k] = x) := hxk
      clear hx hxk
      cases hq : (!x.plainb)
      · have HA : Hid ((xs.take (k + 1)).any (fun n => !n.plainb) = false) := takeL_any k hltx (by rw [HXK.out]; exact hq) hall
        clear hall
        go_wp2_with fail
        refine (unfit_any x _).mono ?_
        rintro e w1 ⟨rfl, hb1⟩
        rw [hq]
        have hbb := Below.step hb hb1
        clear hb hb1 c0 c1 c2 c3 c4
        go_wp2
        go_roundw
        case rel => exact ⟨k + 1, by omega, by go_num, HA.out, hbb⟩
        case measure => simp [intOf]; omega
      · have HA : Hid (xs.any (fun n => !n.plainb) = true) := any_true k hltx (by rw [HXK.out]; exact hq)
        clear hall
        go_wp2_with fail
        refine (unfit_any x _).mono ?_
        rintro e w1 ⟨rfl, hb1⟩
        rw [hq]
        have hbb := Below.step hb hb1
        clear hb hb1 c0 c1 c2 c3 c4
        go_wp2
        go_ret
        exact ⟨⟨(k : Int), rfl, by rw [HA.out]; simp⟩, hbb⟩
    · have HA : Hid (xs.any (fun n => !n.plainb) = false) := by
        have h9 := hall
        rw [List.take_of_length_le (by have := HX.out; omega)] at h9
        exact h9
      clear hall hx
      go_wp2
      go_ret
      exact ⟨⟨-1, rfl, by rw [HA.out]; rfl⟩, hb⟩
set_option maxHeartbeats 400000 in
theorem containsFunc_unfit (xs : List Nd) (n : Nat) (HX : Hid (xs.length = n)) (ao : Option Addr) (cap : Nat) (w : World) (hx : Nodes w ao xs) (hlx : n ≤ 1048576) :
    Calls Tryz.prog 43 #[.slice ao n cap, .func (.func 40) #[] #[]] w fun e w' =>
      e = .returned (.bool (xs.any (fun n => !n.plainb))) ∧ Below w.heap.size w w' := by
  go_enter Tryz.func43, Tryz.ntmps43
  go_wp2_with fail
  refine (indexFunc_unfit xs n HX ao cap w hx hlx).mono ?_
  rintro e w1 ⟨⟨r, rfl, hr⟩, hb⟩
  have HR : Hid (decide (r ≥ 0) = xs.any (fun n => !n.plainb)) := hr
  clear hr hx
  go_wp2
  go_ret
  exact ⟨by rw [← HR.out]; rfl, hb⟩
theorem unfit_none (xs : List Nd) : xs.all Nd.plainb = !xs.any (fun n => !n.plainb) := by
  induction xs with
  | nil => rfl
  | cons x xs ih => simp only [List.all_cons, List.any_cons, Bool.not_or, ← ih, Bool.not_not]
set_option maxHeartbeats 1000000 in
theorem iIsType_any (t : List Nd) (m : Nat) (HM : Hid (t.length = m)) (hm : m ≤ 1048576) (ao : Option Addr) (cap : Nat) (w : World) (hx : Nodes w ao t) :
    Calls Tryz.prog 18 #[.slice ao m cap] w fun e w' => e = .returned (.bool (typeb t)) ∧ Below w.heap.size w w' := by
  obtain ⟨d, hd⟩ : ∃ d, decide (0 < deepOf t) = d := ⟨_, rfl⟩
  have HV : Hid (typeb t = (decide ((m : Int) ≤ 300) && d && !t.any (fun n => !n.plainb))) := by
    have h9 : decide (t.length ≤ 300) = decide ((m : Int) ≤ 300) := by rw [decide_eq_decide]; have := HM.out; omega
    simp only [Hid, typeb, hd, h9, unfit_none]
  have HG := implGood_any t m HM hm ao cap w hx
  rw [hd] at HG
  clear hd
  by_cases h3 : m ≤ 300
  · have t3 : decide ((m : Int) ≤ 300) = true := decide_eq_true (by omega)
    rw [t3] at HV
    go_enter Tryz.func18, Tryz.ntmps18
    go_wp2_with fail
    refine HG.mono ?_
    rintro e w1 ⟨rfl, hb1⟩
    have HC := containsFunc_unfit t m HM ao cap w1 (hx.below hb1) hm
    clear HG hx
    cases d
    · go_wp2
      go_ret
      exact ⟨by rw [HV.out]; rfl, hb1⟩
    · go_wp2_with fail
      refine HC.mono ?_
      rintro e w2 ⟨rfl, hb2⟩
      have hb := Below.step hb1 hb2
      clear HC
      go_wp2
      go_ret
      exact ⟨by rw [HV.out]; rfl, hb⟩
  · have t3 : decide ((m : Int) ≤ 300) = false := decide_eq_false (by omega)
    rw [t3] at HV
    clear HG hx
    go_enter Tryz.func18, Tryz.ntmps18
    go_wp2
    go_ret
    exact ⟨by rw [HV.out]; rfl, Below.refl _ _⟩
end Go.Proofs.YtoiiibplkhedcaaGreatDoor

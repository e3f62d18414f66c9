import Derived.Test.YtahdmflbdmlfhaaGreatDoorProg
import Derived.Test.YtahdmflbdmlfhaaGreatDoorWAD
import Derived.Test.YtahdmflbdmlfhaaGreatDoorWAA
import Derived.Deep.Light
import Derived.RangeFuncNested
import Derived.RangeFuncBound
import Derived.RangeFuncCalls
import Derived.RangeFuncLeaves
import Derived.Shelf.Abstract
namespace Go.Proofs.YtahdmflbdmlfhaaGreatDoor

open Go.RowKit

/-- The three cells of a term's place. -/
def SpAt (w : World) (b o : Nat) (s : Sp) : Prop :=
  w.cell? ⟨b, o, none⟩ = some (.int .i64 (s.fr : Int)) ∧ w.cell? ⟨b, o + 1, none⟩ = some (.int .i64 (s.rt : Int)) ∧ w.cell? ⟨b, o + 2, none⟩ = some (.int .i64 (s.dp : Int))

theorem SpAt.below {w w' : World} {b o : Nat} {s : Sp} (h : SpAt w b o s) (hb : Below w.heap.size w w') : SpAt w' b o s := by
  have hlt : b < w.heap.size := lt_of_cell h.1
  exact ⟨(hb.cell (p := ⟨b, o, none⟩) hlt).trans h.1, (hb.cell (p := ⟨b, o + 1, none⟩) hlt).trans h.2.1, (hb.cell (p := ⟨b, o + 2, none⟩) hlt).trans h.2.2⟩

def Sps (w : World) (ao : Option Addr) (ks : List Sp) : Prop :=
  ∀ i (h : i < ks.length), ∃ b o, ao = some ⟨b, o, none⟩ ∧ SpAt w b (o + i * 3) ks[i]

theorem Sps.below {w w' : World} {ao : Option Addr} {ks : List Sp} (h : Sps w ao ks) (hb : Below w.heap.size w w') : Sps w' ao ks := by
  intro i hi
  obtain ⟨b, o, e, hn⟩ := h i hi
  exact ⟨b, o, e, hn.below hb⟩

/-- A box that holds three cells. -/
def Box3 (w : World) (b : Nat) (x y z : Value) : Prop := w.heap[b]? = some (.cells #[x, y, z] 204 (0, 0))

theorem Box3.lt {w : World} {b : Nat} {x y z : Value} (h : Box3 w b x y z) : b < w.heap.size := (Array.getElem?_eq_some_iff.1 h).1

theorem Box3.cells {w : World} {b : Nat} {x y z : Value} (h : Box3 w b x y z) : w.cell? ⟨b, 0, none⟩ = some x ∧ w.cell? ⟨b, 1, none⟩ = some y ∧ w.cell? ⟨b, 2, none⟩ = some z :=
  ⟨by rw [cell_of_row w b 0 _ 204 (0, 0) h]; rfl, by rw [cell_of_row w b 1 _ 204 (0, 0) h]; rfl, by rw [cell_of_row w b 2 _ 204 (0, 0) h]; rfl⟩

theorem Box3.frozen {w : World} {b : Nat} {x y z : Value} (h : Box3 w b x y z) (j : Nat) : w.frozen? ⟨b, j, none⟩ = false := frozen_of_row w b j _ 204 h

theorem Box3.alloc {w : World} {b : Nat} {x y z : Value} (h : Box3 w b x y z) (o : Obj) : Box3 (w.alloc o) b x y z := (Below.heap_alloc w o b h.lt).trans h

theorem Box3.new (w : World) (x y z : Value) : Box3 (w.alloc (.cells #[x, y, z] 204)) w.heap.size x y z := heap_alloc_new _ _

theorem Box3.set0 {w : World} {b : Nat} {x y z : Value} (h : Box3 w b x y z) (u : Value) : Box3 (w.setCell ⟨b, 0, none⟩ u) b u y z := by
  have := heap_setCell_same w b 0 _ 204 u h
  exact this

theorem Box3.set1 {w : World} {b : Nat} {x y z : Value} (h : Box3 w b x y z) (u : Value) : Box3 (w.setCell ⟨b, 1, none⟩ u) b x u z := by
  have := heap_setCell_same w b 1 _ 204 u h
  exact this

theorem Box3.set2 {w : World} {b : Nat} {x y z : Value} (h : Box3 w b x y z) (u : Value) : Box3 (w.setCell ⟨b, 2, none⟩ u) b x y u := by
  have := heap_setCell_same w b 2 _ 204 u h
  exact this

theorem Box3.other {w : World} {b c j : Nat} {x y z : Value} (h : Box3 w b x y z) (hne : b ≠ c) (u : Value) : Box3 (w.setCell ⟨c, j, none⟩ u) b x y z :=
  (Below.heap_setCell w ⟨c, j, none⟩ u b hne).trans h

theorem size_setC (w : World) (a : Addr) (v : Value) : (w.setCell a v).heap.size = w.heap.size := by simp [World.setCell]

theorem Box3.below {w w' : World} {b : Nat} {x y z : Value} (h : Box3 w b x y z) (hb : Below w.heap.size w w') : Box3 w' b x y z := (hb.block b h.lt).trans h

theorem dpOf_take_succ (ks : List Sp) (j : Nat) (h : j < ks.length) : dpOf (ks.take (j + 1)) = max (dpOf (ks.take j)) (ks[j].dp + 1) := by
  unfold dpOf
  rw [List.take_succ_eq_append_getElem h, List.foldl_append]
  rfl

set_option maxHeartbeats 1000000 in
theorem spanOver_any (ks : List Sp) (n i : Nat) (HN : Hid (ks.length = n)) (ao : Option Addr) (cap : Nat) (w : World) (hx : Sps w ao ks) (hn : n ≤ 60000) (_hi : i ≤ 60000) (hd : ∀ x ∈ ks, x.dp ≤ 60000) :
    Calls Tryz.prog 114 #[.slice ao n cap, .int .i64 (i : Int)] w fun e w' =>
      e = .returned (.agg #[.int .i64 ((over ks i).fr : Int), .int .i64 ((over ks i).rt : Int), .int .i64 ((over ks i).dp : Int)]) ∧ Below w.heap.size w w' := by
  by_cases h0 : 0 < n
  · have h0k : 0 < ks.length := by have := HN.out; omega
    obtain ⟨b, o, rfl, hs0⟩ := hx 0 h0k
    have c0 := hs0.1
    simp only [Nat.zero_mul, Nat.add_zero] at c0
    have hlb : b < w.heap.size := lt_of_cell c0
    have HFR : Hid (frOf ks i = ks[0].fr) := by
      show frOf ks i = ks[0].fr
      cases ks with
      | nil => simp at h0k
      | cons k l => rfl
    go_enter Tryz.func114, Tryz.ntmps114
    go_wp2
    go_loopw [21] (fun p wr => ∃ (j : Nat), j ≤ n ∧ p = .int .i64 j ∧ Box3 wr w.heap.size (.int .i64 0) (.int .i64 0) (.int .i64 0) ∧ Box3 wr (w.heap.size + 1) (.int .i64 (ks[0].fr : Int)) (.int .i64 (i : Int)) (.int .i64 (dpOf (ks.take j) : Int)) ∧ Below w.heap.size w wr) (fun p _ => n - (intOf p).toNat)
    case atStart =>
      refine ⟨0, Nat.zero_le _, rfl, (Box3.new w _ _ _).alloc _, ?_, ((Below.refl _ _).alloc (Nat.le_refl _) _).alloc (by simp) _⟩
      have := Box3.new (w.alloc (Obj.cells #[Value.int IntKind.i64 0, Value.int IntKind.i64 0, Value.int IntKind.i64 0] 204)) (.int .i64 (ks[0].fr : Int)) (.int .i64 (i : Int)) (.int .i64 1)
      rw [World.size_alloc] at this
      exact this
    case round =>
      obtain ⟨j, hj, rfl, b0, b1, hb⟩ := hrel
      have hl0 := b0.lt
      have hl1 := b1.lt
      by_cases hlt : j < n
      · have hltk : j < ks.length := by have := HN.out; omega
        obtain ⟨bb, oo, e, hsj⟩ := hx.below hb j hltk
        simp only [Option.some.injEq, Addr.mk.injEq, and_true] at e
        obtain ⟨rfl, rfl⟩ := e
        obtain ⟨s, hs⟩ : ∃ s, ks[j] = s := ⟨_, rfl⟩
        rw [hs] at hsj
        obtain ⟨e0, e1, e2⟩ := hsj
        have hsd : s.dp ≤ 60000 := by rw [← hs]; exact hd _ (List.getElem_mem hltk)
        have HDS : Hid (dpOf (ks.take (j + 1)) = max (dpOf (ks.take j)) (s.dp + 1)) := by rw [← hs]; exact dpOf_take_succ ks j hltk
        have hdb := (dpOf_le (ks.take j) 60000 (fun x hx => hd x (List.mem_of_mem_take hx))).2
        obtain ⟨dd, hdd⟩ : ∃ dd, dpOf (ks.take j) = dd := ⟨_, rfl⟩
        have HDD : Hid (dpOf (ks.take j) = dd) := hdd
        rw [hdd] at b1 hdb
        obtain ⟨q0, q1, q2⟩ := b1.cells
        have f2 := b1.frozen 2
        clear hx hd hs hdd hs0 c0
        go_wp2
        have hv : (if (dd : Int) < (s.dp : Int) + 1 then (s.dp : Int) + 1 else (dd : Int)) = ((dpOf (ks.take (j + 1)) : Nat) : Int) := by
          rw [HDS.out, HDD.out]
          split <;> omega
        go_roundw
        case rel => exact ⟨j + 1, by omega, by go_num, (b0.other (by omega) _).alloc _, by have := (b1.set2 (.int .i64 (if (dd : Int) < (s.dp : Int) + 1 then (s.dp : Int) + 1 else (dd : Int)))).alloc (Obj.cells #[Value.int IntKind.i64 ↑s.fr, Value.int IntKind.i64 ↑s.rt, Value.int IntKind.i64 ↑s.dp] 204); rw [hv] at this ⊢; exact this, (hb.setCell (p := ⟨w.heap.size + 1, 2, none⟩) (Nat.le_succ _) _).alloc (by rw [size_setC]; exact hb.size) _⟩
        case measure => simp [intOf]; omega
      · have HE : Hid (ks.take j = ks) := List.take_of_length_le (by have := HN.out; omega)
        rw [HE.out] at b1
        obtain ⟨q0, q1, q2⟩ := b1.cells
        obtain ⟨p0, p1, p2⟩ := b0.cells
        have f0 := b0.frozen 0
        have f1 := b0.frozen 1
        have f2 := b0.frozen 2
        have HB : Below w.heap.size w (((wr.setCell ⟨w.heap.size, 0, none⟩ (.int .i64 (ks[0].fr : Int))).setCell ⟨w.heap.size, 1, none⟩ (.int .i64 (i : Int))).setCell ⟨w.heap.size, 2, none⟩ (.int .i64 (dpOf ks : Int))) :=
          ((hb.setCell (p := ⟨w.heap.size, 0, none⟩) (Nat.le_refl _) _).setCell (p := ⟨w.heap.size, 1, none⟩) (Nat.le_refl _) _).setCell (p := ⟨w.heap.size, 2, none⟩) (Nat.le_refl _) _
        clear hx hd hs0 c0
        go_wp2
        refine bodyPost_ret (v := .agg #[.int .i64 (ks[0].fr : Int), .int .i64 (i : Int), .int .i64 (dpOf ks : Int)]) (by simp [results, Tryz.results114, go_sem, p0, p1, p2]) rfl ⟨?_, HB⟩
        rw [← HFR.out]
        rfl
  · have hk0 : ks = [] := List.eq_nil_of_length_eq_zero (by have := HN.out; omega)
    subst hk0
    have hn0 : n = 0 := by omega
    subst hn0
    clear hx hd
    go_enter Tryz.func114, Tryz.ntmps114
    go_wp2
    refine wp_loop_rounds 1 ?_
    rw [rounds_succ]
    go_wp2
    refine bodyPost_ret (v := .agg #[.int .i64 (i : Int), .int .i64 (i : Int), .int .i64 1]) (by simp [results, Tryz.results114, go_sem]) rfl ⟨rfl, ?_⟩
    exact ((Below.refl _ _).alloc (Nat.le_refl _) _).alloc (by simp) _

end Go.Proofs.YtahdmflbdmlfhaaGreatDoor

namespace Go.Proofs.YtahdmflbdmlfhaaGreatDoor

open Go.RowKit Go.Shelf

/-- The blocks that a round may turn: the caller's own. -/
def Mine (n₀ B : Nat) (k : Nat) : Prop := n₀ ≤ k ∧ k < B

/-- How a round's body may be left. -/
def leftAt {α : Type} (n₀ B : Nat) (I : List α → World → Prop) (Ix : Code → List α → World → Prop) (xs : List α) (W : World) : Exit → Act → World → Prop
  | .normal, _, W' => But (Mine n₀ B) W W' ∧ I xs W'
  | .ret, _, W' => But (Mine n₀ B) W W' ∧ Ix .ret xs W'
  | .exit id, _, W' => But (Mine n₀ B) W W' ∧ Ix (.exit id) xs W'
  | .goto t, _, W' => But (Mine n₀ B) W W' ∧ Ix (.goto t) xs W'
  | .panic _, _, _ => False
  | .outgrown, _, _ => False

/-- An iterator whose own memory lies beyond what lay when it was begun: it may write there; a round may turn the blocks of the caller from n₀ on, the record and the block for deferred calls among them, and no other. -/
def Iter {α : Type} (F : Fence) (n : Nat) (P : Program) (g : Nat) (lb : Array Value) (encs : α → Array Value) (S Sp : List α → Prop) (Fit : List α → α → Prop) (Rd : World → Prop) (N n₀ : Nat) (w : World) : Prop :=
  ∀ (J Jx : List α → World → Prop), (∀ s A C, J s A → Below (w.heap.size + 2) A C → J s C) → (∀ s A, J s A → Rd A) →
    (∀ pre x W1, J pre W1 → pre.length < N → Fit pre x → YieldAt F (n - 1) P (w.heap.size + 1) (encs x) W1 fun e W' =>
      (e = .returned (.bool true) ∧ J (pre ++ [x]) W' ∧ But (Mine n₀ (w.heap.size + 2)) W1 W') ∨ (e = .returned (.bool false) ∧ Jx (pre ++ [x]) W')) →
    ∀ W, Below w.heap.size w W → W.heap.size = w.heap.size + 2 → J [] W →
    CallsIn F n P g (#[.func (.yield (w.heap.size + 1)) #[] #[]] ++ lb) W fun e W' => (∃ v, e = .returned v) ∧ ((∃ xs, S xs ∧ J xs W') ∨ (∃ pre, Sp pre ∧ Jx pre W'))

theorem But.putObj {S : Nat → Prop} (W : World) (l : Nat) (o : Obj) (hl : S l) : But S W (W.putObj l o) :=
  ⟨rfl, rfl, rfl, by simp, fun k _ hk => World.putObj_heap_other (fun e => hk (by rw [e]; exact hl))⟩

/-- 'for .. := range g { .. }' over such an iterator. -/
theorem wpIn_range {F : Fence} {n : Nat} {P : Program} {α : Type} {g : Operand} {ps : Array Tmp} {assign body : Code} {Q : Exit → Act → World → Prop} {a : Act} {w : World}
    (hro : F.round = none) (h1 : 1 ≤ n) {gf : Nat} {lb : Array Value} (hg : a.eval g = .func (.func gf) #[] lb) (hFg : F.fn gf) (eg : ∀ args w, (callFunc gf args).run P w = .ok (.enter gf args) w)
    {encs : α → Array Value} {S Sp : List α → Prop} {Fit : List α → α → Prop} {Rd : World → Prop} {N : Nat} (n₀ : Nat) (hn₀ : n₀ ≤ w.heap.size) (hseq : Iter F (n - 1) P gf lb encs S Sp Fit Rd N n₀ w) (hps : ∀ x, (encs x).size = ps.size)
    (I : List α → World → Prop) (Ix : Code → List α → World → Prop) (hI : ∀ s A C, I s A → Below w.heap.size A C → I s C) (hIx : ∀ c s A C, Ix c s A → But (· = w.heap.size + 1) A C → Ix c s C) (hRd : ∀ s A, I s A → Rd A) (h0 : I [] w)
    (hround : ∀ (pre : List α) (x : α) (W : World), I pre W → pre.length < N → Fit pre x → w.heap.size + 1 < W.heap.size →
      assign.wpIn (F.inRound (w.heap.size + 1)) (n - 1 - 1) P
        (Exit.then (fun a' Wa => But (Mine n₀ w.heap.size) W Wa ∧ ∀ Wb, But (· = w.heap.size + 1) Wa Wb → body.wpIn (F.inRound (w.heap.size + 1)) (n - 1 - 1) P (leftAt n₀ w.heap.size I Ix (pre ++ [x]) Wb) a' Wb) (fun _ _ _ => False))
        { tmps := (ps.zip (encs x)).foldl (fun t (p, v) => t.setIfInBounds p v) a.tmps, defers := [] } W)
    (hdone : ∀ (xs : List α) (W : World), S xs → I xs W → W.heap[w.heap.size]? = some (.deferred (some [])) → Q .normal { a with defers := { target := .collected w.heap.size, args := #[] } :: a.defers } W)
    (hstop : ∀ (c : Code) (pre : List α) (W : World), Sp pre → Ix c pre W → W.heap[w.heap.size]? = some (.deferred (some [])) → c.wpIn F n P Q { a with defers := { target := .collected w.heap.size, args := #[] } :: a.defers } W) :
    (Code.rangeFunc g ps assign body).wpIn F n P Q a w := by
  refine wpIn_rangeFunc ?_
  intro fn hfn
  rw [hro]
  obtain ⟨B, hB⟩ : ∃ B, B = w.heap.size := ⟨_, rfl⟩
  obtain ⟨rec, hrec⟩ : ∃ rec : LoopState → Option Code → Loop, rec = fun st pe => { state := st, pending := pe, fn, tmps := a.tmps, params := ps, assign, body, defers := w.heap.size } := ⟨_, rfl⟩
  obtain ⟨W1, hW1⟩ : ∃ W1, (w.alloc (.deferred (some []))).alloc (.loop (rec .ready none)) = W1 := ⟨_, rfl⟩
  have hs1 : W1.heap.size = w.heap.size + 2 := by rw [← hW1]; simp
  have hb1 : Below w.heap.size w W1 := by rw [← hW1]; exact ((Below.refl _ w).alloc (Nat.le_refl _) _).alloc (by simp) _
  have hL1 : W1.heap[w.heap.size + 1]? = some (.loop (rec .ready none)) := by
    rw [← hW1]; have := World.alloc_heap_new (w.alloc (.deferred (some []))) (.loop (rec .ready none)); rwa [World.size_alloc] at this
  have hK1 : W1.heap[w.heap.size]? = some (.deferred (some [])) := by
    rw [← hW1]; exact (Below.heap_alloc _ _ _ (by simp)).trans (World.alloc_heap_new w _)
  refine ⟨w.heap.size + 1, [{ target := .collected w.heap.size, args := #[] }], W1, { target := .fn (.func gf) lb, args := #[.func (.yield (w.heap.size + 1)) #[] #[]] }, W1, gf,
    #[.func (.yield (w.heap.size + 1)) #[] #[]] ++ lb, W1, ?_, ?_, ?_, ?_, fun _ => h1, ?_⟩
  · rw [← hW1, hrec]; exact run_enterLoop_outer _ _ _ _ _
  · simp only [resolve, hg]
    simp [go_sem]
  · intro f' hf'; simp [Target.leads] at hf'; subst hf'; exact hFg
  · simp [invoke, go_sem, eg]
  · refine (hseq
      (fun pre W => I pre W ∧ W.heap[w.heap.size + 1]? = some (.loop (rec .ready none)) ∧ W.heap[w.heap.size]? = some (.deferred (some [])))
      (fun pre W => ∃ c, Ix c pre W ∧ W.heap[w.heap.size + 1]? = some (.loop (rec .done (some c))) ∧ W.heap[w.heap.size]? = some (.deferred (some [])))
      (fun s A C hs hb => ⟨hI s A C hs.1 (hb.mono (by omega)), (hb.block _ (by omega)).trans hs.2.1, (hb.block _ (by omega)).trans hs.2.2⟩)
      (fun s A hs => hRd s A hs.1)
      ?_ W1 hb1 hs1 ⟨hI _ _ _ h0 hb1, hL1, hK1⟩).mono ?_
    · rintro pre x W ⟨hi, hl, hk⟩ hlen hfit
      have hlt : w.heap.size + 1 < W.heap.size := (Array.getElem?_eq_some_iff.1 hl).1
      have hy := run_yield (P := P) (args := encs x) hl (by rw [hrec]; exact hps x)
      rw [hrec] at hy
      refine ⟨fn, _, assign, body, hy, roundIn_of_wpIn hfn (wpIn_mono (hround pre x W hi hlen hfit hlt) ?_)⟩
      clear hy
      intro e a' Wa hp
      cases e with
      | normal =>
        obtain ⟨hba, hbody⟩ := hp
        have hla := (hba.block (w.heap.size + 1) hlt (fun h => by have := h.2; omega)).trans hl
        have hka := (hba.block w.heap.size (by omega) (fun h => by have := h.2; omega)).trans hk
        have hlta : w.heap.size + 1 < Wa.heap.size := (Array.getElem?_eq_some_iff.1 hla).1
        refine ⟨_, run_beginRound hla (by rw [hrec]), ?_⟩
        have hbb : But (· = w.heap.size + 1) Wa (Wa.putObj (w.heap.size + 1) (.loop { rec .ready none with state := .busy })) := But.putObj _ _ _ rfl
        have hl2 : (Wa.putObj (w.heap.size + 1) (.loop { rec .ready none with state := .busy })).heap[w.heap.size + 1]? = some (.loop { rec .ready none with state := .busy }) := World.putObj_heap_same hlta
        have hk2 : (Wa.putObj (w.heap.size + 1) (.loop { rec .ready none with state := .busy })).heap[w.heap.size]? = some (.deferred (some [])) := (World.putObj_heap_other (by omega)).trans hka
        have hab : But (Mine n₀ (w.heap.size + 2)) W (Wa.putObj (w.heap.size + 1) (.loop { rec .ready none with state := .busy })) :=
          (hba.mono (fun k hk => ⟨hk.1, by have := hk.2; omega⟩)).trans (hbb.mono (fun k hk => ⟨by omega, by omega⟩))
        refine wpIn_mono (hbody _ hbb) ?_
        have fin : ∀ (jump : Option Code) (W3 : World), But (Mine n₀ w.heap.size) (Wa.putObj (w.heap.size + 1) (.loop { rec .ready none with state := .busy })) W3 →
            (Instr.endRound (w.heap.size + 1) jump).run P W3 = .ok (.bool jump.isNone) (W3.putObj (w.heap.size + 1) (.loop (rec (if jump.isNone then .ready else .done) jump))) ∧
            (W3.putObj (w.heap.size + 1) (.loop (rec (if jump.isNone then .ready else .done) jump))).heap[w.heap.size + 1]? = some (.loop (rec (if jump.isNone then .ready else .done) jump)) ∧
            (W3.putObj (w.heap.size + 1) (.loop (rec (if jump.isNone then .ready else .done) jump))).heap[w.heap.size]? = some (.deferred (some [])) ∧
            But (· = w.heap.size + 1) W3 (W3.putObj (w.heap.size + 1) (.loop (rec (if jump.isNone then .ready else .done) jump))) ∧
            But (Mine n₀ (w.heap.size + 2)) W (W3.putObj (w.heap.size + 1) (.loop (rec (if jump.isNone then .ready else .done) jump))) := fun jump W3 hk3 => by
          have hl3 := (hk3.block (w.heap.size + 1) (by simp; omega) (fun h => by have := h.2; omega)).trans hl2
          have hd3 := (hk3.block w.heap.size (by simp; omega) (fun h => by have := h.2; omega)).trans hk2
          have hr := run_endRound (P := P) jump hl3
          have hlt3 := (Array.getElem?_eq_some_iff.1 hl3).1
          have hput : But (· = w.heap.size + 1) W3 (W3.putObj (w.heap.size + 1) (.loop (rec (if jump.isNone then .ready else .done) jump))) := But.putObj _ _ _ rfl
          refine ⟨by rw [hrec] at hr ⊢; exact hr, World.putObj_heap_same hlt3, (World.putObj_heap_other (by omega)).trans hd3, hput, ?_⟩
          exact (hab.trans (hk3.mono (fun k hk => ⟨hk.1, by have := hk.2; omega⟩))).trans (hput.mono (fun k hk => ⟨by omega, by omega⟩))
        rintro e a3 W3 hp
        cases e with
        | normal =>
          obtain ⟨hk3, hi3⟩ := hp
          obtain ⟨hr, hl4, hk4, hb4, hbut⟩ := fin none W3 hk3
          have hs3 : w.heap.size ≤ W3.heap.size := by have := hk3.size; simp at this; omega
          exact ⟨_, _, hr, .inl ⟨rfl, ⟨hI _ _ _ hi3 (hb4.below hs3 (fun k hk => by omega)), hl4, hk4⟩, hbut⟩⟩
        | ret =>
          obtain ⟨hk3, hi3⟩ := hp
          obtain ⟨hr, hl4, hk4, hb4, hbut⟩ := fin (some .ret) W3 hk3
          exact ⟨_, _, hr, .inr ⟨rfl, .ret, hIx _ _ _ _ hi3 hb4, hl4, hk4⟩⟩
        | exit id =>
          obtain ⟨hk3, hi3⟩ := hp
          obtain ⟨hr, hl4, hk4, hb4, hbut⟩ := fin (some (.exit id)) W3 hk3
          exact ⟨_, _, hr, .inr ⟨rfl, .exit id, hIx _ _ _ _ hi3 hb4, hl4, hk4⟩⟩
        | goto t =>
          obtain ⟨hk3, hi3⟩ := hp
          obtain ⟨hr, hl4, hk4, hb4, hbut⟩ := fin (some (.goto t)) W3 hk3
          exact ⟨_, _, hr, .inr ⟨rfl, .goto t, hIx _ _ _ _ hi3 hb4, hl4, hk4⟩⟩
        | panic ch => exact hp.elim
        | outgrown => exact hp.elim
      | ret => exact hp.elim
      | exit id => exact hp.elim
      | goto t => exact hp.elim
      | panic ch => exact hp.elim
      | outgrown => exact hp.elim
    · rintro e W2 ⟨⟨v, rfl⟩, (⟨xs, hS, hi, hl, hk⟩ | ⟨pre, hSp, c, hi, hl, hk⟩)⟩
      · have hlt2 := (Array.getElem?_eq_some_iff.1 hl).1
        have hput : ∀ o, Below w.heap.size W2 (W2.putObj (w.heap.size + 1) o) := fun o => (But.putObj (S := (· = w.heap.size + 1)) W2 _ o rfl).below (by omega) (fun k hk => by omega)
        exact ⟨none, _, by have := run_endLoop (P := P) hl (by rw [hrec]; simp); rw [hrec] at this; exact this, hdone xs _ hS (hI _ _ _ hi (hput _)) ((World.putObj_heap_other (by omega)).trans hk)⟩
      · have hput : ∀ o, But (· = w.heap.size + 1) W2 (W2.putObj (w.heap.size + 1) o) := fun o => But.putObj W2 _ o rfl
        exact ⟨some c, _, by have := run_endLoop (P := P) hl (by rw [hrec]; simp); rw [hrec] at this; exact this, hstop c pre _ hSp (hIx _ _ _ _ hi (hput _)) ((World.putObj_heap_other (by omega)).trans hk)⟩

/-- The blocks that a round may turn: the caller's own from before the loop, and those of U, which it made in rounds. -/
def Turns (n₀ B : Nat) (U : Nat → Prop) (k : Nat) : Prop := n₀ ≤ k ∧ (k < B ∨ U k)

/-- As 'Iter', for rounds that go on writing into blocks that earlier rounds made. -/
def Iter2 {α : Type} (F : Fence) (n : Nat) (P : Program) (g : Nat) (lb : Array Value) (encs : α → Array Value) (S Sp : List α → Prop) (Fit : List α → α → Prop) (Rd : World → Prop) (N n₀ : Nat) (w : World) : Prop :=
  ∀ (J : List α → (Nat → Prop) → World → Prop) (Jx : List α → World → Prop), (∀ s U A C, J s U A → But (fun k => w.heap.size + 2 ≤ k ∧ ¬ U k) A C → J s U C) → (∀ s U A, J s U A → (∀ k, U k → k < A.heap.size) ∧ Rd A) →
    (∀ pre U x W1, J pre U W1 → pre.length < N → Fit pre x → YieldAt F (n - 1) P (w.heap.size + 1) (encs x) W1 fun e W' =>
      (e = .returned (.bool true) ∧ (∃ U', J (pre ++ [x]) U' W' ∧ ∀ k, U' k → U k ∨ W1.heap.size ≤ k) ∧ But (Turns n₀ (w.heap.size + 2) U) W1 W') ∨ (e = .returned (.bool false) ∧ Jx (pre ++ [x]) W')) →
    ∀ W, Below w.heap.size w W → W.heap.size = w.heap.size + 2 → J [] (fun _ => False) W →
    CallsIn F n P g (#[.func (.yield (w.heap.size + 1)) #[] #[]] ++ lb) W fun e W' => (∃ v, e = .returned v) ∧ ((∃ xs U, S xs ∧ J xs U W') ∨ (∃ pre, Sp pre ∧ Jx pre W'))

theorem Iter2.iter {α : Type} {F : Fence} {n : Nat} {P : Program} {g : Nat} {lb : Array Value} {encs : α → Array Value} {S Sp : List α → Prop} {Fit : List α → α → Prop} {Rd : World → Prop} {N n₀ : Nat} {w : World} (h : Iter2 F n P g lb encs S Sp Fit Rd N n₀ w) : Iter F n P g lb encs S Sp Fit Rd N n₀ w := by
  intro J Jx hJ hRd hY W hW hWs h0
  have hsz : w.heap.size + 2 ≤ W.heap.size := by omega
  refine (h (fun s U A => J s A ∧ (∀ k, ¬ U k) ∧ w.heap.size + 2 ≤ A.heap.size) Jx ?_ ?_ ?_ W hW hWs ⟨h0, fun _ h => h, hsz⟩).mono ?_
  · rintro s U A C ⟨hj, hu, hs⟩ hb
    exact ⟨hJ s A C hj (hb.below hs (fun k hk => hk.1)), hu, Nat.le_trans hs hb.size⟩
  · rintro s U A ⟨hj, hu, _⟩
    exact ⟨fun k hk => (hu k hk).elim, hRd s A hj⟩
  · rintro pre U x W1 ⟨hj, hu, hs⟩ hlen hfit
    obtain ⟨fn, tmps, assign, body, hy, hR⟩ := hY pre x W1 hj hlen hfit
    refine ⟨fn, tmps, assign, body, hy, hR.mono ?_⟩
    rintro e W' (⟨rfl, hj', hb'⟩ | ⟨rfl, hx⟩)
    · exact .inl ⟨rfl, ⟨fun _ => False, ⟨hj', fun _ h => h, Nat.le_trans hs hb'.size⟩, fun _ h => h.elim⟩, hb'.mono (fun k hk => ⟨hk.1, Or.inl hk.2⟩)⟩
    · exact .inr ⟨rfl, hx⟩
  · rintro e W' ⟨hv, (⟨xs, U, hS, hj, _, _⟩ | hx)⟩
    · exact ⟨hv, .inl ⟨xs, hS, hj⟩⟩
    · exact ⟨hv, .inr hx⟩

end Go.Proofs.YtahdmflbdmlfhaaGreatDoor

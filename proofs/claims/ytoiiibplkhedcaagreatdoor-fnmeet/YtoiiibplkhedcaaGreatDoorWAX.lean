import Derived.Test.YtoiiibplkhedcaaGreatDoorWAW
import Derived.RangeFuncNested
import Derived.RangeFuncBound
import Derived.RangeFuncCalls
import Derived.RangeFuncLeaves
import Derived.Shelf.Abstract
set_option maxRecDepth 20000
set_option maxHeartbeats 4000000
namespace Go.Proofs.YtoiiibplkhedcaaGreatDoor
open Go.RowKit
def SpAt (w : World) (b o : Nat) (s : Sp) : Prop :=
  w.cell? ⟨b, o, none⟩ = some (.int .i64 (s.fr : Int)) ∧ w.cell? ⟨b, o + 1, none⟩ = some (.int .i64 (s.rt : Int)) ∧ w.cell? ⟨b, o + 2, none⟩ = some (.int .i64 (s.dp : Int))
theorem SpAt.below {w w' : World} {b o : Nat} {s : Sp} (h : SpAt w b o s) (hb : Below w.heap.size w w') : SpAt w' b o s := by
  have hlt : b < w.heap.size := Qaa h.1
  exact ⟨(hb.cell (p := ⟨b, o, none⟩) hlt).trans h.1, (hb.cell (p := ⟨b, o + 1, none⟩) hlt).trans h.2.1, (hb.cell (p := ⟨b, o + 2, none⟩) hlt).trans h.2.2⟩
def Sps (w : World) (ao : Option Addr) (ks : List Sp) : Prop :=
  ∀ i (h : i < ks.length), ∃ b o, ao = some ⟨b, o, none⟩ ∧ SpAt w b (o + i * 3) ks[i]
theorem Sps.below {w w' : World} {ao : Option Addr} {ks : List Sp} (h : Sps w ao ks) (hb : Below w.heap.size w w') : Sps w' ao ks := by
  intro i hi
  obtain ⟨b, o, e, hn⟩ := h i hi
  exact ⟨b, o, e, hn.below hb⟩
def Box3 (w : World) (b : Nat) (x y z : Value) : Prop := w.heap[b]? = some (.cells #[x, y, z] 199 (0, 0))
theorem Box3.lt {w : World} {b : Nat} {x y z : Value} (h : Box3 w b x y z) : b < w.heap.size := (Array.getElem?_eq_some_iff.1 h).1
theorem Box3.cells {w : World} {b : Nat} {x y z : Value} (h : Box3 w b x y z) : w.cell? ⟨b, 0, none⟩ = some x ∧ w.cell? ⟨b, 1, none⟩ = some y ∧ w.cell? ⟨b, 2, none⟩ = some z :=
  ⟨by rw [cell_of_row w b 0 _ 199 (0, 0) h]; rfl, by rw [cell_of_row w b 1 _ 199 (0, 0) h]; rfl, by rw [cell_of_row w b 2 _ 199 (0, 0) h]; rfl⟩
theorem Box3.frozen {w : World} {b : Nat} {x y z : Value} (h : Box3 w b x y z) (j : Nat) : w.frozen? ⟨b, j, none⟩ = false := frozen_of_row w b j _ 199 h
theorem Box3.alloc {w : World} {b : Nat} {x y z : Value} (h : Box3 w b x y z) (o : Obj) : Box3 (w.alloc o) b x y z := (Below.heap_alloc w o b h.lt).trans h
theorem Box3.new (w : World) (x y z : Value) : Box3 (w.alloc (.cells #[x, y, z] 199)) w.heap.size x y z := heap_alloc_new _ _
theorem Box3.set0 {w : World} {b : Nat} {x y z : Value} (h : Box3 w b x y z) (u : Value) : Box3 (w.setCell ⟨b, 0, none⟩ u) b u y z := by
  have := heap_setCell_same w b 0 _ 199 u h
  exact this
theorem Box3.set1 {w : World} {b : Nat} {x y z : Value} (h : Box3 w b x y z) (u : Value) : Box3 (w.setCell ⟨b, 1, none⟩ u) b x u z := by
  have := heap_setCell_same w b 1 _ 199 u h
  exact this
theorem Box3.set2 {w : World} {b : Nat} {x y z : Value} (h : Box3 w b x y z) (u : Value) : Box3 (w.setCell ⟨b, 2, none⟩ u) b x y u := by
  have := heap_setCell_same w b 2 _ 199 u h
  exact this
theorem Box3.other {w : World} {b c j : Nat} {x y z : Value} (h : Box3 w b x y z) (hne : b ≠ c) (u : Value) : Box3 (w.setCell ⟨c, j, none⟩ u) b x y z :=
  (Below.heap_setCell w ⟨c, j, none⟩ u b hne).trans h
theorem Qvk (w : World) (a : Addr) (v : Value) : (w.setCell a v).heap.size = w.heap.size := by simp [World.setCell]
theorem Qkz (ks : List Sp) (j : Nat) (h : j < ks.length) : dpOf (ks.take (j + 1)) = max (dpOf (ks.take j)) (ks[j].dp + 1) := by
  unfold dpOf
  rw [List.take_succ_eq_append_getElem h, List.foldl_append]
  rfl
theorem Qio (ks : List Sp) (n i : Nat) (HN : Hid (ks.length = n)) (ao : Option Addr) (cap : Nat) (w : World) (hx : Sps w ao ks) (hn : n ≤ 60000) (_hi : i ≤ 60000) (hd : ∀ x ∈ ks, x.dp ≤ 60000) :
    Calls Tryz.prog 125 #[.slice ao n cap, .int .i64 (i : Int)] w fun e w' =>
      e = .returned (.agg #[.int .i64 ((over ks i).fr : Int), .int .i64 ((over ks i).rt : Int), .int .i64 ((over ks i).dp : Int)]) ∧ Below w.heap.size w w' := by
  by_cases h0 : 0 < n
  · have h0k : 0 < ks.length := by have := HN.out; omega
    obtain ⟨b, o, rfl, hs0⟩ := hx 0 h0k
    have c0 := hs0.1
    simp only [Nat.zero_mul, Nat.add_zero] at c0
    have hlb : b < w.heap.size := Qaa c0
    have HFR : Hid (frOf ks i = ks[0].fr) := by
      show frOf ks i = ks[0].fr
      cases ks with
      | nil => simp at h0k
      | cons k l => rfl
    go_enter Tryz.func125, Tryz.ntmps125
    go_wp2
    go_loopw [21] (fun p wr => ∃ (j : Nat), j ≤ n ∧ p = .int .i64 j ∧ Box3 wr w.heap.size (.int .i64 0) (.int .i64 0) (.int .i64 0) ∧ Box3 wr (w.heap.size + 1) (.int .i64 (ks[0].fr : Int)) (.int .i64 (i : Int)) (.int .i64 (dpOf (ks.take j) : Int)) ∧ Below w.heap.size w wr) (fun p _ => n - (intOf p).toNat)
    case atStart =>
      refine ⟨0, Nat.zero_le _, rfl, (Box3.new w _ _ _).alloc _, ?_, ((Below.refl _ _).alloc (Nat.le_refl _) _).alloc (by simp) _⟩
      have := Box3.new (w.alloc (Obj.cells #[Value.int IntKind.i64 0, Value.int IntKind.i64 0, Value.int IntKind.i64 0] 199)) (.int .i64 (ks[0].fr : Int)) (.int .i64 (i : Int)) (.int .i64 1)
      rw [World.size_alloc] at this
      exact this
    case round =>
      obtain ⟨j, hj, rfl, b0, b1, hb⟩ := hrel
      have hl0 := b0.lt
      have hl1 := b1.lt
      by_cases hlt : j < n
      · have hltk : j < ks.length := by have := HN.out; omega
        obtain ⟨bb, oo, e, hsj⟩ := hx.below hb j hltk
        simp only [Option.some.injEq, Addr.mk.injEq, and_true] at e
        obtain ⟨rfl, rfl⟩ := e
        obtain ⟨s, hs⟩ : ∃ s, ks[j] = s := ⟨_, rfl⟩
        rw [hs] at hsj
        obtain ⟨e0, e1, e2⟩ := hsj
        have hsd : s.dp ≤ 60000 := by rw [← hs]; exact hd _ (List.getElem_mem hltk)
        have HDS : Hid (dpOf (ks.take (j + 1)) = max (dpOf (ks.take j)) (s.dp + 1)) := by rw [← hs]; exact Qkz ks j hltk
        have hdb := (Qxs (ks.take j) 60000 (fun x hx => hd x (List.mem_of_mem_take hx))).2
        obtain ⟨dd, hdd⟩ : ∃ dd, dpOf (ks.take j) = dd := ⟨_, rfl⟩
        have HDD : Hid (dpOf (ks.take j) = dd) := hdd
        rw [hdd] at b1 hdb
        obtain ⟨q0, q1, q2⟩ := b1.cells
        have f2 := b1.frozen 2
        clear hx hd hs hdd hs0 c0
        go_wp2
        have hv : (if (dd : Int) < (s.dp : Int) + 1 then (s.dp : Int) + 1 else (dd : Int)) = ((dpOf (ks.take (j + 1)) : Nat) : Int) := by
          rw [HDS.out, HDD.out]
          split <;> omega
        go_roundw
        case rel => exact ⟨j + 1, by omega, by go_num, (b0.other (by omega) _).alloc _, by have := (b1.set2 (.int .i64 (if (dd : Int) < (s.dp : Int) + 1 then (s.dp : Int) + 1 else (dd : Int)))).alloc (Obj.cells #[Value.int IntKind.i64 ↑s.fr, Value.int IntKind.i64 ↑s.rt, Value.int IntKind.i64 ↑s.dp] 199); rw [hv] at this ⊢; exact this, (hb.setCell (p := ⟨w.heap.size + 1, 2, none⟩) (Nat.le_succ _) _).alloc (by rw [Qvk]; exact hb.size) _⟩
        case measure => simp [intOf]; omega
      · have HE : Hid (ks.take j = ks) := List.take_of_length_le (by have := HN.out; omega)
        rw [HE.out] at b1
        obtain ⟨q0, q1, q2⟩ := b1.cells
        obtain ⟨p0, p1, p2⟩ := b0.cells
        have f0 := b0.frozen 0
        have f1 := b0.frozen 1
        have f2 := b0.frozen 2
        have HB : Below w.heap.size w (((wr.setCell ⟨w.heap.size, 0, none⟩ (.int .i64 (ks[0].fr : Int))).setCell ⟨w.heap.size, 1, none⟩ (.int .i64 (i : Int))).setCell ⟨w.heap.size, 2, none⟩ (.int .i64 (dpOf ks : Int))) :=
          ((hb.setCell (p := ⟨w.heap.size, 0, none⟩) (Nat.le_refl _) _).setCell (p := ⟨w.heap.size, 1, none⟩) (Nat.le_refl _) _).setCell (p := ⟨w.heap.size, 2, none⟩) (Nat.le_refl _) _
        clear hx hd hs0 c0
        go_wp2
        refine bodyPost_ret (v := .agg #[.int .i64 (ks[0].fr : Int), .int .i64 (i : Int), .int .i64 (dpOf ks : Int)]) (by simp [results, Tryz.results125, go_sem, p0, p1, p2]) rfl ⟨?_, HB⟩
        rw [← HFR.out]
        rfl
  · have hk0 : ks = [] := List.eq_nil_of_length_eq_zero (by have := HN.out; omega)
    subst hk0
    have hn0 : n = 0 := by omega
    subst hn0
    clear hx hd
    go_enter Tryz.func125, Tryz.ntmps125
    go_wp2
    refine wp_loop_rounds 1 ?_
    rw [rounds_succ]
    go_wp2
    refine bodyPost_ret (v := .agg #[.int .i64 (i : Int), .int .i64 (i : Int), .int .i64 1]) (by simp [results, Tryz.results125, go_sem]) rfl ⟨rfl, ?_⟩
    exact ((Below.refl _ _).alloc (Nat.le_refl _) _).alloc (by simp) _
end Go.Proofs.YtoiiibplkhedcaaGreatDoor
namespace Go.Proofs.YtoiiibplkhedcaaGreatDoor
open Go.RowKit Go.Shelf
def Mine (n₀ B : Nat) (k : Nat) : Prop := n₀ ≤ k ∧ k < B
def Jdd {α : Type} (n₀ B : Nat) (I : List α → World → Prop) (Ix : Code → List α → World → Prop) (xs : List α) (W : World) : Exit → Act → World → Prop
  | .normal, _, W' => But (Mine n₀ B) W W' ∧ I xs W'
  | .ret, _, W' => But (Mine n₀ B) W W' ∧ Ix .ret xs W'
  | .exit id, _, W' => But (Mine n₀ B) W W' ∧ Ix (.exit id) xs W'
  | .goto t, _, W' => But (Mine n₀ B) W W' ∧ Ix (.goto t) xs W'
  | .panic _, _, _ => False
  | .outgrown, _, _ => False
def Iter {α : Type} (F : Fence) (n : Nat) (P : Program) (g : Nat) (lb : Array Value) (encs : α → Array Value) (S Sp : List α → Prop) (Fit : List α → α → Prop) (Rd : World → Prop) (N n₀ : Nat) (w : World) : Prop :=
  ∀ (J Jx : List α → World → Prop), (∀ s A C, J s A → Below (w.heap.size + 2) A C → J s C) → (∀ s A, J s A → Rd A) →
    (∀ pre x W1, J pre W1 → pre.length < N → Fit pre x → YieldAt F (n - 1) P (w.heap.size + 1) (encs x) W1 fun e W' =>
      (e = .returned (.bool true) ∧ J (pre ++ [x]) W' ∧ But (Mine n₀ (w.heap.size + 2)) W1 W') ∨ (e = .returned (.bool false) ∧ Jx (pre ++ [x]) W')) →
    ∀ W, Below w.heap.size w W → W.heap.size = w.heap.size + 2 → J [] W →
    CallsIn F n P g (#[.func (.yield (w.heap.size + 1)) #[] #[]] ++ lb) W fun e W' => (∃ v, e = .returned v) ∧ ((∃ xs, S xs ∧ J xs W') ∨ (∃ pre, Sp pre ∧ Jx pre W'))
theorem But.putObj {S : Nat → Prop} (W : World) (l : Nat) (o : Obj) (hl : S l) : But S W (W.putObj l o) :=
  ⟨rfl, rfl, rfl, by simp, fun k _ hk => World.putObj_heap_other (fun e => hk (by rw [e]; exact hl))⟩
theorem Qlc {F : Fence} {n : Nat} {P : Program} {α : Type} {g : Operand} {ps : Array Tmp} {assign body : Code} {Q : Exit → Act → World → Prop} {a : Act} {w : World}
    (hro : F.round = none) (h1 : 1 ≤ n) {gf : Nat} {lb : Array Value} (hg : a.eval g = .func (.func gf) #[] lb) (hFg : F.fn gf) (eg : ∀ args w, (callFunc gf args).run P w = .ok (.enter gf args) w)
    {encs : α → Array Value} {S Sp : List α → Prop} {Fit : List α → α → Prop} {Rd : World → Prop} {N : Nat} (n₀ : Nat) (hn₀ : n₀ ≤ w.heap.size) (hseq : Iter F (n - 1) P gf lb encs S Sp Fit Rd N n₀ w) (hps : ∀ x, (encs x).size = ps.size)
    (I : List α → World → Prop) (Ix : Code → List α → World → Prop) (hI : ∀ s A C, I s A → Below w.heap.size A C → I s C) (hIx : ∀ c s A C, Ix c s A → But (· = w.heap.size + 1) A C → Ix c s C) (hRd : ∀ s A, I s A → Rd A) (h0 : I [] w)
    (hround : ∀ (pre : List α) (x : α) (W : World), I pre W → pre.length < N → Fit pre x → w.heap.size + 1 < W.heap.size →
      assign.wpIn (F.inRound (w.heap.size + 1)) (n - 1 - 1) P
        (Exit.then (fun a' Wa => But (Mine n₀ w.heap.size) W Wa ∧ ∀ Wb, But (· = w.heap.size + 1) Wa Wb → body.wpIn (F.inRound (w.heap.size + 1)) (n - 1 - 1) P (Jdd n₀ w.heap.size I Ix (pre ++ [x]) Wb) a' Wb) (fun _ _ _ => False))
        { tmps := (ps.zip (encs x)).foldl (fun t (p, v) => t.setIfInBounds p v) a.tmps, defers := [] } W)
    (hdone : ∀ (xs : List α) (W : World), S xs → I xs W → W.heap[w.heap.size]? = some (.deferred (some [])) → Q .normal { a with defers := { target := .collected w.heap.size, args := #[] } :: a.defers } W)
    (hstop : ∀ (c : Code) (pre : List α) (W : World), Sp pre → Ix c pre W → W.heap[w.heap.size]? = some (.deferred (some [])) → c.wpIn F n P Q { a with defers := { target := .collected w.heap.size, args := #[] } :: a.defers } W) :
    (Code.rangeFunc g ps assign body).wpIn F n P Q a w := by
  refine wpIn_rangeFunc ?_
  intro fn hfn
  rw [hro]
  obtain ⟨B, hB⟩ : ∃ B, B = w.heap.size := ⟨_, rfl⟩
  obtain ⟨rec, hrec⟩ : ∃ rec : LoopState → Option Code → Loop, rec = fun st pe => { state := st, pending := pe, fn, tmps := a.tmps, params := ps, assign, body, defers := w.heap.size } := ⟨_, rfl⟩
  obtain ⟨W1, hW1⟩ : ∃ W1, (w.alloc (.deferred (some []))).alloc (.loop (rec .ready none)) = W1 := ⟨_, rfl⟩
  have hs1 : W1.heap.size = w.heap.size + 2 := by rw [← hW1]; simp
  have hb1 : Below w.heap.size w W1 := by rw [← hW1]; exact ((Below.refl _ w).alloc (Nat.le_refl _) _).alloc (by simp) _
  have hL1 : W1.heap[w.heap.size + 1]? = some (.loop (rec .ready none)) := by
    rw [← hW1]; have := World.alloc_heap_new (w.alloc (.deferred (some []))) (.loop (rec .ready none)); rwa [World.size_alloc] at this
  have hK1 : W1.heap[w.heap.size]? = some (.deferred (some [])) := by
    rw [← hW1]; exact (Below.heap_alloc _ _ _ (by simp)).trans (World.alloc_heap_new w _)
  refine ⟨w.heap.size + 1, [{ target := .collected w.heap.size, args := #[] }], W1, { target := .fn (.func gf) lb, args := #[.func (.yield (w.heap.size + 1)) #[] #[]] }, W1, gf,
    #[.func (.yield (w.heap.size + 1)) #[] #[]] ++ lb, W1, ?_, ?_, ?_, ?_, fun _ => h1, ?_⟩
  · rw [← hW1, hrec]; exact run_enterLoop_outer _ _ _ _ _
  · simp only [resolve, hg]
    simp [go_sem]
  · intro f' hf'; simp [Target.leads] at hf'; subst hf'; exact hFg
  · simp [invoke, go_sem, eg]
  · refine (hseq
      (fun pre W => I pre W ∧ W.heap[w.heap.size + 1]? = some (.loop (rec .ready none)) ∧ W.heap[w.heap.size]? = some (.deferred (some [])))
      (fun pre W => ∃ c, Ix c pre W ∧ W.heap[w.heap.size + 1]? = some (.loop (rec .done (some c))) ∧ W.heap[w.heap.size]? = some (.deferred (some [])))
      (fun s A C hs hb => ⟨hI s A C hs.1 (hb.mono (by omega)), (hb.block _ (by omega)).trans hs.2.1, (hb.block _ (by omega)).trans hs.2.2⟩)
      (fun s A hs => hRd s A hs.1)
      ?_ W1 hb1 hs1 ⟨hI _ _ _ h0 hb1, hL1, hK1⟩).mono ?_
    · rintro pre x W ⟨hi, hl, hk⟩ hlen hfit
      have hlt : w.heap.size + 1 < W.heap.size := (Array.getElem?_eq_some_iff.1 hl).1
      have hy := run_yield (P := P) (args := encs x) hl (by rw [hrec]; exact hps x)
      rw [hrec] at hy
      refine ⟨fn, _, assign, body, hy, roundIn_of_wpIn hfn (wpIn_mono (hround pre x W hi hlen hfit hlt) ?_)⟩
      clear hy
      intro e a' Wa hp
      cases e with
      | normal =>
        obtain ⟨hba, hbody⟩ := hp
        have hla := (hba.block (w.heap.size + 1) hlt (fun h => by have := h.2; omega)).trans hl
        have hka := (hba.block w.heap.size (by omega) (fun h => by have := h.2; omega)).trans hk
        have hlta : w.heap.size + 1 < Wa.heap.size := (Array.getElem?_eq_some_iff.1 hla).1
        refine ⟨_, run_beginRound hla (by rw [hrec]), ?_⟩
        have hbb : But (· = w.heap.size + 1) Wa (Wa.putObj (w.heap.size + 1) (.loop { rec .ready none with state := .busy })) := But.putObj _ _ _ rfl
        have hl2 : (Wa.putObj (w.heap.size + 1) (.loop { rec .ready none with state := .busy })).heap[w.heap.size + 1]? = some (.loop { rec .ready none with state := .busy }) := World.putObj_heap_same hlta
        have hk2 : (Wa.putObj (w.heap.size + 1) (.loop { rec .ready none with state := .busy })).heap[w.heap.size]? = some (.deferred (some [])) := (World.putObj_heap_other (by omega)).trans hka
        have hab : But (Mine n₀ (w.heap.size + 2)) W (Wa.putObj (w.heap.size + 1) (.loop { rec .ready none with state := .busy })) :=
          (hba.mono (fun k hk => ⟨hk.1, by have := hk.2; omega⟩)).trans (hbb.mono (fun k hk => ⟨by omega, by omega⟩))
        refine wpIn_mono (hbody _ hbb) ?_
        have fin : ∀ (jump : Option Code) (W3 : World), But (Mine n₀ w.heap.size) (Wa.putObj (w.heap.size + 1) (.loop { rec .ready none with state := .busy })) W3 →
            (Instr.endRound (w.heap.size + 1) jump).run P W3 = .ok (.bool jump.isNone) (W3.putObj (w.heap.size + 1) (.loop (rec (if jump.isNone then .ready else .done) jump))) ∧
            (W3.putObj (w.heap.size + 1) (.loop (rec (if jump.isNone then .ready else .done) jump))).heap[w.heap.size + 1]? = some (.loop (rec (if jump.isNone then .ready else .done) jump)) ∧
            (W3.putObj (w.heap.size + 1) (.loop (rec (if jump.isNone then .ready else .done) jump))).heap[w.heap.size]? = some (.deferred (some [])) ∧
            But (· = w.heap.size + 1) W3 (W3.putObj (w.heap.size + 1) (.loop (rec (if jump.isNone then .ready else .done) jump))) ∧
            But (Mine n₀ (w.heap.size + 2)) W (W3.putObj (w.heap.size + 1) (.loop (rec (if jump.isNone then .ready else .done) jump))) := fun jump W3 hk3 => by
          have hl3 := (hk3.block (w.heap.size + 1) (by simp; omega) (fun h => by have := h.2; omega)).trans hl2
          have hd3 := (hk3.block w.heap.size (by simp; omega) (fun h => by have := h.2; omega)).trans hk2
          have hr := run_endRound (P := P) jump hl3
          have hlt3 := (Array.getElem?_eq_some_iff.1 hl3).1
          have hput : But (· = w.heap.size + 1) W3 (W3.putObj (w.heap.size + 1) (.loop (rec (if jump.isNone then .ready else .done) jump))) := But.putObj _ _ _ rfl
          refine ⟨by rw [hrec] at hr ⊢; exact hr, World.putObj_heap_same hlt3, (World.putObj_heap_other (by omega)).trans hd3, hput, ?_⟩
          exact (hab.trans (hk3.mono (fun k hk => ⟨hk.1, by have := hk.2; omega⟩))).trans (hput.mono (fun k hk => ⟨by omega, by omega⟩))
        rintro e a3 W3 hp
        cases e with
        | normal =>
          obtain ⟨hk3, hi3⟩ := hp
          obtain ⟨hr, hl4, hk4, hb4, hbut⟩ := fin none W3 hk3
          have hs3 : w.heap.size ≤ W3.heap.size := by have := hk3.size; simp at this; omega
          exact ⟨_, _, hr, .inl ⟨rfl, ⟨hI _ _ _ hi3 (hb4.below hs3 (fun k hk => by omega)), hl4, hk4⟩, hbut⟩⟩
        | ret =>
          obtain ⟨hk3, hi3⟩ := hp
          obtain ⟨hr, hl4, hk4, hb4, hbut⟩ := fin (some .ret) W3 hk3
          exact ⟨_, _, hr, .inr ⟨rfl, .ret, hIx _ _ _ _ hi3 hb4, hl4, hk4⟩⟩
        | exit id =>
          obtain ⟨hk3, hi3⟩ := hp
          obtain ⟨hr, hl4, hk4, hb4, hbut⟩ := fin (some (.exit id)) W3 hk3
          exact ⟨_, _, hr, .inr ⟨rfl, .exit id, hIx _ _ _ _ hi3 hb4, hl4, hk4⟩⟩
        | goto t =>
          obtain ⟨hk3, hi3⟩ := hp
          obtain ⟨hr, hl4, hk4, hb4, hbut⟩ := fin (some (.goto t)) W3 hk3
          exact ⟨_, _, hr, .inr ⟨rfl, .goto t, hIx _ _ _ _ hi3 hb4, hl4, hk4⟩⟩
        | panic ch => exact hp.elim
        | outgrown => exact hp.elim
      | ret => exact hp.elim
      | exit id => exact hp.elim
      | goto t => exact hp.elim
      | panic ch => exact hp.elim
      | outgrown => exact hp.elim
    · rintro e W2 ⟨⟨v, rfl⟩, (⟨xs, hS, hi, hl, hk⟩ | ⟨pre, hSp, c, hi, hl, hk⟩)⟩
      · have hlt2 := (Array.getElem?_eq_some_iff.1 hl).1
        have hput : ∀ o, Below w.heap.size W2 (W2.putObj (w.heap.size + 1) o) := fun o => (But.putObj (S := (· = w.heap.size + 1)) W2 _ o rfl).below (by omega) (fun k hk => by omega)
        exact ⟨none, _, by have := run_endLoop (P := P) hl (by rw [hrec]; simp); rw [hrec] at this; exact this, hdone xs _ hS (hI _ _ _ hi (hput _)) ((World.putObj_heap_other (by omega)).trans hk)⟩
      · have hput : ∀ o, But (· = w.heap.size + 1) W2 (W2.putObj (w.heap.size + 1) o) := fun o => But.putObj W2 _ o rfl
        exact ⟨some c, _, by have := run_endLoop (P := P) hl (by rw [hrec]; simp); rw [hrec] at this; exact this, hstop c pre _ hSp (hIx _ _ _ _ hi (hput _)) ((World.putObj_heap_other (by omega)).trans hk)⟩
def Qyh (n₀ B : Nat) (U : Nat → Prop) (k : Nat) : Prop := n₀ ≤ k ∧ (k < B ∨ U k)
def Iter2 {α : Type} (F : Fence) (n : Nat) (P : Program) (g : Nat) (lb : Array Value) (encs : α → Array Value) (S Sp : List α → Prop) (Fit : List α → α → Prop) (Rd : World → Prop) (N n₀ : Nat) (w : World) : Prop :=
  ∀ (J : List α → (Nat → Prop) → World → Prop) (Jx : List α → World → Prop), (∀ s U A C, J s U A → But (fun k => w.heap.size + 2 ≤ k ∧ ¬ U k) A C → J s U C) → (∀ s U A, J s U A → (∀ k, U k → k < A.heap.size) ∧ Rd A) →
    (∀ pre U x W1, J pre U W1 → pre.length < N → Fit pre x → YieldAt F (n - 1) P (w.heap.size + 1) (encs x) W1 fun e W' =>
      (e = .returned (.bool true) ∧ (∃ U', J (pre ++ [x]) U' W' ∧ ∀ k, U' k → U k ∨ W1.heap.size ≤ k) ∧ But (Qyh n₀ (w.heap.size + 2) U) W1 W') ∨ (e = .returned (.bool false) ∧ Jx (pre ++ [x]) W')) →
    ∀ W, Below w.heap.size w W → W.heap.size = w.heap.size + 2 → J [] (fun _ => False) W →
    CallsIn F n P g (#[.func (.yield (w.heap.size + 1)) #[] #[]] ++ lb) W fun e W' => (∃ v, e = .returned v) ∧ ((∃ xs U, S xs ∧ J xs U W') ∨ (∃ pre, Sp pre ∧ Jx pre W'))
theorem Iter2.iter {α : Type} {F : Fence} {n : Nat} {P : Program} {g : Nat} {lb : Array Value} {encs : α → Array Value} {S Sp : List α → Prop} {Fit : List α → α → Prop} {Rd : World → Prop} {N n₀ : Nat} {w : World} (h : Iter2 F n P g lb encs S Sp Fit Rd N n₀ w) : Iter F n P g lb encs S Sp Fit Rd N n₀ w := by
  intro J Jx hJ hRd hY W hW hWs h0
  have hsz : w.heap.size + 2 ≤ W.heap.size := by omega
  refine (h (fun s U A => J s A ∧ (∀ k, ¬ U k) ∧ w.heap.size + 2 ≤ A.heap.size) Jx ?_ ?_ ?_ W hW hWs ⟨h0, fun _ h => h, hsz⟩).mono ?_
  · rintro s U A C ⟨hj, hu, hs⟩ hb
    exact ⟨hJ s A C hj (hb.below hs (fun k hk => hk.1)), hu, Nat.le_trans hs hb.size⟩
  · rintro s U A ⟨hj, hu, _⟩
    exact ⟨fun k hk => (hu k hk).elim, hRd s A hj⟩
  · rintro pre U x W1 ⟨hj, hu, hs⟩ hlen hfit
    obtain ⟨fn, tmps, assign, body, hy, hR⟩ := hY pre x W1 hj hlen hfit
    refine ⟨fn, tmps, assign, body, hy, hR.mono ?_⟩
    rintro e W' (⟨rfl, hj', hb'⟩ | ⟨rfl, hx⟩)
    · exact .inl ⟨rfl, ⟨fun _ => False, ⟨hj', fun _ h => h, Nat.le_trans hs hb'.size⟩, fun _ h => h.elim⟩, hb'.mono (fun k hk => ⟨hk.1, Or.inl hk.2⟩)⟩
    · exact .inr ⟨rfl, hx⟩
  · rintro e W' ⟨hv, (⟨xs, U, hS, hj, _, _⟩ | hx)⟩
    · exact ⟨hv, .inl ⟨xs, hS, hj⟩⟩
    · exact ⟨hv, .inr hx⟩
end Go.Proofs.YtoiiibplkhedcaaGreatDoor
namespace Go.Proofs.YtoiiibplkhedcaaGreatDoor
open Go.RowKit Go.Maps
/-! What solve does with one pair. -/
theorem Qfk {t : List Nd} (h : typeb t = true) : One t := by
  obtain ⟨S, ys, s, hS, h0, hs, hf, hsp, _⟩ := Qbx rfl h
  have h9 := Qjl hS.run (i := t.length - 1) (by omega) hs
  rw [hsp] at h9
  exact h9
theorem Qsp {t : List Nd} (h : t.all Nd.plainb = true) : ∀ a ∈ t, ∀ b ∈ t, a.kind = 61 → b.kind = 61 → a.num = b.num → a = b := by
  intro a ha b hb h1 h2 e
  have h9 := List.all_eq_true.1 h
  rw [Qds (h9 a ha) h1, Qds (h9 b hb) h2, e]
section
variable {ps : List (List Nd × List Nd)} {i now q : Nat} {O : Int → Prop} {W : World} {sb mb n : Nat} {X : Nat → Prop} {f : Nat → CC} {lk : Nat → Option Nat} {d : Nat → Nat} {K : (Option Addr × Nat × Nat) → List Nat} {U : Int → Int → Option Nat} {D : DataW Value} {rt : List Nat}
theorem SolG.callTake (hG : SolG ps i now q O W sb mb n X f lk d K U D rt) (hq : q ≤ 400000) (ty : List Nd) (m : Nat) (HM : Hid (ty.length = m)) (ht : typeb ty = true) (HW : Hid (∀ x ∈ ty, (Lit.int .i64 x.num).wf = true)) (ao : Option Addr) (cap : Nat) (hx : Nodes W ao ty) :
    Calls Tryz.prog 30 #[.pointer (some ⟨sb, 0, none⟩), .slice ao m cap, .int .i64 1] W fun e w' => ∃ b n' X' f' K' U' D' rt', e = .returned (.pointer (some ⟨b, 0, none⟩)) ∧ Taken W w' sb mb n (now : Int) 1 (fun _ => True) X f lk d K U q ty b n' X' f' K' U' D' rt' := by
  obtain ⟨Sg, yg, xg, hSg, h0g, _⟩ := Qbx HM.out ht
  have hg3 := hSg.m300
  have HG1 : Sg.length = 1 := by
    have h1 := Qfe hSg.run
    rw [List.take_of_length_le (by have := HM.out; omega), (Qfk ht).wt] at h1
    omega
  exact Qmf W sb mb n (by have := hG.cnt; omega) (now : Int) 1 (fun _ => True) X f lk d K U D hG.stor (by decide) (.inr rfl) ty m HM hg3 h0g HW (Qaq hSg.plain) (Qsp hSg.plain) Sg yg hSg.run HG1 (fun _ _ h => absurd h (by decide)) q rt hG.roots ao cap hx
end
def PairRes (ps : List (List Nd × List Nd)) (i z q : Nat) (w : World) (sb mb : Nat) (e : Ending) (w' : World) : Prop :=
  Below z w w' ∧ ∃ (n : Nat) (X : Nat → Prop) (f : Nat → CC) (lk : Nat → Option Nat) (d : Nat → Nat) (K : (Option Addr × Nat × Nat) → List Nat) (U : Int → Int → Option Nat) (D : DataW Value) (rt : List Nat), (∀ r, X r → z ≤ r) ∧
    ((e = .returned .nilIface ∧ SolG ps (i + 1) i q (Occ (ps.take (i + 1))) w' sb mb n X f lk d K U D rt) ∨ ((∃ v, e = .returned (.iface 143 (.pointer (some v)))) ∧ SolE ps i i q w' sb mb n X f lk d K U D rt ∧ ∀ ρ : Int → List Nd, (∀ x, One (ρ x)) → ¬ Solves ρ (ps.take (i + 1))))
theorem Qcp {S : Nat → Prop} {z : Nat} {w w1 w2 : World} (h0 : Below z w w1) (h : But S w1 w2) (hw : z ≤ w.heap.size) (hS : ∀ i, S i → z ≤ i) : Below z w w2 := by
  refine ⟨h.os.trans h0.os, h.tape.trans h0.tape, h.output.trans h0.output, Nat.le_trans h0.size h.size, fun i hi => ?_⟩
  have hz := h0.size
  exact (h.block i (by omega) (fun h9 => by have := hS i h9; omega)).trans (h0.block i hi)
theorem Qtk {ps : List (List Nd × List Nd)} {i z : Nat} {w W : World} {sb mb n : Nat} {X : Nat → Prop} {f : Nat → CC} {lk : Nat → Option Nat} {d : Nat → Nat} {K : (Option Addr × Nat × Nat) → List Nat} {U : Int → Int → Option Nat} {D : DataW Value} {rt : List Nat} (hi : i < ps.length) (hv : Qbf ps) (hwf : ∀ p ∈ ps, (∀ x ∈ p.1, (Lit.int .i64 x.num).wf = true) ∧ ∀ x ∈ p.2, (Lit.int .i64 x.num).wf = true)
    (hG : SolG ps i i (pairSum ps i) (Occ (ps.take i)) W sb mb n X f lk d K U D rt) (hw : w.heap.size = z) (hb : Below z w W) (hXz : ∀ r, X r → z ≤ r) (hmb : z ≤ mb)
    (la lc : Nat) (hla : ps[i].1.length = la) (hlc : ps[i].2.length = lc) (a1 a2 : Option Addr) (c1 c2 : Nat) (hn1 : Nodes w a1 ps[i].1) (hn2 : Nodes w a2 ps[i].2) :
    ∃ (R1 : Nat → World → Prop) (R2 : Nat → Nat → World → Prop),
      (Calls Tryz.prog 30 #[.pointer (some ⟨sb, 0, none⟩), .slice a1 la c1, .int .i64 1] W fun e w4 => ∃ a, e = .returned (.pointer (some ⟨a, 0, none⟩)) ∧ R1 a w4) ∧
      (∀ a w4, R1 a w4 → Calls Tryz.prog 30 #[.pointer (some ⟨sb, 0, none⟩), .slice a2 lc c2, .int .i64 1] w4 fun e w5 => ∃ b, e = .returned (.pointer (some ⟨b, 0, none⟩)) ∧ R2 a b w5) ∧
      (∀ a b w5, R2 a b w5 → Calls Tryz.prog 29 #[.pointer (some ⟨sb, 0, none⟩), .pointer (some ⟨a, 0, none⟩), .pointer (some ⟨b, 0, none⟩)] w5 fun e w6 => PairRes ps i z (pairSum ps (i + 1)) w sb mb e w6) ∧
      (∀ a w4, R1 a w4 → But (fun k => k = mb) W w4) := by
  have hmem := List.getElem_mem hi
  obtain ⟨tA, tC⟩ := hv.2 _ hmem
  obtain ⟨wA, wC⟩ := hwf _ hmem
  have hsum : ∀ j, pairSum ps j ≤ 20000 := fun j => by have := Qdl ps j; have := hv.1; omega
  have hs1 := hsum i
  have hs2 := hsum (i + 1)
  have hss := Qdz hi
  refine ⟨fun a w4 => ∃ n1 X1 f1 K1 U1 D1 rt1, Taken W w4 sb mb n (i : Int) 1 (fun _ => True) X f lk d K U (pairSum ps i) ps[i].1 a n1 X1 f1 K1 U1 D1 rt1,
    fun a b w5 => ∃ w4 n1 X1 f1 K1 U1 D1 rt1 n2 X2 f2 K2 U2 D2 rt2, Taken W w4 sb mb n (i : Int) 1 (fun _ => True) X f lk d K U (pairSum ps i) ps[i].1 a n1 X1 f1 K1 U1 D1 rt1 ∧ Taken w4 w5 sb mb n1 (i : Int) 1 (fun _ => True) X1 f1 lk d K1 U1 (pairSum ps i + la) ps[i].2 b n2 X2 f2 K2 U2 D2 rt2, ?_, ?_, ?_, ?_⟩
  · refine (hG.callTake (by omega) ps[i].1 la hla tA wA a1 c1 (hn1.below (by rw [hw]; exact hb))).mono ?_
    rintro e w4 ⟨b, n1, X1, f1, K1, U1, D1, rt1, rfl, T⟩
    exact ⟨b, rfl, n1, X1, f1, K1, U1, D1, rt1, T⟩
  · rintro a w4 ⟨n1, X1, f1, K1, U1, D1, rt1, T⟩
    have hG1 := hG.take (Nat.le_refl _) T (Qal tA) wA
    have hb4 := Qcp hb T.old (by omega) (fun k hk => by omega)
    have h9 := hG1.callTake (by omega) ps[i].2 lc hlc tC wC a2 c2 (hn2.below (by rw [hw]; exact hb4))
    rw [hla] at h9
    refine h9.mono ?_
    rintro e w5 ⟨b, n2, X2, f2, K2, U2, D2, rt2, rfl, T2⟩
    exact ⟨b, rfl, w4, n1, X1, f1, K1, U1, D1, rt1, n2, X2, f2, K2, U2, D2, rt2, T, T2⟩
  · rintro a b w5 ⟨w4, n1, X1, f1, K1, U1, D1, rt1, n2, X2, f2, K2, U2, D2, rt2, T1, T2⟩
    have hG1 := hG.take (Nat.le_refl _) T1 (Qal tA) wA
    have hb4 := Qcp hb T1.old (by omega) (fun k hk => by omega)
    have hG2 := hG1.take (by omega) T2 (Qal tC) wC
    have hb5 := Qcp hb4 T2.old (by omega) (fun k hk => by omega)
    have hG3 := hG2.to (q' := pairSum ps (i + 1)) (O' := Occ (ps.take (i + 1))) (by omega) (fun x hx => Qzx hi hx)
    obtain ⟨hkn, hA, hB, hXa, hXb⟩ := Quu T1 T2
    have hX2 : ∀ r, X2 r → z ≤ r := by
      intro r hr
      rcases T2.fresh r hr with h | h
      · rcases T1.fresh r h with h | h
        · exact hXz r h
        · have := hb.size; omega
      · have := hb4.size; omega
    refine (Qlu X2 f2 lk d K2 w5 a b rt2 hG3.stor.sto (fun r hr _ => hG3.roots.1 r hr) (by have := hG3.roots.2; omega) hXa hXb sb (i : Int) hG3.stor.sX hG3.stor.s1).mono ?_
    rintro e w6 ⟨hB6, hres⟩
    have hb6 := Qcp hb5 hB6 (by omega) hX2
    rcases hres with ⟨rfl, f', lk', d', hS6, hT6, hE⟩ | ⟨⟨v, rfl⟩, ⟨f', lk', d', hS6, hT6⟩, hno⟩
    · exact ⟨hb6, n2, X2, f', lk', d', K2, U2, D2, rt2, hX2, .inl ⟨rfl, hG3.tie hi hkn hA hB hB6 hS6 hT6 hE⟩⟩
    · refine ⟨hb6, n2, X2, f', lk', d', K2, U2, D2, rt2, hX2, .inr ⟨⟨v, rfl⟩, hG3.fail hB6 hS6 hT6, fun ρ hρ => ?_⟩⟩
      exact hG3.loop.noSolves (fun p hp => ⟨⟨Qaq (Qal (hv.2 p hp).1), Qfk (hv.2 p hp).1⟩, Qaq (Qal (hv.2 p hp).2), Qfk (hv.2 p hp).2⟩) hi hkn hA hB hno ρ hρ
  · rintro a w4 ⟨n1, X1, f1, K1, U1, D1, rt1, T⟩
    exact T.old
end Go.Proofs.YtoiiibplkhedcaaGreatDoor
namespace Go.Proofs.YtoiiibplkhedcaaGreatDoor
open Go.RowKit Go.Maps
def Jea (X : Nat → Prop) (f : Nat → CC) (lk : Nat → Option Nat) (d : Nat → Nat) (K : (Option Addr × Nat × Nat) → List Nat) (s m : Nat) (w : World) (e : Ending) (w' : World) : Prop :=
  ∃ r : Nat, e = .returned (.int .i64 (r : Int)) ∧ (s ≤ m → r = s) ∧ (m < s → m < r) ∧ 1 ≤ r ∧ r ≤ m + 1 ∧ ∃ lk', CSto w' X f lk' d K ∧ SameHd lk lk' ∧ But X w w'
theorem Qxu (X : Nat → Prop) (f : Nat → CC) (d : Nat → Nat) (K : (Option Addr × Nat × Nat) → List Nat) (hfl : Nat → Nat) (Lf : Nat → Prop) (rk sz : Nat → Nat) (HLF : Hid (LeftOk (fun h => K (f h).ks) hfl Lf rk)) (HSZ : Hid (∀ h, Lf h → sz h = 1 + ((K (f h).ks).map (fun k => sz (hfl k))).sum)) :
    ∀ (N : Nat) (lk : Nat → Option Nat) (w : World) (b m : Nat), rk (hfl b) = N → CSto w X f lk d K → (∀ k, Hd lk k (hfl k)) → X b → Lf (hfl b) → m ≤ 100000 →
      Calls Tryz.prog 79 #[.pointer (some ⟨b, 0, none⟩), .int .i64 (m : Int)] w fun e w' => Jea X f lk d K (sz (hfl b)) m w e w' := by
  intro N
  induction N using Nat.strongRecOn with
  | ind N ih =>
    intro lk w b m hN hS hH hXb hLb hm
    have HIH : Hid _ := ih
    clear ih
    obtain ⟨r, hr⟩ : ∃ r, hfl b = r := ⟨_, rfl⟩
    have hrd : Hd lk b r := hr ▸ hH b
    have hXr : X r := hrd.inX hS.cells hXb
    rw [hr] at hN hLb ⊢
    have HA : Hid (Acyc lk d) := hS.acyc
    have HS : Hid (CSto w X f lk d K) := hS
    have HC := hS.cells
    obtain ⟨sy, L, cy, hky⟩ : ∃ s l c, (f r).ks = (s, l, c) := ⟨_, _, _, rfl⟩
    obtain ⟨kk, hkk⟩ : ∃ l, K (f r).ks = l := ⟨_, rfl⟩
    have hRR := hS.rows r hXr
    rw [hkk, hky] at hRR
    have hL : L = kk.length := hRR.1.1
    have hL2 : L ≤ 20000 := by rw [hL]; exact hRR.1.2.1
    have HKK : Hid (K (f r).ks = kk) := hkk
    have HKY : Hid ((f r).ks = (sy, L, cy)) := hky
    have HKX : Hid (∀ i ∈ kk, X i) := fun i hi => hS.inX r hXr i (by rw [hkk]; exact hi)
    have HSR : Hid (sz r = 1 + (kk.map (fun k => sz (hfl k))).sum) := by
      have h9 := HSZ.out r hLb
      rw [hkk] at h9
      exact h9
    have HDN : Hid (∀ k ∈ kk, Lf (hfl k) ∧ rk (hfl k) < N) := by
      intro k hk
      have h9 := HLF.out.down r hLb k (by simp only [hkk]; exact hk)
      rw [hN] at h9
      exact h9
    have HHD : Hid (∀ k, Hd lk k (hfl k)) := hH
    clear hS hH hN hRR hkk
    go_enter Tryz.func79, Tryz.ntmps79
    go_wp2_with (go_at_call 60; refine (Qhh X f lk d HA w HC b r hXb hrd).mono ?_; rintro e w1 ⟨rfl, lk1, hC1, hS1, hA1, hB1, _⟩; obtain ⟨a0, a1, a2, a3, a4, a5, a6, a7, a8, a9, a10, a11, a12, a13⟩ := (hC1.at' r hXr).cell; rw [hky] at a6; simp only at a6)
    have HSS1 : Hid (CSto w1 X f lk1 d K) := HS.out.short hC1 hA1 hB1
    have HB1 : Hid (But X w w1) := hB1
    have HSH : Hid (SameHd lk lk1) := hS1
    have HLK : Hid (kk.length = L) := hL.symm
    clear hC1 hA1 hB1 hS1 a0 a1 a2 a3 a4 a5 a6 a7 a8 a9 a10 a11 a12 a13 hky HC hL
    obtain ⟨part, hpart⟩ : ∃ part : Nat → Nat, part = fun j => 1 + ((kk.take j).map (fun k => sz (hfl k))).sum := ⟨_, rfl⟩
    have HPL : Hid (part L = sz r) := by
      rw [Hid, hpart, HSR.out]
      simp only
      rw [List.take_of_length_le (by have := HLK.out; omega)]
    have HPM : Hid (∀ j, part j ≤ sz r) := by
      intro j
      rw [hpart, HSR.out]
      have e9 : kk.map (fun k => sz (hfl k)) = (kk.take j).map (fun k => sz (hfl k)) ++ (kk.drop j).map (fun k => sz (hfl k)) := by rw [← List.map_append, List.take_append_drop]
      rw [e9, List.sum_append]
      simp only
      omega
    have HPS : Hid (∀ j (h : j < kk.length), part (j + 1) = part j + sz (hfl kk[j])) := by
      intro j h
      rw [hpart]
      simp only
      rw [List.take_succ_eq_append_getElem h, List.map_append, List.sum_append]
      simp
      omega
    have HP0 : Hid (part 0 = 1) := by rw [Hid, hpart]; simp
    clear hpart HSR
    go_loopw [5, 14] (fun vs vi wr => ∃ (j s : Nat) (lk2 : Nat → Option Nat), j ≤ L ∧ vi = .int .i64 (j : Int) ∧ vs = .int .i64 (s : Int) ∧ 1 ≤ s ∧ s ≤ m + 1 ∧ (part j ≤ m → s = part j) ∧ (m < part j → m < s) ∧ CSto wr X f lk2 d K ∧ SameHd lk lk2 ∧ But X w wr) (fun _ vi _ => L - (intOf vi).toNat)
    case atStart => exact ⟨0, 1, lk1, Nat.zero_le _, rfl, rfl, Nat.le_refl _, by omega, fun _ => HP0.out.symm, fun h => by rw [HP0.out] at h; exact h, HSS1.out, HSH.out, HB1.out⟩
    case round =>
      clear HSS1 HSH HB1
      obtain ⟨j, s, lk2, hj, rfl, rfl, hs1, hs2, hp1, hp2, hS2, hSH2, hB2⟩ := hrel
      have HQ1 : Hid (part j ≤ m → s = part j) := hp1
      have HQ2 : Hid (m < part j → m < s) := hp2
      clear hp1 hp2
      by_cases hjL : j < L
      · have hRR := hS2.rows r hXr
        rw [HKK.out, HKY.out] at hRR
        have hjk : j < kk.length := by have := HLK.out; omega
        obtain ⟨gk, cur, hsy, _, _, hcur, hall⟩ := hRR.2.resolve_left (fun e9 => by rw [e9] at hjk; simp at hjk)
        simp only at hsy
        subst hsy
        have ek : wr.cell? ⟨gk, j, none⟩ = some (.pointer (some ⟨kk[j], 0, none⟩)) := by
          rw [cell_of_row wr gk j cur 64 (0, 0) hcur]
          exact hall j hjk
        obtain ⟨kj, hkj⟩ : ∃ t, kk[j] = t := ⟨_, rfl⟩
        have hXk : X kj := hkj ▸ HKX.out _ (List.getElem_mem hjk)
        have hdn : Lf (hfl kj) ∧ rk (hfl kj) < N := hkj ▸ HDN.out _ (List.getElem_mem hjk)
        have HPJ : Hid (part (j + 1) = part j + sz (hfl kj)) := by have h9 := HPS.out j hjk; rw [hkj] at h9; exact h9
        rw [hkj] at ek
        by_cases hgt : s > m
        · have tg : decide ((s : Int) > (m : Int)) = true := decide_eq_true (by omega)
          have HRES : Hid ((sz r ≤ m → s = sz r) ∧ (m < sz r → m < s)) := ⟨fun h => by have := HPM.out j; have := HQ1.out (by omega); omega, fun _ => hgt⟩
          clear hRR hcur hall
          go_wp2
          go_ret
          exact ⟨s, rfl, HRES.out.1, HRES.out.2, hs1, hs2, lk2, hS2, hSH2, hB2⟩
        · have tg : decide ((s : Int) > (m : Int)) = false := decide_eq_false (by omega)
          have HST : Hid (s = part j) := by
            show s = part j
            by_cases h9 : part j ≤ m
            · exact HQ1.out h9
            · have := HQ2.out (by omega); omega
          have HCALL := HIH.out (rk (hfl kj)) hdn.2 lk2 wr kj (m - s) rfl hS2 (fun k => (hSH2 k _).1 (HHD.out k)) hXk hdn.1 (by omega)
          have e9 : ((m - s : Nat) : Int) = (m : Int) - (s : Int) := by omega
          rw [e9] at HCALL
          have HSH2 : Hid (SameHd lk lk2) := hSH2
          have HB2 : Hid (But X w wr) := hB2
          clear hRR hcur hall hS2 hSH2 hB2 e9
          go_wp2_with fail
          refine HCALL.mono ?_
          rintro e w3 ⟨r', rfl, q1, q2, q3, q4, lk3, hS3, hSH3, hB3⟩
          have Q1 : Hid ((sz (hfl kj) ≤ m - s → r' = sz (hfl kj)) ∧ (m - s < sz (hfl kj) → m - s < r')) := ⟨q1, q2⟩
          clear HCALL q1 q2
          go_wp2
          go_roundw
          case rel => exact ⟨j + 1, s + r', lk3, by omega, by go_num, by go_num, by omega, by omega, fun h => by have h8 := HST.out; rw [HPJ.out] at h ⊢; have := Q1.out.1 (by omega); omega, fun h => by have h8 := HST.out; rw [HPJ.out] at h; have := Q1.out.2 (by omega); omega, hS3, HSH2.out.trans hSH3, HB2.out.trans hB3⟩
          case measure => simp [intOf]; omega
      · have hje : j = L := by omega
        subst hje
        have HRES : Hid ((sz r ≤ m → s = sz r) ∧ (m < sz r → m < s)) := by
          have h9 := HPL.out
          exact ⟨fun h => by rw [← h9] at h ⊢; exact HQ1.out h, fun h => by rw [← h9] at h; exact HQ2.out h⟩
        have hkl : kk.length = j := HLK.out
        go_wp2
        go_ret
        exact ⟨s, rfl, HRES.out.1, HRES.out.2, hs1, hs2, lk2, hS2, hSH2, hB2⟩
end Go.Proofs.YtoiiibplkhedcaaGreatDoor

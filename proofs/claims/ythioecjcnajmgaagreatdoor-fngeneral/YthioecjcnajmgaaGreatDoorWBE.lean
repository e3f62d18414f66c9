import Derived.Test.YthioecjcnajmgaaGreatDoorWBD
import Derived.Test.YthioecjcnajmgaaGreatDoorWAE
import Derived.Shelf.RegionOpen
import Derived.WalkKit
import Derived.OwnWalkIn
import Derived.TacticsInMore
import Derived.LoopNIn
import Derived.LoopIn
import Derived.Deep.RegionLaw
namespace Go.Proofs.YthioecjcnajmgaaGreatDoor

open Go.RowKit Go.Shelf

/-- The blocks that a round may turn: the caller's own from before the loop, and those of U, which it made in rounds. -/
def Turns (n₀ B : Nat) (U : Nat → Prop) (k : Nat) : Prop := n₀ ≤ k ∧ (k < B ∨ U k)

/-- As 'Iter', for rounds that go on writing into blocks that earlier rounds made. -/
def Iter2 {α : Type} (F : Fence) (n : Nat) (P : Program) (g : Nat) (lb : Array Value) (encs : α → Array Value) (S Sp : List α → Prop) (Fit : List α → α → Prop) (Rd : World → Prop) (N n₀ : Nat) (w : World) : Prop :=
  ∀ (J : List α → (Nat → Prop) → World → Prop) (Jx : List α → World → Prop), (∀ s U A C, J s U A → But (fun k => w.heap.size + 2 ≤ k ∧ ¬ U k) A C → J s U C) → (∀ s U A, J s U A → (∀ k, U k → k < A.heap.size) ∧ Rd A) →
    (∀ pre U x W1, J pre U W1 → pre.length < N → Fit pre x → YieldAt F (n - 1) P (w.heap.size + 1) (encs x) W1 fun e W' =>
      (e = .returned (.bool true) ∧ (∃ U', J (pre ++ [x]) U' W' ∧ ∀ k, U' k → U k ∨ W1.heap.size ≤ k) ∧ But (Turns n₀ (w.heap.size + 2) U) W1 W') ∨ (e = .returned (.bool false) ∧ Jx (pre ++ [x]) W')) →
    ∀ W, Below w.heap.size w W → W.heap.size = w.heap.size + 2 → J [] (fun _ => False) W →
    CallsIn F n P g (#[.func (.yield (w.heap.size + 1)) #[] #[]] ++ lb) W fun e W' => (∃ v, e = .returned v) ∧ ((∃ xs U, S xs ∧ J xs U W') ∨ (∃ pre, Sp pre ∧ Jx pre W'))

theorem Iter2.iter {α : Type} {F : Fence} {n : Nat} {P : Program} {g : Nat} {lb : Array Value} {encs : α → Array Value} {S Sp : List α → Prop} {Fit : List α → α → Prop} {Rd : World → Prop} {N n₀ : Nat} {w : World} (h : Iter2 F n P g lb encs S Sp Fit Rd N n₀ w) : Iter F n P g lb encs S Sp Fit Rd N n₀ w := by
  intro J Jx hJ hRd hY W hW hWs h0
  have hsz : w.heap.size + 2 ≤ W.heap.size := by omega
  refine (h (fun s U A => J s A ∧ (∀ k, ¬ U k) ∧ w.heap.size + 2 ≤ A.heap.size) Jx ?_ ?_ ?_ W hW hWs ⟨h0, fun _ h => h, hsz⟩).mono ?_
  · rintro s U A C ⟨hj, hu, hs⟩ hb
    exact ⟨hJ s A C hj (hb.below hs (fun k hk => hk.1)), hu, Nat.le_trans hs hb.size⟩
  · rintro s U A ⟨hj, hu, _⟩
    exact ⟨fun k hk => (hu k hk).elim, hRd s A hj⟩
  · rintro pre U x W1 ⟨hj, hu, hs⟩ hlen hfit
    obtain ⟨fn, tmps, assign, body, hy, hR⟩ := hY pre x W1 hj hlen hfit
    refine ⟨fn, tmps, assign, body, hy, hR.mono ?_⟩
    rintro e W' (⟨rfl, hj', hb'⟩ | ⟨rfl, hx⟩)
    · exact .inl ⟨rfl, ⟨fun _ => False, ⟨hj', fun _ h => h, Nat.le_trans hs hb'.size⟩, fun _ h => h.elim⟩, hb'.mono (fun k hk => ⟨hk.1, Or.inl hk.2⟩)⟩
    · exact .inr ⟨rfl, hx⟩
  · rintro e W' ⟨hv, (⟨xs, U, hS, hj, _, _⟩ | hx)⟩
    · exact ⟨hv, .inl ⟨xs, hS, hj⟩⟩
    · exact ⟨hv, .inr hx⟩

end Go.Proofs.YthioecjcnajmgaaGreatDoor

namespace Go.Proofs.YthioecjcnajmgaaGreatDoor
open Go.RowKit Go.Shelf

attribute [local go_sem] Oper.semAt_some

def Sp.row (s : Sp) : List Value := [.int .i64 (s.fr : Int), .int .i64 (s.rt : Int), .int .i64 (s.dp : Int)]

def flat3 (ss : List Sp) : List Value := ss.flatMap Sp.row

theorem flat3_cons (y : Sp) (ys : List Sp) : flat3 (y :: ys) = y.row ++ flat3 ys := rfl

theorem flat3_append (xs ys : List Sp) : flat3 (xs ++ ys) = flat3 xs ++ flat3 ys := by simp [flat3]

theorem flat3_get (ys : List Sp) (i t : Nat) (hi : i < ys.length) (ht : t < 3) : (flat3 ys)[i * 3 + t]? = (ys[i].row)[t]? := by
  induction ys generalizing i with
  | nil => simp at hi
  | cons y ys ih =>
    rw [flat3_cons]
    cases i with
    | zero => rw [List.getElem?_append_left (by simp [Sp.row]; omega)]; simp
    | succ i =>
      rw [List.getElem?_append_right (by simp [Sp.row]; omega)]
      have e : (i + 1) * 3 + t - y.row.length = i * 3 + t := by simp [Sp.row]; omega
      rw [e, ih i (by simpa using hi)]
      simp

theorem flat3_take (ys : List Sp) (m : Nat) : (flat3 ys).take (m * 3) = flat3 (ys.take m) := by
  induction ys generalizing m with
  | nil => simp [flat3]
  | cons y ys ih =>
    cases m with
    | zero => simp [flat3]
    | succ m =>
      rw [flat3_cons, List.take_succ_cons, flat3_cons, ← ih m, List.take_append]
      have e1 : y.row.take ((m + 1) * 3) = y.row := List.take_of_length_le (by simp [Sp.row]; omega)
      have e2 : (m + 1) * 3 - y.row.length = m * 3 := by simp [Sp.row]; omega
      rw [e1, e2]

/-- A slice of the iterator's own that holds the free terms. -/
def Free (w : World) (B g l cap : Nat) (S : List Sp) : Prop := S.length = l ∧ w.ownsRow B 190 3 (.slice (some ⟨g, 0, none⟩) l cap) l (flat3 S)

theorem Free.at {w : World} {B g l cap : Nat} {S : List Sp} (h : Free w B g l cap S) (i : Nat) (hi : i < S.length) : SpAt w g (i * 3) S[i] := by
  have hl := h.1
  have c : ∀ t, t < 3 → w.cell? ⟨g, i * 3 + t, none⟩ = (S[i].row)[t]? := fun t ht => (owns_at h.2 (i * 3 + t) (by omega)).trans (flat3_get S i t hi ht)
  exact ⟨c 0 (by omega), c 1 (by omega), c 2 (by omega)⟩

theorem Free.drop {w : World} {B g l cap : Nat} {S : List Sp} (h : Free w B g l cap S) (m : Nat) : Sps w (some ⟨g, m * 3, none⟩) (S.drop m) := by
  intro i hi
  have hi' : m + i < S.length := by simp at hi; omega
  refine ⟨g, m * 3, rfl, ?_⟩
  have := h.at (m + i) hi'
  rw [List.getElem_drop]
  have e : (m + i) * 3 = m * 3 + i * 3 := by omega
  rw [e] at this
  exact this

theorem Free.cap {w : World} {B g l cap : Nat} {S : List Sp} (h : Free w B g l cap S) : l ≤ cap ∧ B ≤ g ∧ g < w.heap.size := by
  rcases h.2.2 with ⟨h', _⟩ | ⟨g2, cap2, cur, he, hb, hh, hnc, r⟩
  · cases h'
  · simp only [Value.slice.injEq, Option.some.injEq, Addr.mk.injEq, and_true, true_and] at he
    obtain ⟨rfl, rfl⟩ := he
    exact ⟨hnc, hb, (Array.getElem?_eq_some_iff.1 hh).1⟩

theorem Free.take {w : World} {B g l cap : Nat} {S : List Sp} (h : Free w B g l cap S) (m : Nat) (hm : m ≤ l) : Free w B g m cap (S.take m) := by
  refine ⟨by have := h.1; simp; omega, ?_⟩
  rw [← flat3_take]
  exact owns_take h.2 m hm

theorem Free.but {P : Nat → Prop} {w w' : World} {B g l cap : Nat} {S : List Sp} (h : Free w B g l cap S) (hb : But P w w') (hne : ¬ P g) : Free w' B g l cap S := ⟨h.1, owns_but h.2 hb hne⟩

theorem Free.below {w w' : World} {B g l cap : Nat} {S : List Sp} (h : Free w B g l cap S) (hb : Below w.heap.size w w') : Free w' B g l cap S := h.but (P := fun _ => False) (But.ofBelow hb) (fun h => h)

theorem chain_length {S : List Sp} {k : Nat} (h : Chain S k) : S.length ≤ k := by
  have key : ∀ j (hj : j < S.length), j ≤ S[j].rt := by
    intro j
    induction j with
    | zero => intro _; omega
    | succ j ih =>
      intro hj
      have h1 := ih (by omega)
      have h2 := h.2.1 j hj
      have h3 := (h.1 (j + 1) hj).1
      omega
  by_cases h0 : S.length = 0
  · omega
  · have h1 := key (S.length - 1) (by omega)
    have h2 := (h.1 (S.length - 1) (by omega)).2
    omega

theorem new3_cells (w : World) (s : Sp) : ∀ j u, s.row[j]? = some u →
    (w.alloc (.cells #[.int .i64 (s.fr : Int), .int .i64 (s.rt : Int), .int .i64 (s.dp : Int)] 190)).cell? (Addr.add ⟨w.heap.size, 0, none⟩ j) = some u := by
  intro j u hj
  have ad : Addr.add ⟨w.heap.size, 0, none⟩ j = ⟨w.heap.size, j, none⟩ := by
    unfold Addr.add
    split
    · simp_all
    · simp
  rw [ad, cell_of_row _ w.heap.size j _ 190 (0, 0) (heap_alloc_new _ _), ← hj]
  simp [Sp.row]

theorem new3_drew (w : World) (s : Sp) : ∀ j u, s.row[j]? = some u →
    ((w.alloc (.cells #[.int .i64 (s.fr : Int), .int .i64 (s.rt : Int), .int .i64 (s.dp : Int)] 190)).drew).cell? (Addr.add ⟨w.heap.size, 0, none⟩ j) = some u := new3_cells w s

theorem row3_one (s : Sp) : ∀ u ∈ s.row, u.oneCell' = true := by
  intro u hu
  simp [Sp.row] at hu
  rcases hu with rfl | rfl | rfl <;> rfl

set_option maxHeartbeats 400000 in
theorem spans_any (ao : Option Addr) (n cap : Nat) (w : World) :
    Calls Tryz.prog 103 #[.slice ao n cap] w fun e w' => e = .returned (.func (.func 106) #[] #[.pointer (some ⟨w.heap.size, 0, none⟩)]) ∧ w' = w.alloc (.cells #[.slice ao n cap] 27) := by
  go_enter Tryz.func103, Tryz.ntmps103
  go_wp2
  go_ret
  exact ⟨rfl, rfl⟩

theorem Tryz.infoSp : (Tryz.prog.info? 190).map (fun i => (i.zero, i.size, i.bytes)) = some (some (.agg #[.int .i64 0, .int .i64 0, .int .i64 0]), 3, 24) := by kernel_rfl

/-- All terms have come: up to the end, or up to a node that asks for what is not there. -/
def Came (t : List Nd) (xs : List Sp) : Prop := ∃ k S, after t k = some (S, xs) ∧ (k = t.length ∨ after t (k + 1) = none)

def Part (t : List Nd) (xs : List Sp) : Prop := ∃ k S, after t k = some (S, xs)

def encSp (s : Sp) : Array Value := #[.agg #[.int .i64 (s.fr : Int), .int .i64 (s.rt : Int), .int .i64 (s.dp : Int)]]

theorem grown_but {U : Nat → Prop} {B g : Nat} {W w4 : World} {o : Obj} (hgrow : (W.alloc o).drew.grownBy w4 (some g)) (hg : B ≤ g) (hu : ¬ U g) : But (fun k => B ≤ k ∧ ¬ U k) W w4 := by
  have hA : Below W.heap.size W (W.alloc o).drew := ((Below.refl _ W).alloc (Nat.le_refl _) o).drew
  refine ⟨hgrow.os.trans hA.os, hgrow.tape.trans hA.tape, hgrow.output.trans hA.output, Nat.le_trans hA.size hgrow.size, ?_⟩
  intro k hk hn
  refine (hgrow.block k (Nat.lt_of_lt_of_le hk hA.size) ?_).trans (hA.block k hk)
  intro e
  cases e
  exact hn ⟨hg, hu⟩

set_option maxRecDepth 100000 in
set_option maxHeartbeats 2000000 in
theorem spans1_turn (t : List Nd) (m : Nat) (HM : Hid (t.length = m)) (hm : m ≤ 60000) (ao : Option Addr) (cap Bn n₀ n : Nat) (w : World) (hn₀ : n₀ ≤ w.heap.size) (hBn : Bn < w.heap.size) (hbox : w.cell? ⟨Bn, 0, none⟩ = some (.slice ao m cap))
    (w00 : World) (hsz : w00.heap.size = n₀) (hx : Nodes w00 ao t) (hw00 : Below n₀ w00 w) :
    Iter2 Fence.wide n Tryz.prog 106 #[.pointer (some ⟨Bn, 0, none⟩)] encSp (Came t) (Part t) (fun pre x => Part t (pre ++ [x])) (fun _ => True) m n₀ w := by
  intro J Jx hJ hJU hY W hW hWs h0
  obtain ⟨i0, hi, hz0, hz1, hz2⟩ := info_parts Tryz.infoSp
  have hbox1 : W.cell? ⟨Bn, 0, none⟩ = some (.slice ao m cap) := (hW.cell (p := ⟨Bn, 0, none⟩) hBn).trans hbox
  have hb0 : Below n₀ w00 W := hw00.trans (hW.mono hn₀)
  clear hbox
  refine callsIn_of_wp Tryz.func106 rfl trivial ?_
  simp only [Tryz.ntmps106, List.size_toArray, List.length_cons, List.length_nil, Nat.reduceAdd, Nat.reduceSub, Array.replicate_succ, Array.replicate_zero, List.push_toArray, List.append_toArray, List.nil_append, List.cons_append]
  have hBW : Bn < w.heap.size + 2 := by omega
  have HSZ : Hid (w00.heap.size = n₀) := hsz
  clear hsz
  gi_wp2
  gi_loopw [3, 11] (fun v p wr => ∃ (k g l c : Nat) (S ys : List Sp) (U : Nat → Prop), k ≤ m ∧ p = .int .i64 k ∧ after t k = some (S, ys) ∧ v = .slice (some ⟨g, 0, none⟩) l c ∧ Free wr (w.heap.size + 2) g l c S ∧ J ys U wr ∧ (¬ U g) ∧ Below n₀ w00 wr ∧ w.heap.size + 2 ≤ wr.heap.size)
    (fun _ p _ => m - (intOf p).toNat)
  case atStart =>
    refine ⟨0, w.heap.size + 2, 0, 0, [], [], fun _ => False, Nat.zero_le _, rfl, rfl, rfl, ⟨rfl, ⟨rfl, Or.inr ⟨_, 0, #[], rfl, Nat.le_refl _, ?_, Nat.le_refl _, by simp [maxLen], rfl, rfl⟩⟩⟩, hJ _ _ _ _ h0 (But.ofBelow ((Below.refl _ _).alloc (Nat.le_refl _) _)), fun h => h, hb0.alloc (by omega) _, by simp; omega⟩
    have := heap_alloc_new W (.cells #[] 190)
    rw [hWs] at this
    exact this
  case round =>
    obtain ⟨k, g, l, c, S, ys, U, hk, rfl, hst, rfl, hfree, hj, hUg, hb, hsize⟩ := hrel
    have hUl := (hJU _ _ _ hj).1
    clear hb0 h0 hbox1 hW hWs
    by_cases hlt : k < m
    · have hltk : k < t.length := by have := HM.out; omega
      obtain ⟨b, o, rfl, hn⟩ := (hx.below (hb.mono (by have := HSZ.out; omega))) k hltk
      obtain ⟨x, hxk⟩ : ∃ x, t[k] = x := ⟨_, rfl⟩
      rw [hxk] at hn
      obtain ⟨c0, c1, c2, c3, c4⟩ := hn
      have hblt : b < wr.heap.size := lt_of_cell c0
      have HXK : Hid (t[k] = x) := hxk
      have hfine := after_fine hst
      have hSl := chain_length hfine.chain
      have HST : Hid (after t k = some (S, ys)) := hst
      have HF : Hid (Fine k S ys) := hfine
      have HSL : Hid (S.length = l) := hfree.1
      have hlk : l ≤ k := by have := hfree.1; omega
      clear hx hxk hfine hst hSl
      by_cases hbad : x.kids < 0 ∨ (l : Int) < x.kids
      · have HE : Hid (Came t ys) := by
          refine ⟨k, S, HST.out, Or.inr (after_fail HST.out hltk ?_)⟩
          rw [HXK.out]
          exact step_none (by have := HSL.out; rw [this]; exact hbad)
        have hj2 := hJ _ _ _ _ hj (But.ofBelow ((Below.refl _ wr).alloc (Nat.le_refl _) (.cells #[.int .i64 x.kind, .int .i64 x.num, .string x.text, .int .i64 x.kids, .int .i64 x.place] 40)))
        by_cases hneg : x.kids < 0
        · gi_wp2
          refine bodyPost_ret (results_none rfl _ _ _) rfl ?_
          first | exact ⟨⟨_, rfl⟩, .inl ⟨ys, HE.out, U, hj2⟩⟩ | exact ⟨⟨_, rfl⟩, .inl ⟨ys, U, HE.out, hj2⟩⟩
        · have hgt : (l : Int) < x.kids := by omega
          gi_wp2
          refine bodyPost_ret (results_none rfl _ _ _) rfl ?_
          first | exact ⟨⟨_, rfl⟩, .inl ⟨ys, HE.out, U, hj2⟩⟩ | exact ⟨⟨_, rfl⟩, .inl ⟨ys, U, HE.out, hj2⟩⟩
      · obtain ⟨q, hq⟩ : ∃ q : Nat, x.kids = (q : Int) := ⟨x.kids.toNat, by omega⟩
        have HQ : Hid (x.kids = (q : Int)) := hq
        rw [hq] at c3 hbad
        have hqS : q ≤ l := by omega
        obtain ⟨f, rfl⟩ : ∃ f, l = f + q := ⟨l - q, by omega⟩
        clear hq hbad
        have hcap := hfree.cap
        have hff : f < c ∨ (c = f ∧ q = 0) := by omega
        have HDL : Hid ((S.drop f).length = q) := by have := HSL.out; show (S.drop f).length = q; simp; omega
        have HDD : Hid (∀ y ∈ S.drop f, y.dp ≤ 60000) := by
          intro y hy
          obtain ⟨j, hj, rfl⟩ := List.getElem_of_mem (List.mem_of_mem_drop hy)
          have h2 := HF.out.mem j hj
          obtain ⟨hlt2, he⟩ := List.getElem?_eq_some_iff.1 h2
          have h3 := HF.out.root _ hlt2
          rw [he] at h3
          have := HF.out.len
          omega
        have hA : Below wr.heap.size wr (wr.alloc (.cells #[.int .i64 x.kind, .int .i64 x.num, .string x.text, .int .i64 (q : Int), .int .i64 x.place] 40)) := (Below.refl _ wr).alloc (Nat.le_refl _) _
        have hfreeA := hfree.below hA
        have hsps := hfreeA.drop f
        have HSPS : Hid (q = 0 → S.drop f = []) := by
          intro h0
          exact List.eq_nil_of_length_eq_zero (by have := HDL.out; omega)
        obtain ⟨s, hs⟩ : ∃ s, over (S.drop f) k = s := ⟨_, rfl⟩
        have HS : Hid (over (S.drop f) k = s) := hs
        have HST2 : Hid (after t (k + 1) = some (S.take f ++ [s], ys ++ [s])) := by
          refine after_succ HST.out hltk ?_
          rw [HXK.out, HQ.out, step_of (by omega) (by have := HSL.out; omega)]
          have e : S.length - ((q : Int)).toNat = f := by have := HSL.out; simp; omega
          rw [e, HS.out]
        have hyk : ys.length < m := by have := HF.out.len; omega
        clear hs
        rcases hff with hff | ⟨rfl, rfl⟩
        · gi_wp2_with fail
          refine ⟨trivial, fun h => (by cases h), callsIn_wide.2 ((spanOver_any (S.drop f) q k HDL _ _ _ hsps (by omega) (by omega) HDD.out).mono ?_)⟩
          rintro e w1 ⟨rfl, hb1⟩
          rw [HS.out]
          have hB1 := hA.trans (hb1.mono hA.size)
          have hbx := Box3.new w1 (.int .i64 (s.fr : Int)) (.int .i64 (s.rt : Int)) (.int .i64 (s.dp : Int))
          have hB2 : Below wr.heap.size wr (w1.alloc (.cells #[.int .i64 (s.fr : Int), .int .i64 (s.rt : Int), .int .i64 (s.dp : Int)] 190)) := hB1.alloc hB1.size _
          have hf2 := hfree.below hB2
          obtain ⟨fn, tmps, assign, body, hy, hR⟩ := hY ys U s _ (hJ _ _ _ _ hj (But.ofBelow hB2)) hyk ⟨_, _, HST2.out⟩
          simp only [encSp] at hy
          have s1 : wr.heap.size ≤ w1.heap.size := hB1.size
          have hb2 := hb.trans (hB2.mono (by have := hb.size; have := HSZ.out; omega))
          clear hj hb hb1 hB1 hfree hfreeA hsps hA c0 c1 c2 c3 c4
          gi_wp2
          refine ⟨fun h => (by cases h), hR.mono ?_⟩
          rintro e W3 (⟨rfl, ⟨U', hJ3, hU3⟩, hk3⟩ | ⟨rfl, hJx3⟩)
          · have hnm : ¬ Turns n₀ (w.heap.size + 2) U w1.heap.size := fun h => h.2.elim (fun h => by omega) (fun h => by have := hUl _ h; omega)
            have hng : ¬ Turns n₀ (w.heap.size + 2) U g := fun h => h.2.elim (fun h => by omega) hUg
            have hUg3 : ¬ U' g := fun h => (hU3 g h).elim hUg (fun h => by have := hcap.2.2; have := hB2.size; omega)
            have hUl3 := (hJU _ _ _ hJ3).1
            have hbx3 : Box3 W3 w1.heap.size (.int .i64 (s.fr : Int)) (.int .i64 (s.rt : Int)) (.int .i64 (s.dp : Int)) := (hk3.block _ hbx.lt hnm).trans hbx
            have hf3 := (hf2.but hk3 hng).take f (by omega)
            have hb3 : Below n₀ w00 W3 := hb2.trans (hk3.below (by have := hB2.size; have := hb2.size; have := HSZ.out; omega) (fun q hq => hq.1))
            have hs3 : w.heap.size + 2 ≤ W3.heap.size := by have := hk3.size; have := hB2.size; omega
            obtain ⟨q0, q1, q2⟩ := hbx3.cells
            have hown := hf3.2
            have hfc : f ≤ c := by omega
            clear hk3 hbx hB2 hf2 hb2 hbx3 hnm hng hy hR
            gi_wp2
            refine wpIn_wide.2 ?_
            go_region_law (refine step_append2 _ rfl (.tmp 42) (.tmp 44) 198 rfl (w.heap.size + 2) 190 i0 _ 3 24 Tryz.underlying198 hi hz0 hz1 hz2 rfl (by decide) g f c _ rfl ((hown.alloc _).drew) ⟨_, 0, none⟩ 1 1 s.row rfl rfl ?_ (row3_one s) ?_ ?_ ?_ ?_; exact new3_drew _ s; (unfold maxLen; omega); omega; (simp; omega); intro g' c' w4 hown4 hgrow4 hwh)
            have hAllB : But (fun k => w.heap.size + 2 ≤ k ∧ ¬ U' k) W3 w4 := grown_but hgrow4 hcap.2.1 hUg3
            have hUg4 : ¬ U' g' := fun h => hwh.elim (fun e => hUg3 (e ▸ h)) (fun e => by have h9 := hUl3 _ h; rw [e] at h9; simp at h9; omega)
            have hAll : Below (w.heap.size + 2) W3 w4 := (((Below.refl _ W3).alloc hs3 _).drew).grown hgrow4 (by simp; omega) (fun q hq => by cases hq; exact hcap.2.1)
            have F4 : Free w4 (w.heap.size + 2) g' (f + 1) c' (S.take f ++ [s]) := by
              refine ⟨by have := HSL.out; simp; omega, ?_⟩
              rw [flat3_append]
              have e : flat3 [s] = s.row := by simp [flat3]
              rw [e]
              exact hown4
            have J4 := hJ _ _ _ _ hJ3 hAllB
            have B4 := hb3.trans (hAll.mono (by omega))
            have S4 : w.heap.size + 2 ≤ w4.heap.size := by have := hAll.size; omega
            clear hown4 hgrow4 hwh hown hAll hAllB hUl3 hUg3 hf3 hb3 hJ3 q0 q1 q2
            gi_wp2
            go_roundw
            case rel => exact ⟨k + 1, g', f + 1, c', _, _, U', by omega, by go_num, HST2.out, rfl, F4, J4, hUg4, B4, S4⟩
            case measure => simp [intOf]; omega
          · gi_wp2
            refine bodyPost_ret (results_none rfl _ _ _) rfl ?_
            exact ⟨⟨_, rfl⟩, .inr ⟨ys ++ [s], ⟨_, _, HST2.out⟩, hJx3⟩⟩
        · gi_wp2_with fail
          refine ⟨trivial, fun h => (by cases h), callsIn_wide.2 ((spanOver_any (S.drop c) 0 k HDL _ _ _ (by have h9 : S.drop c = [] := List.eq_nil_of_length_eq_zero HDL.out; rw [h9]; intro i hi; simp at hi) (by omega) (by omega) HDD.out).mono ?_)⟩
          rintro e w1 ⟨rfl, hb1⟩
          rw [HS.out]
          have hB1 := hA.trans (hb1.mono hA.size)
          have hbx := Box3.new w1 (.int .i64 (s.fr : Int)) (.int .i64 (s.rt : Int)) (.int .i64 (s.dp : Int))
          have hB2 : Below wr.heap.size wr (w1.alloc (.cells #[.int .i64 (s.fr : Int), .int .i64 (s.rt : Int), .int .i64 (s.dp : Int)] 190)) := hB1.alloc hB1.size _
          have hf2 := hfree.below hB2
          obtain ⟨fn, tmps, assign, body, hy, hR⟩ := hY ys U s _ (hJ _ _ _ _ hj (But.ofBelow hB2)) hyk ⟨_, _, HST2.out⟩
          simp only [encSp] at hy
          have s1 : wr.heap.size ≤ w1.heap.size := hB1.size
          have hb2 := hb.trans (hB2.mono (by have := hb.size; have := HSZ.out; omega))
          clear hj hb hb1 hB1 hfree hfreeA hsps hA c0 c1 c2 c3 c4
          gi_wp2
          refine ⟨fun h => (by cases h), hR.mono ?_⟩
          rintro e W3 (⟨rfl, ⟨U', hJ3, hU3⟩, hk3⟩ | ⟨rfl, hJx3⟩)
          · have hnm : ¬ Turns n₀ (w.heap.size + 2) U w1.heap.size := fun h => h.2.elim (fun h => by omega) (fun h => by have := hUl _ h; omega)
            have hng : ¬ Turns n₀ (w.heap.size + 2) U g := fun h => h.2.elim (fun h => by omega) hUg
            have hUg3 : ¬ U' g := fun h => (hU3 g h).elim hUg (fun h => by have := hcap.2.2; have := hB2.size; omega)
            have hUl3 := (hJU _ _ _ hJ3).1
            have hbx3 : Box3 W3 w1.heap.size (.int .i64 (s.fr : Int)) (.int .i64 (s.rt : Int)) (.int .i64 (s.dp : Int)) := (hk3.block _ hbx.lt hnm).trans hbx
            have hf3 := (hf2.but hk3 hng).take c (by omega)
            have hb3 : Below n₀ w00 W3 := hb2.trans (hk3.below (by have := hB2.size; have := hb2.size; have := HSZ.out; omega) (fun q hq => hq.1))
            have hs3 : w.heap.size + 2 ≤ W3.heap.size := by have := hk3.size; have := hB2.size; omega
            obtain ⟨q0, q1, q2⟩ := hbx3.cells
            have hown := hf3.2
            have hfc : c ≤ c := by omega
            clear hk3 hbx hB2 hf2 hb2 hbx3 hnm hng hy hR
            gi_wp2
            refine wpIn_wide.2 ?_
            go_region_law (refine step_append2 _ rfl (.tmp 42) (.tmp 44) 198 rfl (w.heap.size + 2) 190 i0 _ 3 24 Tryz.underlying198 hi hz0 hz1 hz2 rfl (by decide) g c c _ rfl ((hown.alloc _).drew) ⟨_, 0, none⟩ 1 1 s.row rfl rfl ?_ (row3_one s) ?_ ?_ ?_ ?_; exact new3_drew _ s; (unfold maxLen; omega); omega; (simp; omega); intro g' c' w4 hown4 hgrow4 hwh)
            have hAllB : But (fun k => w.heap.size + 2 ≤ k ∧ ¬ U' k) W3 w4 := grown_but hgrow4 hcap.2.1 hUg3
            have hUg4 : ¬ U' g' := fun h => hwh.elim (fun e => hUg3 (e ▸ h)) (fun e => by have h9 := hUl3 _ h; rw [e] at h9; simp at h9; omega)
            have hAll : Below (w.heap.size + 2) W3 w4 := (((Below.refl _ W3).alloc hs3 _).drew).grown hgrow4 (by simp; omega) (fun q hq => by cases hq; exact hcap.2.1)
            have F4 : Free w4 (w.heap.size + 2) g' (c + 1) c' (S.take c ++ [s]) := by
              refine ⟨by have := HSL.out; simp; omega, ?_⟩
              rw [flat3_append]
              have e : flat3 [s] = s.row := by simp [flat3]
              rw [e]
              exact hown4
            have J4 := hJ _ _ _ _ hJ3 hAllB
            have B4 := hb3.trans (hAll.mono (by omega))
            have S4 : w.heap.size + 2 ≤ w4.heap.size := by have := hAll.size; omega
            clear hown4 hgrow4 hwh hown hAll hAllB hUl3 hUg3 hf3 hb3 hJ3 q0 q1 q2
            gi_wp2
            go_roundw
            case rel => exact ⟨k + 1, g', c + 1, c', _, _, U', by omega, by go_num, HST2.out, rfl, F4, J4, hUg4, B4, S4⟩
            case measure => simp [intOf]; omega
          · gi_wp2
            refine bodyPost_ret (results_none rfl _ _ _) rfl ?_
            exact ⟨⟨_, rfl⟩, .inr ⟨ys ++ [s], ⟨_, _, HST2.out⟩, hJx3⟩⟩
    · have HE : Hid (Came t ys) := ⟨k, S, hst, Or.inl (by have := HM.out; omega)⟩
      clear hx hfree
      gi_wp2
      go_end0
      exact ⟨⟨_, rfl⟩, .inl ⟨ys, U, HE.out, hj⟩⟩

theorem spans1_any (t : List Nd) (m : Nat) (HM : Hid (t.length = m)) (hm : m ≤ 60000) (ao : Option Addr) (cap Bn n₀ n : Nat) (w : World) (hn₀ : n₀ ≤ w.heap.size) (hBn : Bn < w.heap.size) (hbox : w.cell? ⟨Bn, 0, none⟩ = some (.slice ao m cap))
    (w00 : World) (hsz : w00.heap.size = n₀) (hx : Nodes w00 ao t) (hw00 : Below n₀ w00 w) :
    Iter Fence.wide n Tryz.prog 106 #[.pointer (some ⟨Bn, 0, none⟩)] encSp (Came t) (Part t) (fun pre x => Part t (pre ++ [x])) (fun _ => True) m n₀ w :=
  (spans1_turn t m HM hm ao cap Bn n₀ n w hn₀ hBn hbox w00 hsz hx hw00).iter

end Go.Proofs.YthioecjcnajmgaaGreatDoor

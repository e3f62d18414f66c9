import Derived.Test.YtoiiibplkhedcaaGreatDoorWAC
import Derived.Deep.OwnRows
set_option maxRecDepth 100000
set_option maxHeartbeats 2000000
namespace Go.Proofs.YtoiiibplkhedcaaGreatDoor
structure Sp where
  fr : Nat
  rt : Nat
  dp : Nat
def dpOf (kids : List Sp) : Nat := kids.foldl (fun d k => max d (k.dp + 1)) 1
def frOf (kids : List Sp) (i : Nat) : Nat := match kids with
  | [] => i
  | k :: _ => k.fr
def over (kids : List Sp) (i : Nat) : Sp := ⟨frOf kids i, i, dpOf kids⟩
def step (S : List Sp) (i : Nat) (n : Int) : Option (List Sp × Sp) :=
  if n < 0 ∨ (S.length : Int) < n then none
  else some (S.take (S.length - n.toNat) ++ [over (S.drop (S.length - n.toNat)) i], over (S.drop (S.length - n.toNat)) i)
def Qag (t : List Nd) : Nat → Option (List Sp × List Sp)
  | 0 => some ([], [])
  | k + 1 => match Qag t k with
    | none => none
    | some (S, ys) => match t[k]? with
      | none => none
      | some x => match step S k x.kids with
        | none => none
        | some (S', s) => some (S', ys ++ [s])
theorem Qdm {t : List Nd} {k : Nat} {S ys S' : List Sp} {s : Sp} (h : Qag t k = some (S, ys)) (hk : k < t.length) (hs : step S k t[k].kids = some (S', s)) : Qag t (k + 1) = some (S', ys ++ [s]) := by
  simp only [Qag, h, List.getElem?_eq_getElem hk, hs]
theorem Qlz {t : List Nd} {k : Nat} {S ys : List Sp} (h : Qag t k = some (S, ys)) (hk : k < t.length) (hs : step S k t[k].kids = none) : Qag t (k + 1) = none := by
  simp only [Qag, h, List.getElem?_eq_getElem hk, hs]
theorem Qlx {t : List Nd} {k : Nat} (h : Qag t k = none) : ∀ m, k ≤ m → Qag t m = none := by
  intro m hm
  induction m with
  | zero => have : k = 0 := by omega
            subst this; exact h
  | succ m ih =>
    by_cases e : k = m + 1
    · subst e; exact h
    · simp only [Qag, ih (by omega)]
theorem Qcq {t : List Nd} {k : Nat} {S' ys' : List Sp} (h : Qag t (k + 1) = some (S', ys')) : ∃ S ys s, ∃ hk : k < t.length, Qag t k = some (S, ys) ∧ step S k t[k].kids = some (S', s) ∧ ys' = ys ++ [s] := by
  simp only [Qag] at h
  cases ha : Qag t k with
  | none => simp [ha] at h
  | some p =>
    obtain ⟨S, ys⟩ := p
    simp only [ha] at h
    by_cases hk : k < t.length
    · rw [List.getElem?_eq_getElem hk] at h
      simp only at h
      cases hs : step S k t[k].kids with
      | none => simp [hs] at h
      | some q =>
        obtain ⟨S2, s⟩ := q
        simp only [hs, Option.some.injEq, Prod.mk.injEq] at h
        obtain ⟨rfl, rfl⟩ := h
        exact ⟨S, ys, s, hk, rfl, hs, rfl⟩
    · rw [List.getElem?_eq_none (by omega)] at h
      simp at h
theorem Qdq {S : List Sp} {i : Nat} {n : Int} {S' : List Sp} {s : Sp} (h : step S i n = some (S', s)) :
    0 ≤ n ∧ n ≤ S.length ∧ S' = S.take (S.length - n.toNat) ++ [s] ∧ s = over (S.drop (S.length - n.toNat)) i := by
  unfold step at h
  split at h
  · simp at h
  · simp only [Option.some.injEq, Prod.mk.injEq] at h
    obtain ⟨h1, h2⟩ := h
    subst h2
    exact ⟨by omega, by omega, h1.symm, rfl⟩
theorem Qhs {S : List Sp} {i : Nat} {n : Int} (h0 : 0 ≤ n) (h1 : n ≤ S.length) : step S i n = some (S.take (S.length - n.toNat) ++ [over (S.drop (S.length - n.toNat)) i], over (S.drop (S.length - n.toNat)) i) := by
  unfold step
  rw [if_neg (by omega)]
theorem Qno {S : List Sp} {i : Nat} {n : Int} (h : n < 0 ∨ (S.length : Int) < n) : step S i n = none := by
  unfold step
  rw [if_pos h]
def Jcq (S : List Sp) (k : Nat) : Prop :=
  (∀ j (h : j < S.length), S[j].fr ≤ S[j].rt ∧ S[j].rt < k) ∧ (∀ j (h : j + 1 < S.length), S[j].rt + 1 = S[j + 1].fr) ∧ (∀ h : 0 < S.length, S[0].fr = 0 ∧ (S[S.length - 1]'(by omega)).rt + 1 = k) ∧ (S.length = 0 → k = 0)
structure Fine (k : Nat) (S ys : List Sp) : Prop where
  len : ys.length = k
  root : ∀ i (h : i < ys.length), ys[i].rt = i ∧ ys[i].fr ≤ i ∧ 1 ≤ ys[i].dp ∧ ys[i].dp ≤ i + 1
  chain : Jcq S k
  mem : ∀ j (h : j < S.length), ys[S[j].rt]? = some S[j]
theorem Qxs (kids : List Sp) (b : Nat) (h : ∀ x ∈ kids, x.dp ≤ b) : 1 ≤ dpOf kids ∧ dpOf kids ≤ b + 1 := by
  unfold dpOf
  have key : ∀ (l : List Sp) (d : Nat), (∀ x ∈ l, x.dp ≤ b) → 1 ≤ d → d ≤ b + 1 → 1 ≤ l.foldl (fun d k => max d (k.dp + 1)) d ∧ l.foldl (fun d k => max d (k.dp + 1)) d ≤ b + 1 := by
    intro l
    induction l with
    | nil => intro d _ h1 h2; exact ⟨h1, h2⟩
    | cons x l ih =>
      intro d hl h1 h2
      have hx := hl x (by simp)
      exact ih (max d (x.dp + 1)) (fun y hy => hl y (by simp [hy])) (by omega) (by omega)
  exact key kids 1 h (by omega) (by omega)
theorem Fine.snoc {k : Nat} {S ys : List Sp} {n : Int} {S' : List Sp} {s : Sp} (hf : Fine k S ys) (hstep : step S k n = some (S', s)) : Fine (k + 1) S' (ys ++ [s]) := by
  obtain ⟨h0, h1, rfl, hs⟩ := Qdq hstep
  clear hstep
  obtain ⟨m, hm⟩ : ∃ m, m = S.length - n.toNat := ⟨_, rfl⟩
  rw [← hm] at hs ⊢
  have hmS : m ≤ S.length := by omega
  have hrt : s.rt = k := by rw [hs]; rfl
  have hlt : (S.take m).length = m := by simp; omega
  have hfr : s.fr = if h : m < S.length then S[m].fr else k := by
    rw [hs]
    show frOf (S.drop m) k = _
    split
    · rename_i h
      rw [List.drop_eq_getElem_cons h]
      rfl
    · rename_i h
      rw [List.drop_eq_nil_of_le (by omega)]
      rfl
  have hfk : s.fr ≤ k := by
    rw [hfr]
    split
    · rename_i h
      have := hf.chain.1 m h
      omega
    · omega
  have hdp : 1 ≤ s.dp ∧ s.dp ≤ k + 1 := by
    rw [hs]
    refine Qxs (S.drop m) k ?_
    intro x hx
    obtain ⟨j, hj, rfl⟩ := List.getElem_of_mem hx
    rw [List.getElem_drop]
    have hjS : m + j < S.length := by simp at hj; omega
    have h2 := hf.mem (m + j) hjS
    obtain ⟨hlt2, he⟩ := List.getElem?_eq_some_iff.1 h2
    have h3 := hf.root _ hlt2
    rw [he] at h3
    have := hf.len
    omega
  refine ⟨by simp [hf.len], ?_, ⟨?_, ?_, ?_, ?_⟩, ?_⟩
  · intro i hi
    by_cases hik : i < ys.length
    · rw [List.getElem_append_left hik]; exact hf.root i hik
    · have hl := hf.len
      have e : i = k := by simp at hi; omega
      subst e
      rw [List.getElem_append_right (by omega)]
      simp only [List.getElem_singleton]
      exact ⟨hrt, hfk, hdp⟩
  · intro j hj
    by_cases hjm : j < m
    · rw [List.getElem_append_left (by omega), List.getElem_take]
      have := hf.chain.1 j (by omega)
      omega
    · rw [List.getElem_append_right (by omega)]
      simp only [List.getElem_singleton]
      omega
  · intro j hj
    simp only [List.length_append, hlt, List.length_cons, List.length_nil] at hj
    rw [List.getElem_append_left (by omega), List.getElem_take]
    by_cases hjm : j + 1 < m
    · rw [List.getElem_append_left (by omega), List.getElem_take]
      exact hf.chain.2.1 j (by omega)
    · rw [List.getElem_append_right (by omega)]
      simp only [List.getElem_singleton]
      rw [hfr]
      have e : m = j + 1 := by omega
      subst e
      split
      · rename_i h; exact hf.chain.2.1 j h
      · rename_i h
        have h2 := hf.chain.2.2.1 (by omega)
        have e2 : S.length - 1 = j := by omega
        have h3 := h2.2
        simp only [e2] at h3
        exact h3
  · intro h
    constructor
    · by_cases hm0 : 0 < m
      · rw [List.getElem_append_left (by omega), List.getElem_take]
        exact (hf.chain.2.2.1 (by omega)).1
      · rw [List.getElem_append_right (by omega)]
        simp only [List.getElem_singleton]
        rw [hfr]
        have e : m = 0 := by omega
        subst e
        split
        · rename_i h2; exact (hf.chain.2.2.1 h2).1
        · rename_i h2; have := hf.chain.2.2.2 (by omega); omega
    · rw [List.getElem_append_right (by simp)]
      simp only [List.getElem_singleton]
      omega
  · intro h
    simp at h
  · intro j hj
    simp only [List.length_append, hlt, List.length_cons, List.length_nil] at hj
    by_cases hjm : j < m
    · rw [List.getElem_append_left (by omega), List.getElem_take]
      have h1 := hf.mem j (by omega)
      have h2 := (List.getElem?_eq_some_iff.1 h1).1
      rw [List.getElem?_append_left h2]
      exact h1
    · rw [List.getElem_append_right (by omega)]
      simp only [List.getElem_singleton, hrt]
      rw [List.getElem?_append_right (by have := hf.len; omega)]
      have : k - ys.length = 0 := by have := hf.len; omega
      rw [this]
      rfl
theorem Qaf {t : List Nd} : ∀ {k : Nat} {S ys : List Sp}, Qag t k = some (S, ys) → Fine k S ys := by
  intro k
  induction k with
  | zero =>
    intro S ys h
    simp only [Qag, Option.some.injEq, Prod.mk.injEq] at h
    obtain ⟨rfl, rfl⟩ := h
    exact ⟨rfl, fun i h => by simp at h, ⟨fun j h => by simp at h, fun j h => by simp at h, fun h => by simp at h, fun _ => rfl⟩, fun j h => by simp at h⟩
  | succ k ih =>
    intro S' ys' h
    obtain ⟨S, ys, s, hk, ha, hs, rfl⟩ := Qcq h
    exact (ih ha).snoc hs
theorem Qee {t : List Nd} {k : Nat} {S ys : List Sp} (h : Qag t k = some (S, ys)) : k ≤ t.length := by
  cases k with
  | zero => omega
  | succ k => obtain ⟨_, _, _, hk, _⟩ := Qcq h; omega
theorem Qdn {t : List Nd} {k : Nat} {S ys : List Sp} (h : Qag t k = some (S, ys)) : ∀ m, m ≤ k → ∃ S', Qag t m = some (S', ys.take m) := by
  intro m hm
  induction k generalizing S ys with
  | zero =>
    have : m = 0 := by omega
    subst this
    exact ⟨S, by simp only [Qag, Option.some.injEq, Prod.mk.injEq] at h ⊢; obtain ⟨rfl, rfl⟩ := h; simp⟩
  | succ k ih =>
    have hfl := (Qaf h).len
    by_cases e : m = k + 1
    · subst e
      exact ⟨S, by rw [List.take_of_length_le (by omega)]; exact h⟩
    · obtain ⟨S0, ys0, s, hk, ha, hs, rfl⟩ := Qcq h
      obtain ⟨S', h'⟩ := ih ha (by omega)
      have hl := (Qaf ha).len
      exact ⟨S', by rw [List.take_append_of_le_length (by omega)]; exact h'⟩
theorem Qkk {S : List Sp} {k : Nat} (h : Jcq S k) : S.length ≤ k := by
  have key : ∀ j (hj : j < S.length), j ≤ S[j].rt := by
    intro j
    induction j with
    | zero => intro _; omega
    | succ j ih =>
      intro hj
      have h1 := ih (by omega)
      have h2 := h.2.1 j hj
      have h3 := (h.1 (j + 1) hj).1
      omega
  by_cases h0 : S.length = 0
  · omega
  · have h1 := key (S.length - 1) (by omega)
    have h2 := (h.1 (S.length - 1) (by omega)).2
    omega
def deepOf (t : List Nd) : Nat :=
  if 6000 < t.length then 0 else match Qag t t.length with
  | none => 0
  | some (_, ys) => match ys.getLast? with
    | none => 0
    | some s => if s.fr = 0 ∧ s.dp ≤ 300 then s.dp else 0
end Go.Proofs.YtoiiibplkhedcaaGreatDoor
namespace Go.Proofs.YtoiiibplkhedcaaGreatDoor
open Go.RowKit
theorem Tryz.infoI : (Tryz.prog.info? 3).map (fun i => (i.zero, i.size, i.bytes)) = some (some (.int .i64 0), 1, 8) := by kernel_rfl
def ints (xs : List Int) : List Value := xs.map (Value.int .i64)
def Ints (w : World) (B g cap : Nat) (n : Nat) (xs : List Int) : Prop := xs.length = n ∧ w.ownsRow B 3 1 (.slice (some ⟨g, 0, none⟩) n cap) n (ints xs)
theorem Ints.at {w : World} {B g cap n : Nat} {xs : List Int} (h : Ints w B g cap n xs) (j : Nat) (hj : j < xs.length) : w.cell? ⟨g, j, none⟩ = some (.int .i64 xs[j]) := by
  rw [Qdu h.2 j (by have := h.1; omega)]
  simp [ints, List.getElem?_eq_getElem hj]
theorem Ints.alloc {w : World} {B g cap n : Nat} {xs : List Int} (h : Ints w B g cap n xs) (o : Obj) : Ints (w.alloc o) B g cap n xs := ⟨h.1, h.2.alloc o⟩
theorem Ints.below {w w' : World} {B g cap n : Nat} {xs : List Int} (h : Ints w B g cap n xs) (hb : Below w.heap.size w w') : Ints w' B g cap n xs :=
  ⟨h.1, Qah (S := fun _ => False) h.2 (But.ofBelow hb) (fun h => h)⟩
theorem Ints.kept {w w' : World} {B g cap n k : Nat} {xs : List Int} (h : Ints w B g cap n xs) (hg : w.grownBy w' (some k)) (hne : g ≠ k) : Ints w' B g cap n xs := ⟨h.1, Qjr h.2 hg hne⟩
theorem Ints.take {w : World} {B g cap n : Nat} {xs : List Int} (h : Ints w B g cap n xs) (m : Nat) (hm : m ≤ n) : Ints w B g cap m (xs.take m) := by
  refine ⟨by have := h.1; simp; omega, ?_⟩
  have := Qdt h.2 m hm
  simpa [ints, List.map_take] using this
theorem Ints.block {w : World} {B g cap n : Nat} {xs : List Int} (h : Ints w B g cap n xs) : B ≤ g ∧ g < w.heap.size := Qad h.2
theorem Ints.cap {w : World} {B g cap n : Nat} {xs : List Int} (h : Ints w B g cap n xs) : n ≤ cap := by
  rcases h.2.2 with ⟨h', _⟩ | ⟨g2, cap2, cur, he, hb, hh, hnc, r⟩
  · cases h'
  · simp only [Value.slice.injEq, Option.some.injEq, Addr.mk.injEq, and_true, true_and] at he
    obtain ⟨rfl, rfl⟩ := he
    exact hnc
theorem Ints.empty {w : World} {B : Nat} (hB : B ≤ w.heap.size) : Ints (w.alloc (.cells #[] 3)) B w.heap.size 0 0 [] :=
  ⟨rfl, rfl, Or.inr ⟨_, 0, #[], rfl, hB, heap_alloc_new _ _, Nat.le_refl _, by simp [maxLen], rfl, rfl⟩⟩
theorem Ints.push {w : World} {B g cap n m : Nat} {xs : List Int} {x : Int} (h : w.ownsRow B 3 1 (.slice (some ⟨g, 0, none⟩) m cap) m (ints xs ++ [.int .i64 x])) (hn : xs.length = n) (hm : m = n + 1) : Ints w B g cap (n + 1) (xs ++ [x]) := by
  subst hm
  refine ⟨by simp [hn], ?_⟩
  simpa [ints] using h
theorem Qdg (w : World) (v : Value) : ∀ j u, [v][j]? = some u → (w.alloc (.cells #[v] 3)).cell? (Addr.add ⟨w.heap.size, 0, none⟩ j) = some u := by
  intro j u hj
  match j, hj with
  | 0, hj =>
    simp at hj
    subst hj
    have ad : Addr.add ⟨w.heap.size, 0, none⟩ 0 = ⟨w.heap.size, 0, none⟩ := by unfold Addr.add; simp
    rw [ad, cell_of_row _ w.heap.size 0 _ 3 (0, 0) (heap_alloc_new _ _)]
    rfl
theorem Qeh (x : Int) : ∀ u ∈ [Value.int .i64 x], u.oneCell' = true := by
  intro u hu
  simp at hu
  subst hu
  rfl
def szOf (s : Sp) : Int := (s.rt : Int) - s.fr + 1
def Qby (t : List Nd) : List Int := match Qag t t.length with
  | none => []
  | some (_, ys) => ys.map szOf
def frs (S : List Sp) : List Int := S.map fun s => (s.fr : Int)
theorem Qqm (t : List Nd) (m : Nat) (HM : Hid (t.length = m)) (hm : m ≤ 60000) (ao : Option Addr) (cap : Nat) (w : World) (hx : Nodes w ao t) :
    Calls Tryz.prog 15 #[.slice ao m cap] w fun e w' => ∃ g c n, e = .returned (.slice (some ⟨g, 0, none⟩) n c) ∧ Ints w' w.heap.size g c n (Qby t) ∧ Below w.heap.size w w' := by
  obtain ⟨i0, hi, hz0, hz1, hz2⟩ := info_parts Tryz.infoI
  go_enter Tryz.func15, Tryz.ntmps15
  go_wp2
  go_loopw [3, 4, 5] (fun vs vo p wr => ∃ (k l gs cs go co : Nat) (S ys : List Sp), k ≤ m ∧ p = .int .i64 k ∧ Qag t k = some (S, ys) ∧ vs = .slice (some ⟨gs, 0, none⟩) k cs ∧ vo = .slice (some ⟨go, 0, none⟩) l co ∧
      Ints wr w.heap.size gs cs k (ys.map szOf) ∧ Ints wr w.heap.size go co l (frs S) ∧ gs ≠ go ∧ Below w.heap.size w wr) (fun _ _ p _ => m - (intOf p).toNat)
  case atStart =>
    refine ⟨0, 0, w.heap.size, 0, w.heap.size + 1, 0, [], [], Nat.zero_le _, rfl, rfl, rfl, rfl, (Ints.empty (Nat.le_refl _)).alloc _, ?_, by omega, ((Below.refl _ w).alloc (Nat.le_refl _) _).alloc (by simp) _⟩
    have := Ints.empty (w := w.alloc (.cells #[] 3)) (B := w.heap.size) (by simp)
    rw [World.size_alloc] at this
    exact this
  case round =>
    obtain ⟨k, l, gs, cs, go, co, S, ys, hk, rfl, hst, rfl, rfl, his, hio, hne, hb⟩ := hrel
    by_cases hlt : k < m
    · have hltk : k < t.length := by have := HM.out; omega
      obtain ⟨b, o, rfl, hn⟩ := hx.below hb k hltk
      obtain ⟨x, hxk⟩ : ∃ x, t[k] = x := ⟨_, rfl⟩
      rw [hxk] at hn
      obtain ⟨_, _, _, c3, _⟩ := hn
      have HXK : Hid (t[k] = x) := hxk
      have HST : Hid (Qag t k = some (S, ys)) := hst
      have HSL : Hid (S.length = l) := by have h9 := hio.1; simp [frs] at h9; exact h9
      have hfine := Qaf hst
      have HF : Hid (Fine k S ys) := hfine
      have hlk : l ≤ k := by have h1 := Qkk hfine.chain; have := HSL.out; omega
      clear hx hxk hst hfine
      by_cases hbad : x.kids < 0 ∨ (l : Int) < x.kids
      · have HE : Hid (Qby t = []) := by
          have h1 : Qag t (k + 1) = none := Qlz HST.out hltk (by rw [HXK.out]; exact Qno (by have := HSL.out; rw [this]; exact hbad))
          show Qby t = []
          unfold Qby
          rw [Qlx h1 t.length (by omega)]
        have hfin : Ints (wr.alloc (.cells #[] 3)) w.heap.size wr.heap.size 0 0 (Qby t) := by rw [HE.out]; exact Ints.empty hb.size
        have hbb := hb.alloc hb.size (.cells #[] 3)
        clear his hio hb
        by_cases hneg : x.kids < 0
        · go_wp2
          go_ret
          exact ⟨_, _, _, rfl, hfin, hbb⟩
        · have hgt : (l : Int) < x.kids := by omega
          go_wp2
          go_ret
          exact ⟨_, _, _, rfl, hfin, hbb⟩
      · obtain ⟨q, hq⟩ : ∃ q : Nat, x.kids = (q : Int) := ⟨x.kids.toNat, by omega⟩
        have HQ : Hid (x.kids = (q : Int)) := hq
        rw [hq] at c3 hbad
        have hqS : q ≤ l := by omega
        obtain ⟨f, rfl⟩ : ∃ f, l = f + q := ⟨l - q, by omega⟩
        clear hq hbad
        obtain ⟨s, hs⟩ : ∃ s, over (S.drop f) k = s := ⟨_, rfl⟩
        have HS : Hid (over (S.drop f) k = s) := hs
        have HST2 : Hid (Qag t (k + 1) = some (S.take f ++ [s], ys ++ [s])) := by
          refine Qdm HST.out hltk ?_
          rw [HXK.out, HQ.out, Qhs (by omega) (by have := HSL.out; omega)]
          have e : S.length - ((q : Int)).toNat = f := by have := HSL.out; simp; omega
          rw [e, HS.out]
        have hsfr : s.fr ≤ k := by
          have h1 := (Qaf HST2.out).root k (by have := (Qaf HST2.out).len; omega)
          have h2 : (ys ++ [s])[k]'(by have := (Qaf HST2.out).len; omega) = s := by
            rw [List.getElem_append_right (by have := HF.out.len; omega)]
            simp
          rw [h2] at h1
          exact h1.2.1
        have HRT : Hid (s.rt = k) := by rw [← hs]; rfl
        have hcap := hio.cap
        have hbo := hio.block
        have hbs := his.block
        have hot := hio.take f (by omega)
        have hfc : f ≤ co := by omega
        clear hs
        by_cases hq0 : 0 < q
        · have hfS : f < S.length := by have := HSL.out; omega
          have hcf : wr.cell? ⟨go, f, none⟩ = some (.int .i64 (s.fr : Int)) := by
            rw [hio.at f (by simp [frs]; exact hfS)]
            have : S[f].fr = s.fr := by
              rw [← HS.out]
              show _ = frOf (S.drop f) k
              rw [List.drop_eq_getElem_cons hfS]
              rfl
            simp [frs, this]
          go_wp2_with (at_builtin; refine Qac _ rfl (.tmp 45) (.tmp 47) 40 rfl w.heap.size 3 i0 _ 1 8 Tryz.underlying40 hi hz0 hz1 hz2 rfl (by decide) go f co _ rfl (hot.alloc _).2 ⟨_, 0, none⟩ 1 1 [.int .i64 (s.fr : Int)] rfl rfl ?a1 ?a2 ?a3 ?a4 ?a5 ?_)
          case a1 => exact Qdg _ _
          case a2 => exact Qeh _
          case a3 => unfold maxLen; omega
          case a4 => omega
          case a5 => have := hb.size; simp; omega
          intro g2 c2 w2 hown2 hgrow2 hwh
          have hI2 : Ints w2 w.heap.size g2 c2 (f + 1) (frs (S.take f ++ [s])) := by
            have h9 := Ints.push hown2 (hot.1) rfl
            have e9 : frs (S.take f ++ [s]) = (frs S).take f ++ [(s.fr : Int)] := by simp [frs, List.map_take]
            rw [e9]
            exact h9
          have his2 := (his.alloc (.cells #[.int .i64 (s.fr : Int)] 3)).kept hgrow2 hne
          have hne2 : gs ≠ g2 := by rcases hwh with h | h <;> omega
          have hb2 : Below w.heap.size w w2 := (hb.alloc hb.size _).grown hgrow2 (by have := hb.size; simp; omega) (fun q hq => by cases hq; exact hbo.1)
          have hsz2 : w2.heap.size ≥ wr.heap.size := by have := hgrow2.size; simp at this; omega
          have hgb2 := hI2.block
          have hsb2 := his2.block
          clear hown2 hgrow2 hwh his hio hot hb hbo hbs hne
          go_wp2_with (at_builtin; refine Qac _ rfl (.tmp 49) (.tmp 54) 40 rfl w.heap.size 3 i0 _ 1 8 Tryz.underlying40 hi hz0 hz1 hz2 rfl (by decide) gs k cs _ rfl (his2.alloc _).2 ⟨_, 0, none⟩ 1 1 [.int .i64 ((k : Int) - (s.fr : Int) + 1)] rfl rfl ?b1 ?b2 ?b3 ?b4 ?b5 ?_)
          case b1 => exact Qdg _ _
          case b2 => exact Qeh _
          case b3 => unfold maxLen; omega
          case b4 => omega
          case b5 => have := hb2.size; simp; omega
          intro g3 c3' w3 hown3 hgrow3 hwh3
          have hI3 : Ints w3 w.heap.size g3 c3' (k + 1) ((ys ++ [s]).map szOf) := by
            have h9 := Ints.push hown3 (his2.1) rfl
            have e9 : (ys ++ [s]).map szOf = ys.map szOf ++ [(k : Int) - (s.fr : Int) + 1] := by simp [szOf, HRT.out]
            rw [e9]
            exact h9
          have hI2' := (hI2.alloc (.cells #[.int .i64 ((k : Int) - (s.fr : Int) + 1)] 3)).kept hgrow3 hne2.symm
          have hne3 : g3 ≠ g2 := by rcases hwh3 with h | h <;> omega
          have hb3 : Below w.heap.size w w3 := (hb2.alloc hb2.size _).grown hgrow3 (by have := hb2.size; simp; omega) (fun q hq => by cases hq; exact hsb2.1)
          clear hown3 hgrow3 hwh3 his2 hI2 hb2 hne2 hgb2 hsb2
          go_wp2
          go_roundw
          case rel => exact ⟨k + 1, f + 1, g3, c3', g2, c2, _, _, by omega, by go_num, HST2.out, rfl, rfl, hI3, hI2', hne3, hb3⟩
          case measure => simp [intOf]; omega
        · have hq00 : q = 0 := by omega
          subst hq00
          have HFR : Hid (s.fr = k) := by
            rw [← HS.out]
            show frOf (S.drop f) k = k
            rw [List.drop_eq_nil_of_le (by have := HSL.out; omega)]
            rfl
          go_wp2_with (at_builtin; refine Qac _ rfl (.tmp 45) (.tmp 47) 40 rfl w.heap.size 3 i0 _ 1 8 Tryz.underlying40 hi hz0 hz1 hz2 rfl (by decide) go f co _ rfl (hot.alloc _).2 ⟨_, 0, none⟩ 1 1 [.int .i64 (k : Int)] rfl rfl ?a1 ?a2 ?a3 ?a4 ?a5 ?_)
          case a1 => exact Qdg _ _
          case a2 => exact Qeh _
          case a3 => unfold maxLen; omega
          case a4 => omega
          case a5 => have := hb.size; simp; omega
          intro g2 c2 w2 hown2 hgrow2 hwh
          have hI2 : Ints w2 w.heap.size g2 c2 (f + 1) (frs (S.take f ++ [s])) := by
            have h9 := Ints.push hown2 (hot.1) rfl
            have e9 : frs (S.take f ++ [s]) = (frs S).take f ++ [(k : Int)] := by simp [frs, List.map_take, HFR.out]
            rw [e9]
            exact h9
          have his2 := (his.alloc (.cells #[.int .i64 (k : Int)] 3)).kept hgrow2 hne
          have hne2 : gs ≠ g2 := by rcases hwh with h | h <;> omega
          have hb2 : Below w.heap.size w w2 := (hb.alloc hb.size _).grown hgrow2 (by have := hb.size; simp; omega) (fun q hq => by cases hq; exact hbo.1)
          have hsz2 : w2.heap.size ≥ wr.heap.size := by have := hgrow2.size; simp at this; omega
          have hgb2 := hI2.block
          have hsb2 := his2.block
          clear hown2 hgrow2 hwh his hio hot hb hbo hbs hne
          go_wp2_with (at_builtin; refine Qac _ rfl (.tmp 49) (.tmp 54) 40 rfl w.heap.size 3 i0 _ 1 8 Tryz.underlying40 hi hz0 hz1 hz2 rfl (by decide) gs k cs _ rfl (his2.alloc _).2 ⟨_, 0, none⟩ 1 1 [.int .i64 1] rfl rfl ?b1 ?b2 ?b3 ?b4 ?b5 ?_)
          case b1 => exact Qdg _ _
          case b2 => exact Qeh _
          case b3 => unfold maxLen; omega
          case b4 => omega
          case b5 => have := hb2.size; simp; omega
          intro g3 c3' w3 hown3 hgrow3 hwh3
          have hI3 : Ints w3 w.heap.size g3 c3' (k + 1) ((ys ++ [s]).map szOf) := by
            have h9 := Ints.push hown3 (his2.1) rfl
            have e9 : (ys ++ [s]).map szOf = ys.map szOf ++ [1] := by simp [szOf, HRT.out, HFR.out]
            rw [e9]
            exact h9
          have hI2' := (hI2.alloc (.cells #[.int .i64 1] 3)).kept hgrow3 hne2.symm
          have hne3 : g3 ≠ g2 := by rcases hwh3 with h | h <;> omega
          have hb3 : Below w.heap.size w w3 := (hb2.alloc hb2.size _).grown hgrow3 (by have := hb2.size; simp; omega) (fun q hq => by cases hq; exact hsb2.1)
          clear hown3 hgrow3 hwh3 his2 hI2 hb2 hne2 hgb2 hsb2
          go_wp2
          go_roundw
          case rel => exact ⟨k + 1, f + 1, g3, c3', g2, c2, _, _, by omega, by go_num, HST2.out, rfl, rfl, hI3, hI2', hne3, hb3⟩
          case measure => simp [intOf]; omega
    · have hke : k = m := by omega
      have hfin : Ints wr w.heap.size gs cs k (Qby t) := by
        have e9 : Qby t = ys.map szOf := by
          unfold Qby
          have : t.length = k := by have := HM.out; omega
          rw [this, hst]
        rw [e9]
        exact his
      clear hx his hio hst
      go_wp2
      go_ret
      exact ⟨_, _, _, rfl, hfin, hb⟩
theorem Qfm (t : List Nd) (m : Nat) (HM : Hid (t.length = m)) (hm : m ≤ 6000) (ao : Option Addr) (cap : Nat) (w : World) (hx : Nodes w ao t) :
    Calls Tryz.prog 15 #[.slice ao m cap] w fun e w' => ∃ g c n, e = .returned (.slice (some ⟨g, 0, none⟩) n c) ∧ Ints w' w.heap.size g c n (Qby t) ∧ Below w.heap.size w w' :=
  Qqm t m HM (by omega) ao cap w hx
theorem Ints.set {w : World} {B g cap n : Nat} {xs : List Int} (h : Ints w B g cap n xs) (j : Nat) (x : Int) : Ints (w.setCell ⟨g, j, none⟩ (.int .i64 x)) B g cap n (xs.set j x) := by
  refine ⟨by simp [h.1], ?_⟩
  have := (h.2.stored j (.int .i64 x)).1
  simpa [ints, List.map_set] using this
theorem Ints.frozen {w : World} {B g cap n : Nat} {xs : List Int} (h : Ints w B g cap n xs) (j : Nat) : w.frozen? ⟨g, j, none⟩ = false := h.2.frozenAt j
def rts (K : List Sp) : List Int := K.map fun s => (s.rt : Int)
theorem Qte (K : List Sp) (r : Nat) (h : 0 < r) (hr : r ≤ K.length) :
    (List.replicate r (0 : Int) ++ rts (K.drop r)).set (r - 1) ((K[r - 1]'(by omega)).rt : Int) = List.replicate (r - 1) (0 : Int) ++ rts (K.drop (r - 1)) := by
  obtain ⟨r', rfl⟩ : ∃ r', r = r' + 1 := ⟨r - 1, by omega⟩
  simp only [Nat.add_sub_cancel]
  rw [List.replicate_succ', List.append_assoc, List.set_append_right _ _ (by simp)]
  have e : r' - (List.replicate r' (0 : Int)).length = 0 := by simp
  rw [e, List.drop_eq_getElem_cons (show r' < K.length by omega)]
  rfl
theorem Qwp (n : Nat) (h : n ≤ 1048576) (w : World) :
    (Instr.makeSlice 40 (.int .i64 (n : Int)) (.int .i64 (n : Int))).run Tryz.prog w = .ok (.slice (some ⟨w.heap.size, 0, none⟩) n n) (w.alloc (.cells (madeCells #[.int .i64 0] n) 3)) :=
  run_make_row' (P := Tryz.prog) 40 3 (.int .i64 0) 8 Tryz.underlying40 Tryz.infoI rfl .i64 .i64 n (by omega) (by omega) w
theorem Qwq (n : Nat) : (madeCells #[Value.int .i64 0] n).toList = ints (List.replicate n 0) := by
  apply List.ext_getElem?
  intro j
  by_cases hj : j < n
  · simp only [madeCells, Array.toList_map, List.getElem?_map, Array.toList_range, ints]
    rw [List.getElem?_range hj, List.getElem?_replicate, if_pos hj]
    simp [Nat.mod_one]
  · rw [List.getElem?_eq_none (by simp [madeCells]; omega), List.getElem?_eq_none (by simp [ints]; omega)]
theorem Ints.made {w : World} {B n : Nat} (hB : B ≤ w.heap.size) (hn : n ≤ 1048576) : Ints (w.alloc (.cells (madeCells #[.int .i64 0] n) 3)) B w.heap.size n n (List.replicate n 0) := by
  refine ⟨by simp, by simp [ints], Or.inr ⟨_, n, _, rfl, hB, heap_alloc_new _ _, Nat.le_refl _, by unfold maxLen; omega, ?_, ?_⟩⟩
  · simp [madeCells]
  · rw [Qwq, List.take_of_length_le (by simp [ints])]
structure KidsAt (t : List Nd) (ys : List Sp) (i : Nat) (K : List Sp) : Prop where
  num : ∃ h : i < t.length, t[i].kids = (K.length : Int)
  last : ∀ h : 0 < K.length, (K[K.length - 1]'(by omega)).rt + 1 = i
  next : ∀ r (h : 0 < r) (h' : r < K.length), (K[r - 1]'(by omega)).rt + 1 = K[r].fr
  mem : ∀ r (h : r < K.length), ys[K[r].rt]? = some K[r] ∧ K[r].fr ≤ K[r].rt ∧ K[r].rt < i
  dp : ∃ h : i < ys.length, ys[i].dp = dpOf K
  len : K.length ≤ i
theorem Jag {t : List Nd} {S ys : List Sp} {n : Nat} (h : Qag t n = some (S, ys)) (i : Nat) (hi : i < n) : ∃ Si, Qag t i = some (Si, ys.take i) ∧ ∃ hk : i < t.length, KidsAt t ys i (Si.drop (Si.length - t[i].kids.toNat)) := by
  obtain ⟨Si, hSi⟩ := Qdn h i (by omega)
  obtain ⟨Sj, hSj⟩ := Qdn h (i + 1) (by omega)
  obtain ⟨S0, ys0, s, hk, ha, hs, he⟩ := Qcq hSj
  rw [hSi] at ha
  simp only [Option.some.injEq, Prod.mk.injEq] at ha
  obtain ⟨rfl, rfl⟩ := ha
  have hf := Qaf hSi
  have hfn := (Qaf h).len
  obtain ⟨h0, h1, _, hov⟩ := Qdq hs
  obtain ⟨f, hf'⟩ : ∃ f, f = Si.length - t[i].kids.toNat := ⟨_, rfl⟩
  rw [← hf'] at hov
  have hlen : (Si.drop f).length = t[i].kids.toNat := by simp; omega
  have hget : ∀ r (h : r < (Si.drop f).length), (Si.drop f)[r] = Si[f + r]'(by simp at h; omega) := fun r h => List.getElem_drop
  refine ⟨Si, hSi, hk, ?_⟩
  rw [← hf']
  refine ⟨⟨hk, by rw [hlen]; omega⟩, ?_, ?_, ?_, ?_, by have := Qkk hf.chain; simp; omega⟩
  · intro hp
    have h2 := (hf.chain.2.2.1 (by simp at hp; omega)).2
    rw [hget]
    have e : f + ((Si.drop f).length - 1) = Si.length - 1 := by simp at hp ⊢; omega
    simp only [e]
    exact h2
  · intro r hr hr'
    rw [hget, hget]
    have h2 := hf.chain.2.1 (f + (r - 1)) (by simp at hr'; omega)
    have e : f + (r - 1) + 1 = f + r := by omega
    simp only [e] at h2
    exact h2
  · intro r hr
    rw [hget]
    have hlt : f + r < Si.length := by simp at hr; omega
    have h2 := hf.mem (f + r) hlt
    have h3 := hf.chain.1 (f + r) hlt
    have h4 := (List.getElem?_eq_some_iff.1 h2).1
    refine ⟨?_, h3.1, h3.2⟩
    rw [List.getElem?_take] at h2
    rw [if_pos (by simp at h4; omega)] at h2
    exact h2
  · refine ⟨by omega, ?_⟩
    have hyi : ys[i]? = some s := by
      have h5 : (ys.take (i + 1))[i]? = some s := by
        rw [he, List.getElem?_append_right (by simp; omega)]
        have : i - (ys.take i).length = 0 := by simp; omega
        rw [this]
        rfl
      rw [List.getElem?_take, if_pos (by omega)] at h5
      exact h5
    have h6 := (List.getElem?_eq_some_iff.1 hyi).2
    rw [h6, hov]
    rfl
theorem Jce {t : List Nd} {S ys : List Sp} {n : Nat} (h : Qag t n = some (S, ys)) (i : Nat) (hi : i < n) : ∃ K, KidsAt t ys i K := by
  obtain ⟨Si, _, _, h9⟩ := Jag h i hi
  exact ⟨_, h9⟩
theorem Qqr (t : List Nd) (ys K : List Sp) (m i q : Nat) (HM : Hid (t.length = m)) (hm : m ≤ 60000) (HK : Hid (KidsAt t ys i K)) (HQ : Hid (K.length = q)) (him : i < m) (HYL : Hid (ys.length = m)) (ao : Option Addr) (cap gz cz B : Nat) (w : World) (hx : Nodes w ao t) (hz : Ints w B gz cz m (ys.map szOf)) :
    Calls Tryz.prog 36 #[.slice ao m cap, .slice (some ⟨gz, 0, none⟩) m cz, .int .i64 (i : Int)] w fun e w' => ∃ G, e = .returned (.slice (some ⟨G, 0, none⟩) q q) ∧ Ints w' w.heap.size G q q (rts K) ∧ Below w.heap.size w w' := by
  have hit : i < t.length := by have := HM.out; omega
  obtain ⟨b, o, rfl, hn⟩ := hx i hit
  obtain ⟨_, _, _, c3, _⟩ := hn
  have hkn : t[i].kids = (q : Int) := by obtain ⟨h, e⟩ := HK.out.num; rw [e, HQ.out]
  rw [hkn] at c3
  have hqm : q ≤ 60000 := by have := HK.out.len; have := HQ.out; omega
  have hmk := Qwp q (by omega)
  clear hx hkn
  go_enter Tryz.func36, Tryz.ntmps36
  go_wp2
  clear hmk
  have hB1 : Below w.heap.size w (w.alloc (.cells (madeCells #[.int .i64 0] q) 3)) := (Below.refl _ w).alloc (Nat.le_refl _) _
  go_loopw [9, 10] (fun av kv wr => ∃ (r : Nat) (a : Int), r ≤ q ∧ kv = .int .i64 ((r : Int) - 1) ∧ av = .int .i64 a ∧ (∀ h : 0 < r, ∀ h' : r - 1 < K.length, a = (K[r - 1].rt : Int)) ∧ -1 ≤ a ∧ a ≤ 60000 ∧
      Ints wr w.heap.size w.heap.size q q (List.replicate r 0 ++ rts (K.drop r)) ∧ Below w.heap.size w wr) (fun _ kv _ => (intOf kv + 1).toNat)
  case atStart =>
    refine ⟨q, (i : Int) - 1, Nat.le_refl _, rfl, rfl, ?_, by omega, by omega, ?_, hB1⟩
    · intro h h'
      have h2 := HK.out.last (by omega)
      have h3 := HQ.out
      simp only [h3] at h2
      omega
    · have h9 := Ints.made (w := w) (B := w.heap.size) (n := q) (Nat.le_refl _) (by omega)
      have e9 : List.replicate q (0 : Int) ++ rts (K.drop q) = List.replicate q 0 := by
        rw [List.drop_eq_nil_of_le (by have := HQ.out; omega)]
        simp [rts]
      rw [e9]
      exact h9
  case round =>
    obtain ⟨r, a, hr, rfl, rfl, ha, ha1, ha2, hints, hb⟩ := hrel
    by_cases hr0 : 0 < r
    · have hrK : r - 1 < K.length := by have := HQ.out; omega
      obtain ⟨s, hs⟩ : ∃ s, K[r - 1] = s := ⟨_, rfl⟩
      have ha' := ha hr0 hrK
      rw [hs] at ha'
      subst ha'
      obtain ⟨hmem, hfr, hrt⟩ := HK.out.mem (r - 1) hrK
      rw [hs] at hmem hfr hrt
      have hrm : s.rt < m := by omega
      have hlz : s.rt < ys.length := by have := HYL.out; omega
      have cz1 : wr.cell? ⟨gz, s.rt, none⟩ = some (.int .i64 ((s.rt : Int) - (s.fr : Int) + 1)) := by
        have h9 := (hz.below hb).at s.rt (by simp; exact hlz)
        have h8 := (List.getElem?_eq_some_iff.1 hmem).2
        rw [h9]
        simp [szOf, h8]
      have HST : Hid ((List.replicate r (0 : Int) ++ rts (K.drop r)).set (r - 1) (s.rt : Int) = List.replicate (r - 1) (0 : Int) ++ rts (K.drop (r - 1))) := by
        have h9 := Qte K r hr0 (by omega)
        rw [hs] at h9
        exact h9
      have HA : Hid (∀ h : 0 < r - 1, ∀ h' : r - 1 - 1 < K.length, (s.fr : Int) - 1 = (K[r - 1 - 1].rt : Int)) := by
        intro h h'
        have h9 := HK.out.next (r - 1) h hrK
        rw [hs] at h9
        omega
      have hf := hints.frozen (r - 1)
      obtain ⟨v0, hv0⟩ : ∃ v, wr.cell? ⟨w.heap.size, r - 1, none⟩ = some v := ⟨_, hints.at (r - 1) (by have := hints.1; omega)⟩
      have hi2 := hints.set (r - 1) (s.rt : Int)
      rw [HST.out] at hi2
      have hb2 := hb.setCell (p := ⟨w.heap.size, r - 1, none⟩) (Nat.le_refl _) (.int .i64 (s.rt : Int))
      have hgz := (hz.below hb).block
      have hgne : gz ≠ w.heap.size := by have := hz.block; omega
      obtain ⟨r', rfl⟩ : ∃ r', r = r' + 1 := ⟨r - 1, by omega⟩
      simp only [Nat.add_sub_cancel] at *
      clear ha hs hmem hints hb hz hB1
      go_wp2
      go_roundw
      case rel => exact ⟨r', (s.fr : Int) - 1, by omega, rfl, by go_num, HA.out, by omega, by omega, hi2, hb2⟩
      case measure => simp [intOf]
    · have hr00 : r = 0 := by omega
      subst hr00
      have hfin : Ints wr w.heap.size w.heap.size q q (rts K) := by simpa using hints
      clear hints ha hz hB1
      go_wp2
      go_ret
      exact ⟨_, rfl, hfin, hb⟩
theorem Qfn (t : List Nd) (ys K : List Sp) (m i q : Nat) (HM : Hid (t.length = m)) (hm : m ≤ 6000) (HK : Hid (KidsAt t ys i K)) (HQ : Hid (K.length = q)) (him : i < m) (HYL : Hid (ys.length = m)) (ao : Option Addr) (cap gz cz B : Nat) (w : World) (hx : Nodes w ao t) (hz : Ints w B gz cz m (ys.map szOf)) :
    Calls Tryz.prog 36 #[.slice ao m cap, .slice (some ⟨gz, 0, none⟩) m cz, .int .i64 (i : Int)] w fun e w' => ∃ G, e = .returned (.slice (some ⟨G, 0, none⟩) q q) ∧ Ints w' w.heap.size G q q (rts K) ∧ Below w.heap.size w w' :=
  Qqr t ys K m i q HM (by omega) HK HQ him HYL ao cap gz cz B w hx hz
theorem Tryz.infoN : (Tryz.prog.info? 43).map (fun i => (i.zero, i.size, i.bytes)) = some (some (.agg #[.int .i64 0, .int .i64 0, .string ByteArray.empty, .int .i64 0, .int .i64 0]), 5, 48) := by kernel_rfl
end Go.Proofs.YtoiiibplkhedcaaGreatDoor

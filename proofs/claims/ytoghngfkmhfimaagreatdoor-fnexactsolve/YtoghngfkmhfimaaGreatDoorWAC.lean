import Derived.Test.YtoghngfkmhfimaaGreatDoorWAA
import Derived.Laws.BytesArg
import Derived.Deep.RegionWith
import Derived.Test.YtoghngfkmhfimaaGreatDoorProg
import Derived.Test.YtoghngfkmhfimaaGreatDoorWAB
import Derived.Deep.OwnRows
import Derived.BigQuiet
namespace Go.Proofs.YtoghngfkmhfimaaGreatDoor

open Go.RowKit

/-- The decimal digits, as the loop lays them. -/
def digs : Nat → Nat → ByteArray → ByteArray
  | 0, _, out => out
  | f + 1, q, out => if q = 0 then out else digs f (q / 10) (strOfNums [48 + (q : Int) % 10] ++ out)

def mtext (k : Nat) : ByteArray := ⟨#[109]⟩ ++ digs 20 k ⟨#[]⟩

theorem digs_zero (f : Nat) (out : ByteArray) : digs f 0 out = out := by
  cases f <;> simp [digs]

theorem conv_byte (w : World) (v : Int) : (convert 173 9 (.slice (some ⟨w.heap.size, 0, none⟩) 1 1)).run Tryz.prog (w.alloc (.cells #[.int .u8 v] 5)) = .ok (.string (strOfNums [v])) (w.alloc (.cells #[.int .u8 v] 5)) := by
  refine run_convert_bytes_arg (P := Tryz.prog) _ 173 5 Tryz.underlying173 Tryz.underlying5 w.heap.size 0 1 1 [v] rfl ?_ 9 Tryz.underlying9
  intro i hi
  have : i = 0 := by omega
  subst this
  simp

set_option maxHeartbeats 400000 in
theorem markText_any (k : Nat) (hk : k ≤ 1000000000) (h0 : 0 < k) (w : World) :
    Calls Tryz.prog 59 #[.int .i64 k] w fun e w' => e = .returned (.string (mtext k)) ∧ Below w.heap.size w w' := by
  have hcv := conv_byte
  have hss : ∀ v, (strOfNums [v]).size = 1 := fun v => strOfNums_size [v]
  go_enter Tryz.func59, Tryz.ntmps59
  go_wp2
  go_loopw [0, 3] (fun a b wr => ∃ (f q : Nat) (out : ByteArray), q ≤ 1000000000 ∧ q < 10 ^ f ∧ a = .int .i64 q ∧ b = .string out ∧ out.size + f ≤ 20 ∧ digs f q out = digs 20 k ⟨#[]⟩ ∧ Below w.heap.size w wr) (fun a _ _ => (intOf a).toNat)
  case atStart => exact ⟨20, k, _, hk, by omega, rfl, rfl, Nat.le_refl _, rfl, Below.refl _ _⟩
  case round =>
    obtain ⟨f, q, out, hq, hf, rfl, rfl, hsz, hd, hb⟩ := hrel
    have HF : Hid (q < 10 ^ f) := hf
    have HD : Hid (digs f q out = digs 20 k ⟨#[]⟩) := hd
    clear hf hd
    by_cases hq0 : 0 < q
    · have hfp : 0 < f := by
        rcases Nat.eq_zero_or_pos f with h | h
        · subst h; have := HF.out; simp at this; omega
        · exact h
      have HF2 : Hid (q / 10 < 10 ^ (f - 1)) := by
        have h1 := HF.out
        have e : 10 ^ f = 10 ^ (f - 1) * 10 := by rw [← Nat.pow_succ]; congr 1; omega
        rw [e] at h1
        show q / 10 < 10 ^ (f - 1)
        omega
      have HD2 : Hid (digs (f - 1) (q / 10) (strOfNums [48 + (q : Int) % 10] ++ out) = digs 20 k ⟨#[]⟩) := by
        have h1 := HD.out
        obtain ⟨f', rfl⟩ : ∃ f', f = f' + 1 := ⟨f - 1, by omega⟩
        rw [digs, if_neg (by omega)] at h1
        exact h1
      go_wp2
      go_roundw
      case rel => exact ⟨f - 1, q / 10, _, by omega, HF2.out, by go_num, rfl, by rw [ByteArray.size_append, hss]; omega, HD2.out, hb.alloc hb.size _⟩
      case measure => simp [intOf]; omega
    · have hqz : q = 0 := by omega
      subst hqz
      have HE : Hid (out = digs 20 k ⟨#[]⟩) := by have := HD.out; rw [digs_zero] at this; exact this
      have hsd : (ByteArray.mk #[109]).size = 1 := rfl
      go_wp2
      go_ret
      exact ⟨by rw [HE.out]; rfl, hb⟩

/-- The node that bears the marks from j on. -/
def mk (j : Nat) : Nd := ⟨(j : Int), (j : Int) + 1, mtext (j + 2), (j : Int) + 1 + 1 + 1, (j : Int) + 1 + 1 + 1 + 1⟩

def marks (k n : Nat) : List Nd := (List.range n).map fun i => mk (k + 5 * i)

theorem marks_length (k n : Nat) : (marks k n).length = n := by simp [marks]

theorem marks_get (k n i : Nat) (h : i < (marks k n).length) : (marks k n)[i] = mk (k + 5 * i) := by simp [marks]

theorem mark_step (k : Nat) (ys : List Nd) (j : Nat) (h : j < ys.length) : (marks k j ++ ys.drop j).set j (mk (k + 5 * j)) = marks k (j + 1) ++ ys.drop (j + 1) := by
  rw [List.set_append_right _ _ (by rw [marks_length]; omega)]
  have e : j - (marks k j).length = 0 := by rw [marks_length]; omega
  rw [e, List.drop_eq_getElem_cons h, List.set_cons_zero]
  have e2 : marks k (j + 1) = marks k j ++ [mk (k + 5 * j)] := by simp [marks, List.range_succ]
  rw [e2, List.append_assoc]
  rfl

theorem markText_int (z : Int) (k : Nat) (hz : z = (k : Int)) (hk : k ≤ 1000000000) (h0 : 0 < k) (w : World) :
    Calls Tryz.prog 59 #[.int .i64 z] w fun e w' => e = .returned (.string (mtext k)) ∧ Below w.heap.size w w' := by
  subst hz
  exact markText_any k hk h0 w

set_option maxHeartbeats 1000000 in
theorem markNodeS_any (ys : List Nd) (n g cap k : Nat) (w : World) (HN : Hid (ys.length = n)) (hr : Row w g ys) (hn : n ≤ 1048577) (hk : k ≤ 100000000) (hk0 : 0 < k) :
    Calls Tryz.prog 27 #[.slice (some ⟨g, 0, none⟩) n cap, .int .i64 k] w fun e w' =>
      e = .returned (.int .i64 (k + 5 * n : Nat)) ∧ Row w' g (marks k n) ∧ But (· = g) w w' := by
  go_enter Tryz.func27, Tryz.ntmps27
  go_wp2
  go_loopw [1, 5] (fun a i wr => ∃ (j : Nat), j ≤ n ∧ i = .int .i64 j ∧ a = .int .i64 (k + 5 * j : Nat) ∧ Row wr g (marks k j ++ ys.drop j) ∧ But (· = g) w wr) (fun _ i _ => n - (intOf i).toNat)
  case atStart => exact ⟨0, Nat.zero_le _, rfl, rfl, hr, But.refl _ _⟩
  case round =>
    obtain ⟨j, hj, rfl, rfl, hrow, hb⟩ := hrel
    clear hr
    by_cases hlt : j < n
    · have hl : (marks k j ++ ys.drop j).length = n := by have := HN.out; simp [marks_length]; omega
      have hl5 : (flat (marks k j ++ ys.drop j)).length = n * 5 := by rw [flat_length, hl]
      have HL : Hid (j < ys.length) := by have := HN.out; show j < ys.length; omega
      obtain ⟨v0, c0⟩ := Own.has hrow (j * 5) (by rw [hl5]; omega)
      obtain ⟨v1, c1⟩ := Own.has hrow (j * 5 + 1) (by rw [hl5]; omega)
      have f0 := Own.frozen hrow (j * 5)
      have f1 := Own.frozen hrow (j * 5 + 1)
      obtain ⟨q, hq⟩ : ∃ q : Nat, k + 5 * j = q := ⟨_, rfl⟩
      have HQ : Hid (k + 5 * j = q) := hq
      have hq1 : q ≤ 200000000 := by omega
      rw [hq]
      clear hl hq
      have O2 := (Own.set hrow (j * 5) (.int .i64 (q : Int)) (by rw [hl5]; omega)).set (j * 5 + 1) (.int .i64 ((q : Int) + 1)) (by simp only [List.length_set]; rw [hl5]; omega)
      have B2 := (hb.setCell (p := ⟨g, j * 5, none⟩) rfl (.int .i64 (q : Int))).setCell (p := ⟨g, j * 5 + 1, none⟩) rfl (.int .i64 ((q : Int) + 1))
      have HF : Hid (flat ((marks k j ++ ys.drop j).set j (mk q)) = flat (marks k (j + 1) ++ ys.drop (j + 1))) := by
        have := mark_step k ys j HL.out
        rw [HQ.out] at this
        exact congrArg flat this
      have HLL : Hid ((marks k j ++ ys.drop j).length = n) := by have := HN.out; show (marks k j ++ ys.drop j).length = n; simp [marks_length]; omega
      clear hb hrow hl5
      go_wp2_with fail
      refine (markText_int ((q : Int) + 1 + 1) (q + 2) (by omega) (by omega) (by omega) _).mono ?_
      rintro e w1 ⟨rfl, hb1⟩
      have O3 := O2.below hb1
      have B3 := B2.trans (But.ofBelow hb1)
      have hl5 : (flat (marks k j ++ ys.drop j)).length = n * 5 := by rw [flat_length, HLL.out]
      obtain ⟨v2, c2⟩ := O3.has (j * 5 + 2) (by simp only [List.length_set]; rw [hl5]; omega)
      obtain ⟨v3, c3⟩ := O3.has (j * 5 + 3) (by simp only [List.length_set]; rw [hl5]; omega)
      obtain ⟨v4, c4⟩ := O3.has (j * 5 + 4) (by simp only [List.length_set]; rw [hl5]; omega)
      have f2 := O3.frozen (j * 5 + 2)
      have f3 := O3.frozen (j * 5 + 3)
      have f4 := O3.frozen (j * 5 + 4)
      have O4 := ((O3.set (j * 5 + 2) (.string (mtext (q + 2))) (by simp only [List.length_set]; rw [hl5]; omega)).set (j * 5 + 3) (.int .i64 ((q : Int) + 1 + 1 + 1)) (by simp only [List.length_set]; rw [hl5]; omega)).set (j * 5 + 4) (.int .i64 ((q : Int) + 1 + 1 + 1 + 1)) (by simp only [List.length_set]; rw [hl5]; omega)
      have HS := flat_set (marks k j ++ ys.drop j) j (by rw [HLL.out]; exact hlt) (mk q)
      have R5 := O4.row (HS.trans HF.out)
      have B4 := ((B3.setCell (p := ⟨g, j * 5 + 2, none⟩) rfl (.string (mtext (q + 2)))).setCell (p := ⟨g, j * 5 + 3, none⟩) rfl (.int .i64 ((q : Int) + 1 + 1 + 1))).setCell (p := ⟨g, j * 5 + 4, none⟩) rfl (.int .i64 ((q : Int) + 1 + 1 + 1 + 1))
      clear O2 B2 O3 B3 O4 HS c0 c1 f0 f1 hb1 hl5
      go_wp2
      go_roundw
      case rel => exact ⟨j + 1, by omega, by go_num, by have := HQ.out; congr 1; omega, R5, B4⟩
      case measure => simp [intOf]; omega
    · have hje : j = n := by omega
      subst hje
      have R5 : Row wr g (marks k j) := by
        have e : ys.drop j = [] := List.drop_eq_nil_of_le (by have := HN.out; omega)
        rw [e, List.append_nil] at hrow
        exact hrow
      clear hrow
      go_wp2
      go_ret
      exact ⟨rfl, R5, hb⟩

theorem Tryz.infoI : (Tryz.prog.info? 3).map (fun i => (i.zero, i.size, i.bytes)) = some (some (.int .i64 0), 1, 8) := by kernel_rfl

def ints (xs : List Int) : List Value := xs.map (Value.int .i64)

/-- A slice of ints of the call's own. -/
def Ints (w : World) (B g cap : Nat) (n : Nat) (xs : List Int) : Prop := xs.length = n ∧ w.ownsRow B 3 1 (.slice (some ⟨g, 0, none⟩) n cap) n (ints xs)

theorem Ints.at {w : World} {B g cap n : Nat} {xs : List Int} (h : Ints w B g cap n xs) (j : Nat) (hj : j < xs.length) : w.cell? ⟨g, j, none⟩ = some (.int .i64 xs[j]) := by
  rw [owns_at h.2 j (by have := h.1; omega)]
  simp [ints, List.getElem?_eq_getElem hj]

theorem Ints.alloc {w : World} {B g cap n : Nat} {xs : List Int} (h : Ints w B g cap n xs) (o : Obj) : Ints (w.alloc o) B g cap n xs := ⟨h.1, h.2.alloc o⟩

theorem Ints.below {w w' : World} {B g cap n : Nat} {xs : List Int} (h : Ints w B g cap n xs) (hb : Below w.heap.size w w') : Ints w' B g cap n xs :=
  ⟨h.1, owns_but (S := fun _ => False) h.2 (But.ofBelow hb) (fun h => h)⟩

theorem Ints.kept {w w' : World} {B g cap n k : Nat} {xs : List Int} (h : Ints w B g cap n xs) (hg : w.grownBy w' (some k)) (hne : g ≠ k) : Ints w' B g cap n xs := ⟨h.1, owns_kept h.2 hg hne⟩

theorem Ints.take {w : World} {B g cap n : Nat} {xs : List Int} (h : Ints w B g cap n xs) (m : Nat) (hm : m ≤ n) : Ints w B g cap m (xs.take m) := by
  refine ⟨by have := h.1; simp; omega, ?_⟩
  have := owns_take h.2 m hm
  simpa [ints, List.map_take] using this

theorem Ints.block {w : World} {B g cap n : Nat} {xs : List Int} (h : Ints w B g cap n xs) : B ≤ g ∧ g < w.heap.size := owns_block h.2

theorem Ints.cap {w : World} {B g cap n : Nat} {xs : List Int} (h : Ints w B g cap n xs) : n ≤ cap := by
  rcases h.2.2 with ⟨h', _⟩ | ⟨g2, cap2, cur, he, hb, hh, hnc, r⟩
  · cases h'
  · simp only [Value.slice.injEq, Option.some.injEq, Addr.mk.injEq, and_true, true_and] at he
    obtain ⟨rfl, rfl⟩ := he
    exact hnc

theorem Ints.empty {w : World} {B : Nat} (hB : B ≤ w.heap.size) : Ints (w.alloc (.cells #[] 3)) B w.heap.size 0 0 [] :=
  ⟨rfl, rfl, Or.inr ⟨_, 0, #[], rfl, hB, heap_alloc_new _ _, Nat.le_refl _, by simp [maxLen], rfl, rfl⟩⟩

theorem Ints.push {w : World} {B g cap n m : Nat} {xs : List Int} {x : Int} (h : w.ownsRow B 3 1 (.slice (some ⟨g, 0, none⟩) m cap) m (ints xs ++ [.int .i64 x])) (hn : xs.length = n) (hm : m = n + 1) : Ints w B g cap (n + 1) (xs ++ [x]) := by
  subst hm
  refine ⟨by simp [hn], ?_⟩
  simpa [ints] using h

theorem one_cell (w : World) (v : Value) : ∀ j u, [v][j]? = some u → (w.alloc (.cells #[v] 3)).cell? (Addr.add ⟨w.heap.size, 0, none⟩ j) = some u := by
  intro j u hj
  match j, hj with
  | 0, hj =>
    simp at hj
    subst hj
    have ad : Addr.add ⟨w.heap.size, 0, none⟩ 0 = ⟨w.heap.size, 0, none⟩ := by unfold Addr.add; simp
    rw [ad, cell_of_row _ w.heap.size 0 _ 3 (0, 0) (heap_alloc_new _ _)]
    rfl

theorem one_one (x : Int) : ∀ u ∈ [Value.int .i64 x], u.oneCell' = true := by
  intro u hu
  simp at hu
  subst hu
  rfl

/-- How many nodes a term has. -/
def szOf (s : Sp) : Int := (s.rt : Int) - s.fr + 1

def sizesOf (t : List Nd) : List Int := match after t t.length with
  | none => []
  | some (_, ys) => ys.map szOf

def frs (S : List Sp) : List Int := S.map fun s => (s.fr : Int)

set_option maxRecDepth 100000 in
set_option maxHeartbeats 2000000 in
theorem sizes60_any (t : List Nd) (m : Nat) (HM : Hid (t.length = m)) (hm : m ≤ 60000) (ao : Option Addr) (cap : Nat) (w : World) (hx : Nodes w ao t) :
    Calls Tryz.prog 33 #[.slice ao m cap] w fun e w' => ∃ g c n, e = .returned (.slice (some ⟨g, 0, none⟩) n c) ∧ Ints w' w.heap.size g c n (sizesOf t) ∧ Below w.heap.size w w' := by
  obtain ⟨i0, hi, hz0, hz1, hz2⟩ := info_parts Tryz.infoI
  go_enter Tryz.func33, Tryz.ntmps33
  go_wp2
  go_loopw [3, 4, 5] (fun vs vo p wr => ∃ (k l gs cs go co : Nat) (S ys : List Sp), k ≤ m ∧ p = .int .i64 k ∧ after t k = some (S, ys) ∧ vs = .slice (some ⟨gs, 0, none⟩) k cs ∧ vo = .slice (some ⟨go, 0, none⟩) l co ∧
      Ints wr w.heap.size gs cs k (ys.map szOf) ∧ Ints wr w.heap.size go co l (frs S) ∧ gs ≠ go ∧ Below w.heap.size w wr) (fun _ _ p _ => m - (intOf p).toNat)
  case atStart =>
    refine ⟨0, 0, w.heap.size, 0, w.heap.size + 1, 0, [], [], Nat.zero_le _, rfl, rfl, rfl, rfl, (Ints.empty (Nat.le_refl _)).alloc _, ?_, by omega, ((Below.refl _ w).alloc (Nat.le_refl _) _).alloc (by simp) _⟩
    have := Ints.empty (w := w.alloc (.cells #[] 3)) (B := w.heap.size) (by simp)
    rw [World.size_alloc] at this
    exact this
  case round =>
    obtain ⟨k, l, gs, cs, go, co, S, ys, hk, rfl, hst, rfl, rfl, his, hio, hne, hb⟩ := hrel
    by_cases hlt : k < m
    · have hltk : k < t.length := by have := HM.out; omega
      obtain ⟨b, o, rfl, hn⟩ := hx.below hb k hltk
      obtain ⟨x, hxk⟩ : ∃ x, t[k] = x := ⟨_, rfl⟩
      rw [hxk] at hn
      obtain ⟨_, _, _, c3, _⟩ := hn
      have HXK : Hid (t[k] = x) := hxk
      have HST : Hid (after t k = some (S, ys)) := hst
      have HSL : Hid (S.length = l) := by have h9 := hio.1; simp [frs] at h9; exact h9
      have hfine := after_fine hst
      have HF : Hid (Fine k S ys) := hfine
      have hlk : l ≤ k := by have h1 := chain_len hfine.chain; have := HSL.out; omega
      clear hx hxk hst hfine
      by_cases hbad : x.kids < 0 ∨ (l : Int) < x.kids
      · have HE : Hid (sizesOf t = []) := by
          have h1 : after t (k + 1) = none := after_fail HST.out hltk (by rw [HXK.out]; exact step_none (by have := HSL.out; rw [this]; exact hbad))
          show sizesOf t = []
          unfold sizesOf
          rw [after_none h1 t.length (by omega)]
        have hfin : Ints (wr.alloc (.cells #[] 3)) w.heap.size wr.heap.size 0 0 (sizesOf t) := by rw [HE.out]; exact Ints.empty hb.size
        have hbb := hb.alloc hb.size (.cells #[] 3)
        clear his hio hb
        by_cases hneg : x.kids < 0
        · go_wp2
          go_ret
          exact ⟨_, _, _, rfl, hfin, hbb⟩
        · have hgt : (l : Int) < x.kids := by omega
          go_wp2
          go_ret
          exact ⟨_, _, _, rfl, hfin, hbb⟩
      · obtain ⟨q, hq⟩ : ∃ q : Nat, x.kids = (q : Int) := ⟨x.kids.toNat, by omega⟩
        have HQ : Hid (x.kids = (q : Int)) := hq
        rw [hq] at c3 hbad
        have hqS : q ≤ l := by omega
        obtain ⟨f, rfl⟩ : ∃ f, l = f + q := ⟨l - q, by omega⟩
        clear hq hbad
        obtain ⟨s, hs⟩ : ∃ s, over (S.drop f) k = s := ⟨_, rfl⟩
        have HS : Hid (over (S.drop f) k = s) := hs
        have HST2 : Hid (after t (k + 1) = some (S.take f ++ [s], ys ++ [s])) := by
          refine after_succ HST.out hltk ?_
          rw [HXK.out, HQ.out, step_of (by omega) (by have := HSL.out; omega)]
          have e : S.length - ((q : Int)).toNat = f := by have := HSL.out; simp; omega
          rw [e, HS.out]
        have hsfr : s.fr ≤ k := by
          have h1 := (after_fine HST2.out).root k (by have := (after_fine HST2.out).len; omega)
          have h2 : (ys ++ [s])[k]'(by have := (after_fine HST2.out).len; omega) = s := by
            rw [List.getElem_append_right (by have := HF.out.len; omega)]
            simp
          rw [h2] at h1
          exact h1.2.1
        have HRT : Hid (s.rt = k) := by rw [← hs]; rfl
        have hcap := hio.cap
        have hbo := hio.block
        have hbs := his.block
        have hot := hio.take f (by omega)
        have hfc : f ≤ co := by omega
        clear hs
        by_cases hq0 : 0 < q
        · have hfS : f < S.length := by have := HSL.out; omega
          have hcf : wr.cell? ⟨go, f, none⟩ = some (.int .i64 (s.fr : Int)) := by
            rw [hio.at f (by simp [frs]; exact hfS)]
            have : S[f].fr = s.fr := by
              rw [← HS.out]
              show _ = frOf (S.drop f) k
              rw [List.drop_eq_getElem_cons hfS]
              rfl
            simp [frs, this]
          go_wp2_with (at_builtin; refine wpList_append2 _ rfl (.tmp 45) (.tmp 47) 74 rfl w.heap.size 3 i0 _ 1 8 Tryz.underlying74 hi hz0 hz1 hz2 rfl (by decide) go f co _ rfl (hot.alloc _).2 ⟨_, 0, none⟩ 1 1 [.int .i64 (s.fr : Int)] rfl rfl ?a1 ?a2 ?a3 ?a4 ?a5 ?_)
          case a1 => exact one_cell _ _
          case a2 => exact one_one _
          case a3 => unfold maxLen; omega
          case a4 => omega
          case a5 => have := hb.size; simp; omega
          intro g2 c2 w2 hown2 hgrow2 hwh
          have hI2 : Ints w2 w.heap.size g2 c2 (f + 1) (frs (S.take f ++ [s])) := by
            have h9 := Ints.push hown2 (hot.1) rfl
            have e9 : frs (S.take f ++ [s]) = (frs S).take f ++ [(s.fr : Int)] := by simp [frs, List.map_take]
            rw [e9]
            exact h9
          have his2 := (his.alloc (.cells #[.int .i64 (s.fr : Int)] 3)).kept hgrow2 hne
          have hne2 : gs ≠ g2 := by rcases hwh with h | h <;> omega
          have hb2 : Below w.heap.size w w2 := (hb.alloc hb.size _).grown hgrow2 (by have := hb.size; simp; omega) (fun q hq => by cases hq; exact hbo.1)
          have hsz2 : w2.heap.size ≥ wr.heap.size := by have := hgrow2.size; simp at this; omega
          have hgb2 := hI2.block
          have hsb2 := his2.block
          clear hown2 hgrow2 hwh his hio hot hb hbo hbs hne
          go_wp2_with (at_builtin; refine wpList_append2 _ rfl (.tmp 49) (.tmp 54) 74 rfl w.heap.size 3 i0 _ 1 8 Tryz.underlying74 hi hz0 hz1 hz2 rfl (by decide) gs k cs _ rfl (his2.alloc _).2 ⟨_, 0, none⟩ 1 1 [.int .i64 ((k : Int) - (s.fr : Int) + 1)] rfl rfl ?b1 ?b2 ?b3 ?b4 ?b5 ?_)
          case b1 => exact one_cell _ _
          case b2 => exact one_one _
          case b3 => unfold maxLen; omega
          case b4 => omega
          case b5 => have := hb2.size; simp; omega
          intro g3 c3' w3 hown3 hgrow3 hwh3
          have hI3 : Ints w3 w.heap.size g3 c3' (k + 1) ((ys ++ [s]).map szOf) := by
            have h9 := Ints.push hown3 (his2.1) rfl
            have e9 : (ys ++ [s]).map szOf = ys.map szOf ++ [(k : Int) - (s.fr : Int) + 1] := by simp [szOf, HRT.out]
            rw [e9]
            exact h9
          have hI2' := (hI2.alloc (.cells #[.int .i64 ((k : Int) - (s.fr : Int) + 1)] 3)).kept hgrow3 hne2.symm
          have hne3 : g3 ≠ g2 := by rcases hwh3 with h | h <;> omega
          have hb3 : Below w.heap.size w w3 := (hb2.alloc hb2.size _).grown hgrow3 (by have := hb2.size; simp; omega) (fun q hq => by cases hq; exact hsb2.1)
          clear hown3 hgrow3 hwh3 his2 hI2 hb2 hne2 hgb2 hsb2
          go_wp2
          go_roundw
          case rel => exact ⟨k + 1, f + 1, g3, c3', g2, c2, _, _, by omega, by go_num, HST2.out, rfl, rfl, hI3, hI2', hne3, hb3⟩
          case measure => simp [intOf]; omega
        · have hq00 : q = 0 := by omega
          subst hq00
          have HFR : Hid (s.fr = k) := by
            rw [← HS.out]
            show frOf (S.drop f) k = k
            rw [List.drop_eq_nil_of_le (by have := HSL.out; omega)]
            rfl
          go_wp2_with (at_builtin; refine wpList_append2 _ rfl (.tmp 45) (.tmp 47) 74 rfl w.heap.size 3 i0 _ 1 8 Tryz.underlying74 hi hz0 hz1 hz2 rfl (by decide) go f co _ rfl (hot.alloc _).2 ⟨_, 0, none⟩ 1 1 [.int .i64 (k : Int)] rfl rfl ?a1 ?a2 ?a3 ?a4 ?a5 ?_)
          case a1 => exact one_cell _ _
          case a2 => exact one_one _
          case a3 => unfold maxLen; omega
          case a4 => omega
          case a5 => have := hb.size; simp; omega
          intro g2 c2 w2 hown2 hgrow2 hwh
          have hI2 : Ints w2 w.heap.size g2 c2 (f + 1) (frs (S.take f ++ [s])) := by
            have h9 := Ints.push hown2 (hot.1) rfl
            have e9 : frs (S.take f ++ [s]) = (frs S).take f ++ [(k : Int)] := by simp [frs, List.map_take, HFR.out]
            rw [e9]
            exact h9
          have his2 := (his.alloc (.cells #[.int .i64 (k : Int)] 3)).kept hgrow2 hne
          have hne2 : gs ≠ g2 := by rcases hwh with h | h <;> omega
          have hb2 : Below w.heap.size w w2 := (hb.alloc hb.size _).grown hgrow2 (by have := hb.size; simp; omega) (fun q hq => by cases hq; exact hbo.1)
          have hsz2 : w2.heap.size ≥ wr.heap.size := by have := hgrow2.size; simp at this; omega
          have hgb2 := hI2.block
          have hsb2 := his2.block
          clear hown2 hgrow2 hwh his hio hot hb hbo hbs hne
          go_wp2_with (at_builtin; refine wpList_append2 _ rfl (.tmp 49) (.tmp 54) 74 rfl w.heap.size 3 i0 _ 1 8 Tryz.underlying74 hi hz0 hz1 hz2 rfl (by decide) gs k cs _ rfl (his2.alloc _).2 ⟨_, 0, none⟩ 1 1 [.int .i64 1] rfl rfl ?b1 ?b2 ?b3 ?b4 ?b5 ?_)
          case b1 => exact one_cell _ _
          case b2 => exact one_one _
          case b3 => unfold maxLen; omega
          case b4 => omega
          case b5 => have := hb2.size; simp; omega
          intro g3 c3' w3 hown3 hgrow3 hwh3
          have hI3 : Ints w3 w.heap.size g3 c3' (k + 1) ((ys ++ [s]).map szOf) := by
            have h9 := Ints.push hown3 (his2.1) rfl
            have e9 : (ys ++ [s]).map szOf = ys.map szOf ++ [1] := by simp [szOf, HRT.out, HFR.out]
            rw [e9]
            exact h9
          have hI2' := (hI2.alloc (.cells #[.int .i64 1] 3)).kept hgrow3 hne2.symm
          have hne3 : g3 ≠ g2 := by rcases hwh3 with h | h <;> omega
          have hb3 : Below w.heap.size w w3 := (hb2.alloc hb2.size _).grown hgrow3 (by have := hb2.size; simp; omega) (fun q hq => by cases hq; exact hsb2.1)
          clear hown3 hgrow3 hwh3 his2 hI2 hb2 hne2 hgb2 hsb2
          go_wp2
          go_roundw
          case rel => exact ⟨k + 1, f + 1, g3, c3', g2, c2, _, _, by omega, by go_num, HST2.out, rfl, rfl, hI3, hI2', hne3, hb3⟩
          case measure => simp [intOf]; omega
    · have hke : k = m := by omega
      have hfin : Ints wr w.heap.size gs cs k (sizesOf t) := by
        have e9 : sizesOf t = ys.map szOf := by
          unfold sizesOf
          have : t.length = k := by have := HM.out; omega
          rw [this, hst]
        rw [e9]
        exact his
      clear hx his hio hst
      go_wp2
      go_ret
      exact ⟨_, _, _, rfl, hfin, hb⟩

theorem sizes_any (t : List Nd) (m : Nat) (HM : Hid (t.length = m)) (hm : m ≤ 6000) (ao : Option Addr) (cap : Nat) (w : World) (hx : Nodes w ao t) :
    Calls Tryz.prog 33 #[.slice ao m cap] w fun e w' => ∃ g c n, e = .returned (.slice (some ⟨g, 0, none⟩) n c) ∧ Ints w' w.heap.size g c n (sizesOf t) ∧ Below w.heap.size w w' :=
  sizes60_any t m HM (by omega) ao cap w hx

/-- Block g is a row of elements of type T, of the call's own, that begins with these cells. -/
def OwnT (T : Nat) (w : World) (g : Nat) (cs : List Value) : Prop := ∃ cur rest, w.heap[g]? = some (.cells cur T (0, 0)) ∧ cur.toList = cs ++ rest

theorem OwnT.lt {T : Nat} {w : World} {g : Nat} {cs : List Value} (h : OwnT T w g cs) : g < w.heap.size := by
  obtain ⟨cur, rest, hg, _⟩ := h
  exact (Array.getElem?_eq_some_iff.1 hg).1

theorem OwnT.set {T : Nat} {w : World} {g : Nat} {cs : List Value} (h : OwnT T w g cs) (j : Nat) (v : Value) (hj : j < cs.length) : OwnT T (w.setCell ⟨g, j, none⟩ v) g (cs.set j v) := by
  obtain ⟨cur, rest, hg, hc⟩ := h
  exact ⟨_, rest, heap_setCell_same _ g _ _ T _ hg, by rw [Array.toList_setIfInBounds, hc, List.set_append_left _ _ hj]⟩

theorem OwnT.at {T : Nat} {w : World} {g : Nat} {cs : List Value} (h : OwnT T w g cs) (j : Nat) (hj : j < cs.length) : w.cell? ⟨g, j, none⟩ = cs[j]? := by
  obtain ⟨cur, rest, hg, hc⟩ := h
  rw [cell_of_row w g _ cur T (0, 0) hg, ← Array.getElem?_toList, hc, List.getElem?_append_left hj]

theorem OwnT.frozen {T : Nat} {w : World} {g : Nat} {cs : List Value} (h : OwnT T w g cs) (j : Nat) : w.frozen? ⟨g, j, none⟩ = false := by
  obtain ⟨cur, _, hg, _⟩ := h
  exact frozen_of_row w g j cur T hg

theorem OwnT.but {S : Nat → Prop} {T : Nat} {w w' : World} {g : Nat} {cs : List Value} (h : OwnT T w g cs) (hb : But S w w') (hn : ¬ S g) : OwnT T w' g cs := by
  have hlt := h.lt
  obtain ⟨cur, rest, hg, hc⟩ := h
  exact ⟨cur, rest, (hb.block g hlt hn).trans hg, hc⟩

theorem OwnT.below {T : Nat} {w w' : World} {g : Nat} {cs : List Value} (h : OwnT T w g cs) (hb : Below w.heap.size w w') : OwnT T w' g cs := by
  have hlt := h.lt
  obtain ⟨cur, rest, hg, hc⟩ := h
  exact ⟨cur, rest, (hb.block g hlt).trans hg, hc⟩

/-- A slice of int64s to be read. -/
def LCells (w : World) (ao : Option Addr) (xs : List Int) : Prop := ∀ i (h : i < xs.length), ∃ b o, ao = some ⟨b, o, none⟩ ∧ w.cell? ⟨b, o + i, none⟩ = some (.int .i64 xs[i])

/-- Cells two by two. -/
def cells2 (ps : List (Value × Value)) : List Value := ps.flatMap fun p => [p.1, p.2]

theorem cells2_length (ps : List (Value × Value)) : (cells2 ps).length = ps.length * 2 := by
  induction ps with
  | nil => rfl
  | cons m ms ih => simp only [cells2, List.flatMap_cons, List.length_append, List.length_cons, List.length_nil] at *; omega

theorem cells2_append (a b : List (Value × Value)) : cells2 (a ++ b) = cells2 a ++ cells2 b := by simp [cells2]

theorem cells2_get (ps : List (Value × Value)) (i : Nat) (h : i < ps.length) : (cells2 ps)[i * 2]? = some ps[i].1 ∧ (cells2 ps)[i * 2 + 1]? = some ps[i].2 := by
  induction ps generalizing i with
  | nil => simp at h
  | cons m ms ih =>
    cases i with
    | zero => simp [cells2]
    | succ i =>
      have e1 : (i + 1) * 2 = i * 2 + 1 + 1 := by omega
      have h9 := ih i (by simpa using h)
      rw [e1]
      simpa [cells2] using h9

theorem cells2_set (ps : List (Value × Value)) (j : Nat) (p : Value × Value) : ((cells2 ps).set (j * 2) p.1).set (j * 2 + 1) p.2 = cells2 (ps.set j p) := by
  induction ps generalizing j with
  | nil => simp [cells2]
  | cons m ms ih =>
    cases j with
    | zero => simp [cells2]
    | succ j =>
      have e1 : (j + 1) * 2 = j * 2 + 1 + 1 := by omega
      have h9 := ih j
      rw [e1]
      simp only [cells2, List.flatMap_cons, List.cons_append, List.nil_append, List.set_cons_succ] at h9 ⊢
      rw [h9]

/-- A slice of Binds. -/
def Binds (w : World) (ao : Option Addr) (bs : List (Int × List Nd)) : Prop :=
  ∀ i (h : i < bs.length), ∃ b o ai ci, ao = some ⟨b, o, none⟩ ∧ w.cell? ⟨b, o + i * 2, none⟩ = some (.int .i64 bs[i].1) ∧ w.cell? ⟨b, o + i * 2 + 1, none⟩ = some (.slice ai bs[i].2.length ci) ∧ Nodes w ai bs[i].2

theorem Binds.below {w w' : World} {ao : Option Addr} {bs : List (Int × List Nd)} (h : Binds w ao bs) (hb : Below w.heap.size w w') : Binds w' ao bs := by
  intro i hi
  obtain ⟨b, o, ai, ci, e, h0, hc, hn⟩ := h i hi
  exact ⟨b, o, ai, ci, e, (hb.cell (p := ⟨b, o + i * 2, none⟩) (lt_of_cell h0)).trans h0, (hb.cell (p := ⟨b, o + i * 2 + 1, none⟩) (lt_of_cell hc)).trans hc, hn.below hb⟩

/-- The types of Binds. -/
def tys (bs : List (Int × List Nd)) : List (List Nd) := bs.map Prod.snd

set_option maxHeartbeats 400000 in
theorem eqBind_same (x : Int) (ks : List Nd) (l : Nat) (HL : Hid (ks.length = l)) (ai bi : Option Addr) (ci di : Nat) (w : World) (hn : Nodes w ai ks) (hn' : Nodes w bi ks) (hlen : l ≤ 1048576) :
    Calls Tryz.prog 57 #[.agg #[.int .i64 x, .slice ai l ci], .agg #[.int .i64 x, .slice bi l di]] w fun e w' => e = .returned (.bool true) ∧ Below w.heap.size w w' := by
  have tx : (x != x) = false := by simp
  go_enter Tryz.func57, Tryz.ntmps57
  go_wp2_with fail
  have hA : Below w.heap.size w (w.alloc (.cells #[.int .i64 x, .slice ai l ci] 91)) := (Below.refl _ w).alloc (Nat.le_refl _) _
  have hB := hA.alloc hA.size (.cells #[.int .i64 x, .slice bi l di] 91)
  refine (eqNodeS_any ks ks l l HL HL ai bi ci di _ (hn.below hB) (hn'.below hB) (by omega) (by omega)).mono ?_
  rintro e w1 ⟨⟨r, rfl, hr⟩, hb1⟩
  have hr1 : r = true := hr.2 ⟨rfl, fun _ _ _ => Nd.eqb_refl _⟩
  subst hr1
  have hbb := Below.step hB hb1
  clear hA hB hb1 hn hn' hr
  go_wp2
  go_ret
  exact ⟨rfl, hbb⟩

theorem tys_get (bs : List (Int × List Nd)) (k : Nat) (h : k < bs.length) : (tys bs)[k]'(by simpa [tys] using h) = bs[k].2 := by simp [tys]

theorem Tryz.infoB : (Tryz.prog.info? 91).map (fun i => (i.zero, i.size, i.bytes)) = some (some (.agg #[.int .i64 0, .slice none 0 0]), 2, 32) := by kernel_rfl

/-- Block g is a row of Binds of the call's own. -/
def OwnB (w : World) (g : Nat) (ps : List (Value × Value)) : Prop := OwnT 91 w g (cells2 ps)

theorem OwnB.ne {w : World} {g h : Nat} {ps : List (Value × Value)} {ds : List Value} (a : OwnB w g ps) (b : Own w h ds) : h ≠ g := by
  rintro rfl
  obtain ⟨cur, _, hg, _⟩ := a
  obtain ⟨cur', _, hg', _⟩ := b
  rw [hg] at hg'
  simp at hg'

theorem OwnB.at {w : World} {g : Nat} {ps : List (Value × Value)} (h : OwnB w g ps) (i : Nat) (hi : i < ps.length) : w.cell? ⟨g, i * 2, none⟩ = some ps[i].1 ∧ w.cell? ⟨g, i * 2 + 1, none⟩ = some ps[i].2 := by
  have hl := cells2_length ps
  obtain ⟨h1, h2⟩ := cells2_get ps i hi
  exact ⟨(OwnT.at h _ (by omega)).trans h1, (OwnT.at h _ (by omega)).trans h2⟩

end Go.Proofs.YtoghngfkmhfimaaGreatDoor

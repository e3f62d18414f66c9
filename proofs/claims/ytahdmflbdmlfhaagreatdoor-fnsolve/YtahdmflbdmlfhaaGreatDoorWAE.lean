import Derived.Test.YtahdmflbdmlfhaaGreatDoorProg
import Derived.Test.YtahdmflbdmlfhaaGreatDoorWAD
import Derived.Deep.OwnRows
import Derived.Test.YtahdmflbdmlfhaaGreatDoorWAA
namespace Go.Proofs.YtahdmflbdmlfhaaGreatDoor

open Go.RowKit

theorem Tryz.infoI : (Tryz.prog.info? 3).map (fun i => (i.zero, i.size, i.bytes)) = some (some (.int .i64 0), 1, 8) := by kernel_rfl

def ints (xs : List Int) : List Value := xs.map (Value.int .i64)

/-- A slice of ints of the call's own. -/
def Ints (w : World) (B g cap : Nat) (n : Nat) (xs : List Int) : Prop := xs.length = n ∧ w.ownsRow B 3 1 (.slice (some ⟨g, 0, none⟩) n cap) n (ints xs)

theorem Ints.at {w : World} {B g cap n : Nat} {xs : List Int} (h : Ints w B g cap n xs) (j : Nat) (hj : j < xs.length) : w.cell? ⟨g, j, none⟩ = some (.int .i64 xs[j]) := by
  rw [owns_at h.2 j (by have := h.1; omega)]
  simp [ints, List.getElem?_eq_getElem hj]

theorem Ints.alloc {w : World} {B g cap n : Nat} {xs : List Int} (h : Ints w B g cap n xs) (o : Obj) : Ints (w.alloc o) B g cap n xs := ⟨h.1, h.2.alloc o⟩

theorem Ints.below {w w' : World} {B g cap n : Nat} {xs : List Int} (h : Ints w B g cap n xs) (hb : Below w.heap.size w w') : Ints w' B g cap n xs :=
  ⟨h.1, owns_but (S := fun _ => False) h.2 (But.ofBelow hb) (fun h => h)⟩

theorem Ints.kept {w w' : World} {B g cap n k : Nat} {xs : List Int} (h : Ints w B g cap n xs) (hg : w.grownBy w' (some k)) (hne : g ≠ k) : Ints w' B g cap n xs := ⟨h.1, owns_kept h.2 hg hne⟩

theorem Ints.take {w : World} {B g cap n : Nat} {xs : List Int} (h : Ints w B g cap n xs) (m : Nat) (hm : m ≤ n) : Ints w B g cap m (xs.take m) := by
  refine ⟨by have := h.1; simp; omega, ?_⟩
  have := owns_take h.2 m hm
  simpa [ints, List.map_take] using this

theorem Ints.block {w : World} {B g cap n : Nat} {xs : List Int} (h : Ints w B g cap n xs) : B ≤ g ∧ g < w.heap.size := owns_block h.2

theorem Ints.cap {w : World} {B g cap n : Nat} {xs : List Int} (h : Ints w B g cap n xs) : n ≤ cap := by
  rcases h.2.2 with ⟨h', _⟩ | ⟨g2, cap2, cur, he, hb, hh, hnc, r⟩
  · cases h'
  · simp only [Value.slice.injEq, Option.some.injEq, Addr.mk.injEq, and_true, true_and] at he
    obtain ⟨rfl, rfl⟩ := he
    exact hnc

theorem Ints.empty {w : World} {B : Nat} (hB : B ≤ w.heap.size) : Ints (w.alloc (.cells #[] 3)) B w.heap.size 0 0 [] :=
  ⟨rfl, rfl, Or.inr ⟨_, 0, #[], rfl, hB, heap_alloc_new _ _, Nat.le_refl _, by simp [maxLen], rfl, rfl⟩⟩

theorem Ints.push {w : World} {B g cap n m : Nat} {xs : List Int} {x : Int} (h : w.ownsRow B 3 1 (.slice (some ⟨g, 0, none⟩) m cap) m (ints xs ++ [.int .i64 x])) (hn : xs.length = n) (hm : m = n + 1) : Ints w B g cap (n + 1) (xs ++ [x]) := by
  subst hm
  refine ⟨by simp [hn], ?_⟩
  simpa [ints] using h

theorem one_cell (w : World) (v : Value) : ∀ j u, [v][j]? = some u → (w.alloc (.cells #[v] 3)).cell? (Addr.add ⟨w.heap.size, 0, none⟩ j) = some u := by
  intro j u hj
  match j, hj with
  | 0, hj =>
    simp at hj
    subst hj
    have ad : Addr.add ⟨w.heap.size, 0, none⟩ 0 = ⟨w.heap.size, 0, none⟩ := by unfold Addr.add; simp
    rw [ad, cell_of_row _ w.heap.size 0 _ 3 (0, 0) (heap_alloc_new _ _)]
    rfl

theorem one_one (x : Int) : ∀ u ∈ [Value.int .i64 x], u.oneCell' = true := by
  intro u hu
  simp at hu
  subst hu
  rfl

/-- How many nodes a term has. -/
def szOf (s : Sp) : Int := (s.rt : Int) - s.fr + 1

def sizesOf (t : List Nd) : List Int := match after t t.length with
  | none => []
  | some (_, ys) => ys.map szOf

def frs (S : List Sp) : List Int := S.map fun s => (s.fr : Int)

set_option maxRecDepth 100000 in
set_option maxHeartbeats 2000000 in
theorem sizes60_any (t : List Nd) (m : Nat) (HM : Hid (t.length = m)) (hm : m ≤ 60000) (ao : Option Addr) (cap : Nat) (w : World) (hx : Nodes w ao t) :
    Calls Tryz.prog 14 #[.slice ao m cap] w fun e w' => ∃ g c n, e = .returned (.slice (some ⟨g, 0, none⟩) n c) ∧ Ints w' w.heap.size g c n (sizesOf t) ∧ Below w.heap.size w w' := by
  obtain ⟨i0, hi, hz0, hz1, hz2⟩ := info_parts Tryz.infoI
  go_enter Tryz.func14, Tryz.ntmps14
  go_wp2
  go_loopw [3, 4, 5] (fun vs vo p wr => ∃ (k l gs cs go co : Nat) (S ys : List Sp), k ≤ m ∧ p = .int .i64 k ∧ after t k = some (S, ys) ∧ vs = .slice (some ⟨gs, 0, none⟩) k cs ∧ vo = .slice (some ⟨go, 0, none⟩) l co ∧
      Ints wr w.heap.size gs cs k (ys.map szOf) ∧ Ints wr w.heap.size go co l (frs S) ∧ gs ≠ go ∧ Below w.heap.size w wr) (fun _ _ p _ => m - (intOf p).toNat)
  case atStart =>
    refine ⟨0, 0, w.heap.size, 0, w.heap.size + 1, 0, [], [], Nat.zero_le _, rfl, rfl, rfl, rfl, (Ints.empty (Nat.le_refl _)).alloc _, ?_, by omega, ((Below.refl _ w).alloc (Nat.le_refl _) _).alloc (by simp) _⟩
    have := Ints.empty (w := w.alloc (.cells #[] 3)) (B := w.heap.size) (by simp)
    rw [World.size_alloc] at this
    exact this
  case round =>
    obtain ⟨k, l, gs, cs, go, co, S, ys, hk, rfl, hst, rfl, rfl, his, hio, hne, hb⟩ := hrel
    by_cases hlt : k < m
    · have hltk : k < t.length := by have := HM.out; omega
      obtain ⟨b, o, rfl, hn⟩ := hx.below hb k hltk
      obtain ⟨x, hxk⟩ : ∃ x, t[k] = x := ⟨_, rfl⟩
      rw [hxk] at hn
      obtain ⟨_, _, _, c3, _⟩ := hn
      have HXK : Hid (t[k] = x) := hxk
      have HST : Hid (after t k = some (S, ys)) := hst
      have HSL : Hid (S.length = l) := by have h9 := hio.1; simp [frs] at h9; exact h9
      have hfine := after_fine hst
      have HF : Hid (Fine k S ys) := hfine
      have hlk : l ≤ k := by have h1 := chain_len hfine.chain; have := HSL.out; omega
      clear hx hxk hst hfine
      by_cases hbad : x.kids < 0 ∨ (l : Int) < x.kids
      · have HE : Hid (sizesOf t = []) := by
          have h1 : after t (k + 1) = none := after_fail HST.out hltk (by rw [HXK.out]; exact step_none (by have := HSL.out; rw [this]; exact hbad))
          show sizesOf t = []
          unfold sizesOf
          rw [after_none h1 t.length (by omega)]
        have hfin : Ints (wr.alloc (.cells #[] 3)) w.heap.size wr.heap.size 0 0 (sizesOf t) := by rw [HE.out]; exact Ints.empty hb.size
        have hbb := hb.alloc hb.size (.cells #[] 3)
        clear his hio hb
        by_cases hneg : x.kids < 0
        · go_wp2
          go_ret
          exact ⟨_, _, _, rfl, hfin, hbb⟩
        · have hgt : (l : Int) < x.kids := by omega
          go_wp2
          go_ret
          exact ⟨_, _, _, rfl, hfin, hbb⟩
      · obtain ⟨q, hq⟩ : ∃ q : Nat, x.kids = (q : Int) := ⟨x.kids.toNat, by omega⟩
        have HQ : Hid (x.kids = (q : Int)) := hq
        rw [hq] at c3 hbad
        have hqS : q ≤ l := by omega
        obtain ⟨f, rfl⟩ : ∃ f, l = f + q := ⟨l - q, by omega⟩
        clear hq hbad
        obtain ⟨s, hs⟩ : ∃ s, over (S.drop f) k = s := ⟨_, rfl⟩
        have HS : Hid (over (S.drop f) k = s) := hs
        have HST2 : Hid (after t (k + 1) = some (S.take f ++ [s], ys ++ [s])) := by
          refine after_succ HST.out hltk ?_
          rw [HXK.out, HQ.out, step_of (by omega) (by have := HSL.out; omega)]
          have e : S.length - ((q : Int)).toNat = f := by have := HSL.out; simp; omega
          rw [e, HS.out]
        have hsfr : s.fr ≤ k := by
          have h1 := (after_fine HST2.out).root k (by have := (after_fine HST2.out).len; omega)
          have h2 : (ys ++ [s])[k]'(by have := (after_fine HST2.out).len; omega) = s := by
            rw [List.getElem_append_right (by have := HF.out.len; omega)]
            simp
          rw [h2] at h1
          exact h1.2.1
        have HRT : Hid (s.rt = k) := by rw [← hs]; rfl
        have hcap := hio.cap
        have hbo := hio.block
        have hbs := his.block
        have hot := hio.take f (by omega)
        have hfc : f ≤ co := by omega
        clear hs
        by_cases hq0 : 0 < q
        · have hfS : f < S.length := by have := HSL.out; omega
          have hcf : wr.cell? ⟨go, f, none⟩ = some (.int .i64 (s.fr : Int)) := by
            rw [hio.at f (by simp [frs]; exact hfS)]
            have : S[f].fr = s.fr := by
              rw [← HS.out]
              show _ = frOf (S.drop f) k
              rw [List.drop_eq_getElem_cons hfS]
              rfl
            simp [frs, this]
          go_wp2_with (at_builtin; refine wpList_append2 _ rfl (.tmp 45) (.tmp 47) 45 rfl w.heap.size 3 i0 _ 1 8 Tryz.underlying45 hi hz0 hz1 hz2 rfl (by decide) go f co _ rfl (hot.alloc _).2 ⟨_, 0, none⟩ 1 1 [.int .i64 (s.fr : Int)] rfl rfl ?a1 ?a2 ?a3 ?a4 ?a5 ?_)
          case a1 => exact one_cell _ _
          case a2 => exact one_one _
          case a3 => unfold maxLen; omega
          case a4 => omega
          case a5 => have := hb.size; simp; omega
          intro g2 c2 w2 hown2 hgrow2 hwh
          have hI2 : Ints w2 w.heap.size g2 c2 (f + 1) (frs (S.take f ++ [s])) := by
            have h9 := Ints.push hown2 (hot.1) rfl
            have e9 : frs (S.take f ++ [s]) = (frs S).take f ++ [(s.fr : Int)] := by simp [frs, List.map_take]
            rw [e9]
            exact h9
          have his2 := (his.alloc (.cells #[.int .i64 (s.fr : Int)] 3)).kept hgrow2 hne
          have hne2 : gs ≠ g2 := by rcases hwh with h | h <;> omega
          have hb2 : Below w.heap.size w w2 := (hb.alloc hb.size _).grown hgrow2 (by have := hb.size; simp; omega) (fun q hq => by cases hq; exact hbo.1)
          have hsz2 : w2.heap.size ≥ wr.heap.size := by have := hgrow2.size; simp at this; omega
          have hgb2 := hI2.block
          have hsb2 := his2.block
          clear hown2 hgrow2 hwh his hio hot hb hbo hbs hne
          go_wp2_with (at_builtin; refine wpList_append2 _ rfl (.tmp 49) (.tmp 54) 45 rfl w.heap.size 3 i0 _ 1 8 Tryz.underlying45 hi hz0 hz1 hz2 rfl (by decide) gs k cs _ rfl (his2.alloc _).2 ⟨_, 0, none⟩ 1 1 [.int .i64 ((k : Int) - (s.fr : Int) + 1)] rfl rfl ?b1 ?b2 ?b3 ?b4 ?b5 ?_)
          case b1 => exact one_cell _ _
          case b2 => exact one_one _
          case b3 => unfold maxLen; omega
          case b4 => omega
          case b5 => have := hb2.size; simp; omega
          intro g3 c3' w3 hown3 hgrow3 hwh3
          have hI3 : Ints w3 w.heap.size g3 c3' (k + 1) ((ys ++ [s]).map szOf) := by
            have h9 := Ints.push hown3 (his2.1) rfl
            have e9 : (ys ++ [s]).map szOf = ys.map szOf ++ [(k : Int) - (s.fr : Int) + 1] := by simp [szOf, HRT.out]
            rw [e9]
            exact h9
          have hI2' := (hI2.alloc (.cells #[.int .i64 ((k : Int) - (s.fr : Int) + 1)] 3)).kept hgrow3 hne2.symm
          have hne3 : g3 ≠ g2 := by rcases hwh3 with h | h <;> omega
          have hb3 : Below w.heap.size w w3 := (hb2.alloc hb2.size _).grown hgrow3 (by have := hb2.size; simp; omega) (fun q hq => by cases hq; exact hsb2.1)
          clear hown3 hgrow3 hwh3 his2 hI2 hb2 hne2 hgb2 hsb2
          go_wp2
          go_roundw
          case rel => exact ⟨k + 1, f + 1, g3, c3', g2, c2, _, _, by omega, by go_num, HST2.out, rfl, rfl, hI3, hI2', hne3, hb3⟩
          case measure => simp [intOf]; omega
        · have hq00 : q = 0 := by omega
          subst hq00
          have HFR : Hid (s.fr = k) := by
            rw [← HS.out]
            show frOf (S.drop f) k = k
            rw [List.drop_eq_nil_of_le (by have := HSL.out; omega)]
            rfl
          go_wp2_with (at_builtin; refine wpList_append2 _ rfl (.tmp 45) (.tmp 47) 45 rfl w.heap.size 3 i0 _ 1 8 Tryz.underlying45 hi hz0 hz1 hz2 rfl (by decide) go f co _ rfl (hot.alloc _).2 ⟨_, 0, none⟩ 1 1 [.int .i64 (k : Int)] rfl rfl ?a1 ?a2 ?a3 ?a4 ?a5 ?_)
          case a1 => exact one_cell _ _
          case a2 => exact one_one _
          case a3 => unfold maxLen; omega
          case a4 => omega
          case a5 => have := hb.size; simp; omega
          intro g2 c2 w2 hown2 hgrow2 hwh
          have hI2 : Ints w2 w.heap.size g2 c2 (f + 1) (frs (S.take f ++ [s])) := by
            have h9 := Ints.push hown2 (hot.1) rfl
            have e9 : frs (S.take f ++ [s]) = (frs S).take f ++ [(k : Int)] := by simp [frs, List.map_take, HFR.out]
            rw [e9]
            exact h9
          have his2 := (his.alloc (.cells #[.int .i64 (k : Int)] 3)).kept hgrow2 hne
          have hne2 : gs ≠ g2 := by rcases hwh with h | h <;> omega
          have hb2 : Below w.heap.size w w2 := (hb.alloc hb.size _).grown hgrow2 (by have := hb.size; simp; omega) (fun q hq => by cases hq; exact hbo.1)
          have hsz2 : w2.heap.size ≥ wr.heap.size := by have := hgrow2.size; simp at this; omega
          have hgb2 := hI2.block
          have hsb2 := his2.block
          clear hown2 hgrow2 hwh his hio hot hb hbo hbs hne
          go_wp2_with (at_builtin; refine wpList_append2 _ rfl (.tmp 49) (.tmp 54) 45 rfl w.heap.size 3 i0 _ 1 8 Tryz.underlying45 hi hz0 hz1 hz2 rfl (by decide) gs k cs _ rfl (his2.alloc _).2 ⟨_, 0, none⟩ 1 1 [.int .i64 1] rfl rfl ?b1 ?b2 ?b3 ?b4 ?b5 ?_)
          case b1 => exact one_cell _ _
          case b2 => exact one_one _
          case b3 => unfold maxLen; omega
          case b4 => omega
          case b5 => have := hb2.size; simp; omega
          intro g3 c3' w3 hown3 hgrow3 hwh3
          have hI3 : Ints w3 w.heap.size g3 c3' (k + 1) ((ys ++ [s]).map szOf) := by
            have h9 := Ints.push hown3 (his2.1) rfl
            have e9 : (ys ++ [s]).map szOf = ys.map szOf ++ [1] := by simp [szOf, HRT.out, HFR.out]
            rw [e9]
            exact h9
          have hI2' := (hI2.alloc (.cells #[.int .i64 1] 3)).kept hgrow3 hne2.symm
          have hne3 : g3 ≠ g2 := by rcases hwh3 with h | h <;> omega
          have hb3 : Below w.heap.size w w3 := (hb2.alloc hb2.size _).grown hgrow3 (by have := hb2.size; simp; omega) (fun q hq => by cases hq; exact hsb2.1)
          clear hown3 hgrow3 hwh3 his2 hI2 hb2 hne2 hgb2 hsb2
          go_wp2
          go_roundw
          case rel => exact ⟨k + 1, f + 1, g3, c3', g2, c2, _, _, by omega, by go_num, HST2.out, rfl, rfl, hI3, hI2', hne3, hb3⟩
          case measure => simp [intOf]; omega
    · have hke : k = m := by omega
      have hfin : Ints wr w.heap.size gs cs k (sizesOf t) := by
        have e9 : sizesOf t = ys.map szOf := by
          unfold sizesOf
          have : t.length = k := by have := HM.out; omega
          rw [this, hst]
        rw [e9]
        exact his
      clear hx his hio hst
      go_wp2
      go_ret
      exact ⟨_, _, _, rfl, hfin, hb⟩

theorem sizes_any (t : List Nd) (m : Nat) (HM : Hid (t.length = m)) (hm : m ≤ 6000) (ao : Option Addr) (cap : Nat) (w : World) (hx : Nodes w ao t) :
    Calls Tryz.prog 14 #[.slice ao m cap] w fun e w' => ∃ g c n, e = .returned (.slice (some ⟨g, 0, none⟩) n c) ∧ Ints w' w.heap.size g c n (sizesOf t) ∧ Below w.heap.size w w' :=
  sizes60_any t m HM (by omega) ao cap w hx

theorem Ints.set {w : World} {B g cap n : Nat} {xs : List Int} (h : Ints w B g cap n xs) (j : Nat) (x : Int) : Ints (w.setCell ⟨g, j, none⟩ (.int .i64 x)) B g cap n (xs.set j x) := by
  refine ⟨by simp [h.1], ?_⟩
  have := (h.2.stored j (.int .i64 x)).1
  simpa [ints, List.map_set] using this

theorem Ints.frozen {w : World} {B g cap n : Nat} {xs : List Int} (h : Ints w B g cap n xs) (j : Nat) : w.frozen? ⟨g, j, none⟩ = false := h.2.frozenAt j

def rts (K : List Sp) : List Int := K.map fun s => (s.rt : Int)

theorem roots_step (K : List Sp) (r : Nat) (h : 0 < r) (hr : r ≤ K.length) :
    (List.replicate r (0 : Int) ++ rts (K.drop r)).set (r - 1) ((K[r - 1]'(by omega)).rt : Int) = List.replicate (r - 1) (0 : Int) ++ rts (K.drop (r - 1)) := by
  obtain ⟨r', rfl⟩ : ∃ r', r = r' + 1 := ⟨r - 1, by omega⟩
  simp only [Nat.add_sub_cancel]
  rw [List.replicate_succ', List.append_assoc, List.set_append_right _ _ (by simp)]
  have e : r' - (List.replicate r' (0 : Int)).length = 0 := by simp
  rw [e, List.drop_eq_getElem_cons (show r' < K.length by omega)]
  rfl

theorem make_ints (n : Nat) (h : n ≤ 1048576) (w : World) :
    (Instr.makeSlice 45 (.int .i64 (n : Int)) (.int .i64 (n : Int))).run Tryz.prog w = .ok (.slice (some ⟨w.heap.size, 0, none⟩) n n) (w.alloc (.cells (madeCells #[.int .i64 0] n) 3)) :=
  run_make_row' (P := Tryz.prog) 45 3 (.int .i64 0) 8 Tryz.underlying45 Tryz.infoI rfl .i64 .i64 n (by omega) (by omega) w

theorem made_ints (n : Nat) : (madeCells #[Value.int .i64 0] n).toList = ints (List.replicate n 0) := by
  apply List.ext_getElem?
  intro j
  by_cases hj : j < n
  · simp only [madeCells, Array.toList_map, List.getElem?_map, Array.toList_range, ints]
    rw [List.getElem?_range hj, List.getElem?_replicate, if_pos hj]
    simp [Nat.mod_one]
  · rw [List.getElem?_eq_none (by simp [madeCells]; omega), List.getElem?_eq_none (by simp [ints]; omega)]

theorem Ints.made {w : World} {B n : Nat} (hB : B ≤ w.heap.size) (hn : n ≤ 1048576) : Ints (w.alloc (.cells (madeCells #[.int .i64 0] n) 3)) B w.heap.size n n (List.replicate n 0) := by
  refine ⟨by simp, by simp [ints], Or.inr ⟨_, n, _, rfl, hB, heap_alloc_new _ _, Nat.le_refl _, by unfold maxLen; omega, ?_, ?_⟩⟩
  · simp [madeCells]
  · rw [made_ints, List.take_of_length_le (by simp [ints])]

/-- The kids of node i: their places. -/
structure KidsAt (t : List Nd) (ys : List Sp) (i : Nat) (K : List Sp) : Prop where
  num : ∃ h : i < t.length, t[i].kids = (K.length : Int)
  last : ∀ h : 0 < K.length, (K[K.length - 1]'(by omega)).rt + 1 = i
  next : ∀ r (h : 0 < r) (h' : r < K.length), (K[r - 1]'(by omega)).rt + 1 = K[r].fr
  mem : ∀ r (h : r < K.length), ys[K[r].rt]? = some K[r] ∧ K[r].fr ≤ K[r].rt ∧ K[r].rt < i
  dp : ∃ h : i < ys.length, ys[i].dp = dpOf K
  len : K.length ≤ i

theorem kids_atS {t : List Nd} {S ys : List Sp} {n : Nat} (h : after t n = some (S, ys)) (i : Nat) (hi : i < n) : ∃ Si, after t i = some (Si, ys.take i) ∧ ∃ hk : i < t.length, KidsAt t ys i (Si.drop (Si.length - t[i].kids.toNat)) := by
  obtain ⟨Si, hSi⟩ := after_part h i (by omega)
  obtain ⟨Sj, hSj⟩ := after_part h (i + 1) (by omega)
  obtain ⟨S0, ys0, s, hk, ha, hs, he⟩ := after_inv hSj
  rw [hSi] at ha
  simp only [Option.some.injEq, Prod.mk.injEq] at ha
  obtain ⟨rfl, rfl⟩ := ha
  have hf := after_fine hSi
  have hfn := (after_fine h).len
  obtain ⟨h0, h1, _, hov⟩ := step_some hs
  obtain ⟨f, hf'⟩ : ∃ f, f = Si.length - t[i].kids.toNat := ⟨_, rfl⟩
  rw [← hf'] at hov
  have hlen : (Si.drop f).length = t[i].kids.toNat := by simp; omega
  have hget : ∀ r (h : r < (Si.drop f).length), (Si.drop f)[r] = Si[f + r]'(by simp at h; omega) := fun r h => List.getElem_drop
  refine ⟨Si, hSi, hk, ?_⟩
  rw [← hf']
  refine ⟨⟨hk, by rw [hlen]; omega⟩, ?_, ?_, ?_, ?_, by have := chain_len hf.chain; simp; omega⟩
  · intro hp
    have h2 := (hf.chain.2.2.1 (by simp at hp; omega)).2
    rw [hget]
    have e : f + ((Si.drop f).length - 1) = Si.length - 1 := by simp at hp ⊢; omega
    simp only [e]
    exact h2
  · intro r hr hr'
    rw [hget, hget]
    have h2 := hf.chain.2.1 (f + (r - 1)) (by simp at hr'; omega)
    have e : f + (r - 1) + 1 = f + r := by omega
    simp only [e] at h2
    exact h2
  · intro r hr
    rw [hget]
    have hlt : f + r < Si.length := by simp at hr; omega
    have h2 := hf.mem (f + r) hlt
    have h3 := hf.chain.1 (f + r) hlt
    have h4 := (List.getElem?_eq_some_iff.1 h2).1
    refine ⟨?_, h3.1, h3.2⟩
    rw [List.getElem?_take] at h2
    rw [if_pos (by simp at h4; omega)] at h2
    exact h2
  · refine ⟨by omega, ?_⟩
    have hyi : ys[i]? = some s := by
      have h5 : (ys.take (i + 1))[i]? = some s := by
        rw [he, List.getElem?_append_right (by simp; omega)]
        have : i - (ys.take i).length = 0 := by simp; omega
        rw [this]
        rfl
      rw [List.getElem?_take, if_pos (by omega)] at h5
      exact h5
    have h6 := (List.getElem?_eq_some_iff.1 hyi).2
    rw [h6, hov]
    rfl

theorem kids_at {t : List Nd} {S ys : List Sp} {n : Nat} (h : after t n = some (S, ys)) (i : Nat) (hi : i < n) : ∃ K, KidsAt t ys i K := by
  obtain ⟨Si, _, _, h9⟩ := kids_atS h i hi
  exact ⟨_, h9⟩

set_option maxHeartbeats 1000000 in
theorem roots60_any (t : List Nd) (ys K : List Sp) (m i q : Nat) (HM : Hid (t.length = m)) (hm : m ≤ 60000) (HK : Hid (KidsAt t ys i K)) (HQ : Hid (K.length = q)) (him : i < m) (HYL : Hid (ys.length = m)) (ao : Option Addr) (cap gz cz B : Nat) (w : World) (hx : Nodes w ao t) (hz : Ints w B gz cz m (ys.map szOf)) :
    Calls Tryz.prog 30 #[.slice ao m cap, .slice (some ⟨gz, 0, none⟩) m cz, .int .i64 (i : Int)] w fun e w' => ∃ G, e = .returned (.slice (some ⟨G, 0, none⟩) q q) ∧ Ints w' w.heap.size G q q (rts K) ∧ Below w.heap.size w w' := by
  have hit : i < t.length := by have := HM.out; omega
  obtain ⟨b, o, rfl, hn⟩ := hx i hit
  obtain ⟨_, _, _, c3, _⟩ := hn
  have hkn : t[i].kids = (q : Int) := by obtain ⟨h, e⟩ := HK.out.num; rw [e, HQ.out]
  rw [hkn] at c3
  have hqm : q ≤ 60000 := by have := HK.out.len; have := HQ.out; omega
  have hmk := make_ints q (by omega)
  clear hx hkn
  go_enter Tryz.func30, Tryz.ntmps30
  go_wp2
  clear hmk
  have hB1 : Below w.heap.size w (w.alloc (.cells (madeCells #[.int .i64 0] q) 3)) := (Below.refl _ w).alloc (Nat.le_refl _) _
  go_loopw [9, 10] (fun av kv wr => ∃ (r : Nat) (a : Int), r ≤ q ∧ kv = .int .i64 ((r : Int) - 1) ∧ av = .int .i64 a ∧ (∀ h : 0 < r, ∀ h' : r - 1 < K.length, a = (K[r - 1].rt : Int)) ∧ -1 ≤ a ∧ a ≤ 60000 ∧
      Ints wr w.heap.size w.heap.size q q (List.replicate r 0 ++ rts (K.drop r)) ∧ Below w.heap.size w wr) (fun _ kv _ => (intOf kv + 1).toNat)
  case atStart =>
    refine ⟨q, (i : Int) - 1, Nat.le_refl _, rfl, rfl, ?_, by omega, by omega, ?_, hB1⟩
    · intro h h'
      have h2 := HK.out.last (by omega)
      have h3 := HQ.out
      simp only [h3] at h2
      omega
    · have h9 := Ints.made (w := w) (B := w.heap.size) (n := q) (Nat.le_refl _) (by omega)
      have e9 : List.replicate q (0 : Int) ++ rts (K.drop q) = List.replicate q 0 := by
        rw [List.drop_eq_nil_of_le (by have := HQ.out; omega)]
        simp [rts]
      rw [e9]
      exact h9
  case round =>
    obtain ⟨r, a, hr, rfl, rfl, ha, ha1, ha2, hints, hb⟩ := hrel
    by_cases hr0 : 0 < r
    · have hrK : r - 1 < K.length := by have := HQ.out; omega
      obtain ⟨s, hs⟩ : ∃ s, K[r - 1] = s := ⟨_, rfl⟩
      have ha' := ha hr0 hrK
      rw [hs] at ha'
      subst ha'
      obtain ⟨hmem, hfr, hrt⟩ := HK.out.mem (r - 1) hrK
      rw [hs] at hmem hfr hrt
      have hrm : s.rt < m := by omega
      have hlz : s.rt < ys.length := by have := HYL.out; omega
      have cz1 : wr.cell? ⟨gz, s.rt, none⟩ = some (.int .i64 ((s.rt : Int) - (s.fr : Int) + 1)) := by
        have h9 := (hz.below hb).at s.rt (by simp; exact hlz)
        have h8 := (List.getElem?_eq_some_iff.1 hmem).2
        rw [h9]
        simp [szOf, h8]
      have HST : Hid ((List.replicate r (0 : Int) ++ rts (K.drop r)).set (r - 1) (s.rt : Int) = List.replicate (r - 1) (0 : Int) ++ rts (K.drop (r - 1))) := by
        have h9 := roots_step K r hr0 (by omega)
        rw [hs] at h9
        exact h9
      have HA : Hid (∀ h : 0 < r - 1, ∀ h' : r - 1 - 1 < K.length, (s.fr : Int) - 1 = (K[r - 1 - 1].rt : Int)) := by
        intro h h'
        have h9 := HK.out.next (r - 1) h hrK
        rw [hs] at h9
        omega
      have hf := hints.frozen (r - 1)
      obtain ⟨v0, hv0⟩ : ∃ v, wr.cell? ⟨w.heap.size, r - 1, none⟩ = some v := ⟨_, hints.at (r - 1) (by have := hints.1; omega)⟩
      have hi2 := hints.set (r - 1) (s.rt : Int)
      rw [HST.out] at hi2
      have hb2 := hb.setCell (p := ⟨w.heap.size, r - 1, none⟩) (Nat.le_refl _) (.int .i64 (s.rt : Int))
      have hgz := (hz.below hb).block
      have hgne : gz ≠ w.heap.size := by have := hz.block; omega
      obtain ⟨r', rfl⟩ : ∃ r', r = r' + 1 := ⟨r - 1, by omega⟩
      simp only [Nat.add_sub_cancel] at *
      clear ha hs hmem hints hb hz hB1
      go_wp2
      go_roundw
      case rel => exact ⟨r', (s.fr : Int) - 1, by omega, rfl, by go_num, HA.out, by omega, by omega, hi2, hb2⟩
      case measure => simp [intOf]
    · have hr00 : r = 0 := by omega
      subst hr00
      have hfin : Ints wr w.heap.size w.heap.size q q (rts K) := by simpa using hints
      clear hints ha hz hB1
      go_wp2
      go_ret
      exact ⟨_, rfl, hfin, hb⟩

theorem roots_any (t : List Nd) (ys K : List Sp) (m i q : Nat) (HM : Hid (t.length = m)) (hm : m ≤ 6000) (HK : Hid (KidsAt t ys i K)) (HQ : Hid (K.length = q)) (him : i < m) (HYL : Hid (ys.length = m)) (ao : Option Addr) (cap gz cz B : Nat) (w : World) (hx : Nodes w ao t) (hz : Ints w B gz cz m (ys.map szOf)) :
    Calls Tryz.prog 30 #[.slice ao m cap, .slice (some ⟨gz, 0, none⟩) m cz, .int .i64 (i : Int)] w fun e w' => ∃ G, e = .returned (.slice (some ⟨G, 0, none⟩) q q) ∧ Ints w' w.heap.size G q q (rts K) ∧ Below w.heap.size w w' :=
  roots60_any t ys K m i q HM (by omega) HK HQ him HYL ao cap gz cz B w hx hz

def dmx (K : List Sp) : Nat := K.foldl (fun d k => max d k.dp) 0

theorem dmx_dpOf (K : List Sp) : dpOf K = dmx K + 1 := by
  unfold dpOf dmx
  have key : ∀ (l : List Sp) (d : Nat), l.foldl (fun d k => max d (k.dp + 1)) (d + 1) = l.foldl (fun d k => max d k.dp) d + 1 := by
    intro l
    induction l with
    | nil => intro d; rfl
    | cons x l ih =>
      intro d
      simp only [List.foldl_cons]
      have e : max (d + 1) (x.dp + 1) = max d x.dp + 1 := by omega
      rw [e]
      exact ih _
  exact key K 0

theorem dmx_take_succ (K : List Sp) (j : Nat) (h : j < K.length) : dmx (K.take (j + 1)) = max (dmx (K.take j)) K[j].dp := by
  unfold dmx
  rw [List.take_succ_eq_append_getElem h, List.foldl_append]
  rfl

def dps (ys : List Sp) : List Int := ys.map fun s => (s.dp : Int)

set_option maxRecDepth 100000 in
set_option maxHeartbeats 2000000 in
theorem depths_any (t : List Nd) (S ys : List Sp) (m : Nat) (HM : Hid (t.length = m)) (hm : m ≤ 6000) (HA : Hid (after t m = some (S, ys))) (ao : Option Addr) (cap gz cz B : Nat) (w : World) (hx : Nodes w ao t) (hz : Ints w B gz cz m (ys.map szOf)) :
    Calls Tryz.prog 62 #[.slice ao m cap, .slice (some ⟨gz, 0, none⟩) m cz] w fun e w' => ∃ g c, e = .returned (.slice (some ⟨g, 0, none⟩) m c) ∧ Ints w' w.heap.size g c m (dps ys) ∧ Below w.heap.size w w' := by
  obtain ⟨i0, hi, hz0, hz1, hz2⟩ := info_parts Tryz.infoI
  have HF : Hid (Fine m S ys) := after_fine HA.out
  have HYL : Hid (ys.length = m) := HF.out.len
  go_enter Tryz.func62, Tryz.ntmps62
  go_wp2
  go_loopw [5, 6] (fun v p wr => ∃ (i g c : Nat), i ≤ m ∧ p = .int .i64 i ∧ v = .slice (some ⟨g, 0, none⟩) i c ∧ Ints wr w.heap.size g c i (dps (ys.take i)) ∧ Below w.heap.size w wr) (fun _ p _ => m - (intOf p).toNat)
  case atStart => exact ⟨0, w.heap.size, 0, Nat.zero_le _, rfl, rfl, Ints.empty (Nat.le_refl _), (Below.refl _ w).alloc (Nat.le_refl _) _⟩
  case round =>
    obtain ⟨i, g, c, him, rfl, rfl, hout, hb⟩ := hrel
    by_cases hlt : i < m
    · obtain ⟨K, hK⟩ := kids_at HA.out i hlt
      obtain ⟨q, hq⟩ : ∃ q, K.length = q := ⟨_, rfl⟩
      have HK : Hid (KidsAt t ys i K) := hK
      have HQ : Hid (K.length = q) := hq
      have hqm : q ≤ 6000 := by have := hK.len; omega
      have hxr := hx.below hb
      have hzr := hz.below hb
      clear hK hq hx hz
      go_wp2_with fail
      refine (roots_any t ys K m i q HM hm HK HQ hlt HYL ao cap gz cz B wr hxr hzr).mono ?_
      rintro e w1 ⟨G, rfl, hroots, hb1⟩
      have hout1 := hout.below hb1
      have hbb := hb.trans (hb1.mono hb.size)
      clear hb hb1 hout hxr hzr
      go_wp2
      go_loop [7, 9] (fun dv kv => ∃ (j : Nat), j ≤ q ∧ kv = .int .i64 j ∧ dv = .int .i64 (dmx (K.take j) : Int)) (fun _ kv => q - (intOf kv).toNat)
      case atStart => exact ⟨0, Nat.zero_le _, rfl, rfl⟩
      case round =>
        obtain ⟨j, hj, rfl, rfl⟩ := hrel
        by_cases hjq : j < q
        · have hjK : j < K.length := by have := HQ.out; omega
          obtain ⟨s, hs⟩ : ∃ s, K[j] = s := ⟨_, rfl⟩
          obtain ⟨hmem, hfr, hrt⟩ := HK.out.mem j hjK
          rw [hs] at hmem hfr hrt
          have cr : w1.cell? ⟨G, j, none⟩ = some (.int .i64 (s.rt : Int)) := by
            rw [hroots.at j (by simp [rts]; exact hjK)]
            simp [rts, hs]
          have co : w1.cell? ⟨g, s.rt, none⟩ = some (.int .i64 (s.dp : Int)) := by
            have hyl : s.rt < (ys.take i).length := by have := HYL.out; simp; omega
            rw [hout1.at s.rt (by simp only [dps, List.length_map]; exact hyl)]
            have h8 := (List.getElem?_eq_some_iff.1 hmem).2
            simp [dps, h8]
          have HD : Hid (dmx (K.take (j + 1)) = max (dmx (K.take j)) s.dp) := by have h9 := dmx_take_succ K j hjK; rw [hs] at h9; exact h9
          obtain ⟨d, hd⟩ : ∃ d, dmx (K.take j) = d := ⟨_, rfl⟩
          have HDD : Hid (dmx (K.take j) = d) := hd
          rw [hd]
          clear hs hmem hroots hout1 hd
          by_cases hgt : d < s.dp
          · go_wp2
            go_round
            case rel => exact ⟨j + 1, by omega, by go_num, by rw [HD.out, HDD.out]; congr 1; omega⟩
            case measure => simp [intOf]; omega
          · go_wp2
            go_round
            case rel => exact ⟨j + 1, by omega, by go_num, by rw [HD.out, HDD.out]; congr 1; omega⟩
            case measure => simp [intOf]; omega
        · have HE : Hid (K.take j = K) := List.take_of_length_le (by have := HQ.out; omega)
          rw [HE.out]
          have HDP : Hid (((dmx K : Nat) : Int) + 1 = ((ys[i]'(by have := HYL.out; omega)).dp : Int)) := by
            obtain ⟨h9, e9⟩ := HK.out.dp
            show ((dmx K : Nat) : Int) + 1 = ((ys[i]'(by have := HYL.out; omega)).dp : Int)
            rw [e9, dmx_dpOf]
            omega
          have hdb : dmx K ≤ 10000 := by
            have h8 := (HF.out.root i (by have := HYL.out; omega)).2.2.2
            have := HDP.out
            omega
          obtain ⟨d, hd⟩ : ∃ d, dmx K = d := ⟨_, rfl⟩
          rw [hd] at hdb HDP ⊢
          clear hroots hd
          have hob := hout1.block
          go_wp2_with (at_builtin; refine wpList_append2 _ rfl (.tmp 43) (.tmp 46) 45 rfl w.heap.size 3 i0 _ 1 8 Tryz.underlying45 hi hz0 hz1 hz2 rfl (by decide) g i c _ rfl (hout1.alloc _).2 ⟨_, 0, none⟩ 1 1 [.int .i64 ((d : Int) + 1)] rfl rfl (one_cell _ _) (one_one _) ?a3 ?a4 ?a5 ?_)
          case a3 => unfold maxLen; omega
          case a4 => omega
          case a5 => have := hbb.size; simp; omega
          intro g2 c2 w2 hown2 hgrow2 hwh
          have hI2 : Ints w2 w.heap.size g2 c2 (i + 1) (dps (ys.take (i + 1))) := by
            have h9 := Ints.push hown2 hout1.1 rfl
            have e9 : dps (ys.take (i + 1)) = dps (ys.take i) ++ [(d : Int) + 1] := by
              rw [List.take_succ_eq_append_getElem (by have := HYL.out; omega)]
              rw [HDP.out]
              simp only [dps, List.map_append, List.map_cons, List.map_nil]
            rw [e9]
            exact h9
          have hb2 : Below w.heap.size w w2 := (hbb.alloc hbb.size _).grown hgrow2 (by have := hbb.size; simp; omega) (fun q hq => by cases hq; exact hob.1)
          clear hown2 hgrow2 hwh hout1 hbb
          go_wp2
          go_roundw
          case rel => exact ⟨i + 1, g2, c2, by omega, by go_num, rfl, hI2, hb2⟩
          case measure => simp [intOf]; omega
    · have hie : i = m := by omega
      subst hie
      have hfin : Ints wr w.heap.size g c i (dps ys) := by
        rw [List.take_of_length_le (by have := HYL.out; omega)] at hout
        exact hout
      clear hx hz hout
      go_wp2
      go_ret
      exact ⟨_, _, rfl, hfin, hb⟩

end Go.Proofs.YtahdmflbdmlfhaaGreatDoor

import Derived.Test.YthioecjcnajmgaaGreatDoorWAN
import Derived.Deep.RegionLaw
namespace Go.Proofs.YthioecjcnajmgaaGreatDoor

open Go.RowKit

def flat2 (ms : List (Int × Int)) : List Value := ms.flatMap fun p => [.int .i64 p.1, .int .i64 p.2]

theorem flat2_length (ms : List (Int × Int)) : (flat2 ms).length = ms.length * 2 := by
  induction ms with
  | nil => rfl
  | cons m ms ih => simp only [flat2, List.flatMap_cons, List.length_append, List.length_cons, List.length_nil] at *; omega

theorem flat2_append (a b : List (Int × Int)) : flat2 (a ++ b) = flat2 a ++ flat2 b := by simp [flat2]

theorem flat2_get (ms : List (Int × Int)) (i : Nat) (h : i < ms.length) : (flat2 ms)[i * 2]? = some (.int .i64 ms[i].1) ∧ (flat2 ms)[i * 2 + 1]? = some (.int .i64 ms[i].2) := by
  induction ms generalizing i with
  | nil => simp at h
  | cons m ms ih =>
    cases i with
    | zero => simp [flat2]
    | succ i =>
      have e1 : (i + 1) * 2 = i * 2 + 1 + 1 := by omega
      have h9 := ih i (by simpa using h)
      rw [e1]
      simpa [flat2] using h9

/-- Block g is a row of l8Metas. -/
def MRow (w : World) (g : Nat) (ms : List (Int × Int)) : Prop := OwnT 62 w g (flat2 ms)

theorem MRow.at {w : World} {g : Nat} {ms : List (Int × Int)} (h : MRow w g ms) (i : Nat) (hi : i < ms.length) : w.cell? ⟨g, i * 2, none⟩ = some (.int .i64 ms[i].1) ∧ w.cell? ⟨g, i * 2 + 1, none⟩ = some (.int .i64 ms[i].2) := by
  have hl := flat2_length ms
  obtain ⟨h1, h2⟩ := flat2_get ms i hi
  exact ⟨(OwnT.at h _ (by omega)).trans h1, (OwnT.at h _ (by omega)).trans h2⟩

theorem MRow.below {w w' : World} {g : Nat} {ms : List (Int × Int)} (h : MRow w g ms) (hb : Below w.heap.size w w') : MRow w' g ms := OwnT.below h hb

theorem MRow.lt {w : World} {g : Nat} {ms : List (Int × Int)} (h : MRow w g ms) : g < w.heap.size := OwnT.lt h

theorem MRow.kept {w w' : World} {g k : Nat} {ms : List (Int × Int)} (h : MRow w g ms) (hg : w.grownBy w' (some k)) (hne : g ≠ k) : MRow w' g ms := by
  obtain ⟨cur, rest, hh, hc⟩ := h
  exact ⟨cur, rest, (hg.block g (Array.getElem?_eq_some_iff.1 hh).1 (by simpa using hne)).trans hh, hc⟩

/-- What l8Known answers. -/
def knownIn (ms : List (Int × Int)) (x : Int) : Int := if placeIn (ms.map Prod.fst) x < ms.length then (placeIn (ms.map Prod.fst) x : Int) else -1

set_option maxHeartbeats 1000000 in
theorem known_any (ms : List (Int × Int)) (n : Nat) (HM : Hid (ms.length = n)) (hn : n ≤ 1048576) (x : Int) (g cap : Nat) (w : World) (hr : MRow w g ms) :
    Calls Tryz.prog 23 #[.slice (some ⟨g, 0, none⟩) n cap, .int .i64 x] w fun e w' => e = .returned (.int .i64 (knownIn ms x)) ∧ Below w.heap.size w w' := by
  go_enter Tryz.func23, Tryz.ntmps23
  go_wp2
  go_loopw [5] (fun i wr => ∃ (k : Nat), k ≤ n ∧ i = .int .i64 k ∧ (∀ i (h : i < (ms.map Prod.fst).length), i < k → (ms.map Prod.fst)[i] ≠ x) ∧ Below w.heap.size w wr) (fun i _ => n - (intOf i).toNat)
  case atStart => exact ⟨0, Nat.zero_le _, rfl, fun i _ h => absurd h (by omega), Below.refl _ _⟩
  case round =>
    obtain ⟨k, hk, rfl, hall, hb⟩ := hrel
    by_cases hlt : k < n
    · have hltx : k < ms.length := by have := HM.out; omega
      have hltm : k < (ms.map Prod.fst).length := by simp; exact hltx
      have hrow := hr.below hb
      obtain ⟨c0, _⟩ := hrow.at k hltx
      have hlb := hrow.lt
      by_cases he : ms[k].1 = x
      · have HV : Hid (knownIn ms x = (k : Int)) := by
          have h9 := placeIn_found (x := x) hltm (by simpa using he) hall
          show knownIn ms x = _
          unfold knownIn
          rw [h9, if_pos hltx]
        rw [he] at c0
        have te : ((x : Int) == x) = true := by simp
        clear hall hr hrow he
        go_wp2
        go_ret
        exact ⟨by rw [HV.out]; rfl, hb⟩
      · have te : (ms[k].1 == x) = false := by simpa using he
        have HA : Hid (∀ i (h : i < (ms.map Prod.fst).length), i < k + 1 → (ms.map Prod.fst)[i] ≠ x) := by
          intro i h hi
          by_cases e : i = k
          · subst e; simpa using he
          · exact hall i h (by omega)
        obtain ⟨v, hv⟩ : ∃ v, ms[k].1 = v := ⟨_, rfl⟩
        rw [hv] at c0 te
        clear hall hr hrow he hv
        go_wp2
        go_roundw
        case rel => exact ⟨k + 1, by omega, by go_num, HA.out, hb⟩
        case measure => simp [intOf]; omega
    · have HV : Hid (knownIn ms x = -1) := by
        have h9 := placeIn_none (met := ms.map Prod.fst) (x := x) (fun i h => hall i h (by have := HM.out; simp at h; omega))
        show knownIn ms x = _
        unfold knownIn
        rw [h9, if_neg (by simp)]
      clear hall hr
      go_wp2
      go_ret
      exact ⟨by rw [HV.out]; rfl, hb⟩

/-- A slice of l8Metas of the call's own. -/
def OwnM (w : World) (B g c l : Nat) (ms : List (Int × Int)) : Prop := ms.length = l ∧ w.ownsRow B 62 2 (.slice (some ⟨g, 0, none⟩) l c) l (flat2 ms)

theorem Tryz.infoM : (Tryz.prog.info? 62).map (fun i => (i.zero, i.size, i.bytes)) = some (some (.agg #[.int .i64 0, .int .i64 0]), 2, 16) := by kernel_rfl

theorem OwnM.row {w : World} {B g c l : Nat} {ms : List (Int × Int)} (h : OwnM w B g c l ms) : B ≤ g ∧ MRow w g ms := by
  obtain ⟨hl, ho⟩ := h
  rcases ho.2 with ⟨h', _⟩ | ⟨g2, cap2, cur, he, hb, hh, _, _, _, htake⟩
  · cases h'
  · simp only [Value.slice.injEq, Option.some.injEq, Addr.mk.injEq, and_true, true_and] at he
    obtain ⟨rfl, rfl⟩ := he
    exact ⟨hb, cur, cur.toList.drop (l * 2), hh, by rw [← htake, List.take_append_drop]⟩

theorem OwnM.empty {w : World} {B : Nat} (hB : B ≤ w.heap.size) : OwnM (w.alloc (.cells #[] 62)) B w.heap.size 0 0 [] :=
  ⟨rfl, rfl, Or.inr ⟨_, 0, #[], rfl, hB, heap_alloc_new _ _, Nat.le_refl _, by simp [maxLen], rfl, rfl⟩⟩

theorem OwnM.alloc {w : World} {B g c l : Nat} {ms : List (Int × Int)} (h : OwnM w B g c l ms) (o : Obj) : OwnM (w.alloc o) B g c l ms := ⟨h.1, h.2.alloc o⟩

theorem OwnM.but {S : Nat → Prop} {w w' : World} {B g c l : Nat} {ms : List (Int × Int)} (h : OwnM w B g c l ms) (hb : But S w w') (hn : ¬ S g) : OwnM w' B g c l ms := ⟨h.1, owns_but h.2 hb hn⟩

theorem OwnM.below {w w' : World} {B g c l : Nat} {ms : List (Int × Int)} (h : OwnM w B g c l ms) (hb : Below w.heap.size w w') : OwnM w' B g c l ms := h.but (S := fun _ => False) (But.ofBelow hb) (fun h => h)

theorem OwnM.kept {w w' : World} {B g c l k : Nat} {ms : List (Int × Int)} (h : OwnM w B g c l ms) (hg : w.grownBy w' (some k)) (hne : g ≠ k) : OwnM w' B g c l ms := ⟨h.1, owns_kept h.2 hg hne⟩

theorem OwnM.push {w : World} {B g c l m : Nat} {ms : List (Int × Int)} {x : Int × Int} (h : w.ownsRow B 62 2 (.slice (some ⟨g, 0, none⟩) m c) m (flat2 ms ++ [.int .i64 x.1, .int .i64 x.2])) (hl : ms.length = l) (hm : m = l + 1) : OwnM w B g c (l + 1) (ms ++ [x]) := by
  subst hm
  refine ⟨by simp [hl], ?_⟩
  rw [flat2_append]
  exact h

theorem two_cells (w : World) (a b : Int) : ∀ j u, [Value.int .i64 a, .int .i64 b][j]? = some u → (w.alloc (.cells #[.int .i64 a, .int .i64 b] 62)).cell? (Addr.add ⟨w.heap.size, 0, none⟩ j) = some u := by
  intro j u hj
  have ad : Addr.add ⟨w.heap.size, 0, none⟩ j = ⟨w.heap.size, j, none⟩ := by
    unfold Addr.add
    split
    · simp_all
    · simp
  rw [ad, cell_of_row _ w.heap.size j _ 62 (0, 0) (heap_alloc_new _ _), ← hj]
  simp

theorem two_one (a b : Int) : ∀ u ∈ [Value.int .i64 a, .int .i64 b], u.oneCell' = true := by
  intro u hu
  simp at hu
  rcases hu with rfl | rfl <;> rfl

theorem owns_setOne {w : World} {B e size g c n i : Nat} {xs : List Value} {v : Value} (h : w.ownsRow B e size (.slice (some ⟨g, 0, none⟩) n c) n xs) : (w.setCell ⟨g, i, none⟩ v).ownsRow B e size (.slice (some ⟨g, 0, none⟩) n c) n (xs.set i v) := by
  obtain ⟨hl, ho⟩ := h
  refine ⟨by simp [hl], Or.inr ?_⟩
  rcases ho with ⟨h', _⟩ | ⟨g2, cap2, cur, he, hb, hh, h1, h2, h3, htake⟩
  · cases h'
  · simp only [Value.slice.injEq, Option.some.injEq, Addr.mk.injEq, and_true, true_and] at he
    obtain ⟨rfl, rfl⟩ := he
    exact ⟨_, _, _, rfl, hb, heap_setCell_same _ g i _ e _ hh, h1, h2, by simp [h3], by rw [Array.toList_setIfInBounds, List.take_set, htake]⟩

theorem flat2_set (ms : List (Int × Int)) (j : Nat) (p : Int × Int) : ((flat2 ms).set (j * 2) (.int .i64 p.1)).set (j * 2 + 1) (.int .i64 p.2) = flat2 (ms.set j p) := by
  induction ms generalizing j with
  | nil => simp [flat2]
  | cons m ms ih =>
    cases j with
    | zero => simp [flat2]
    | succ j =>
      have e1 : (j + 1) * 2 = j * 2 + 1 + 1 := by omega
      have h9 := ih j
      rw [e1]
      simp only [flat2, List.flatMap_cons, List.cons_append, List.nil_append, List.set_cons_succ] at h9 ⊢
      rw [h9]

theorem OwnM.put {w : World} {B g c l : Nat} {ms : List (Int × Int)} (h : OwnM w B g c l ms) (j : Nat) (a b : Int) : OwnM ((w.setCell ⟨g, j * 2, none⟩ (.int .i64 a)).setCell ⟨g, j * 2 + 1, none⟩ (.int .i64 b)) B g c l (ms.set j (a, b)) := by
  refine ⟨by simp [h.1], ?_⟩
  have h9 := owns_setOne (v := .int .i64 b) (owns_setOne (v := .int .i64 a) h.2 (i := j * 2)) (i := j * 2 + 1)
  rw [flat2_set ms j (a, b)] at h9
  exact h9

/-- x put into a list whose last comes first: it goes by those that are greater. -/
def insR (x : Int × Int) : List (Int × Int) → List (Int × Int)
  | [] => [x]
  | y :: ys => if x.1 < y.1 then y :: insR x ys else x :: y :: ys

/-- One more in l8Sorted. -/
def insM (out : List (Int × Int)) (x : Int × Int) : List (Int × Int) := (insR x out.reverse).reverse

def sortedM (ms : List (Int × Int)) : List (Int × Int) := ms.foldl insM []

theorem insR_length (x : Int × Int) (l : List (Int × Int)) : (insR x l).length = l.length + 1 := by
  induction l with
  | nil => rfl
  | cons y ys ih => unfold insR; split <;> simp [ih]

theorem insM_length (out : List (Int × Int)) (x : Int × Int) : (insM out x).length = out.length + 1 := by simp [insM, insR_length]

theorem sortedM_take (ms : List (Int × Int)) (k : Nat) (h : k < ms.length) : sortedM (ms.take (k + 1)) = insM (sortedM (ms.take k)) ms[k] := by
  unfold sortedM
  rw [List.take_succ_eq_append_getElem h, List.foldl_append]
  rfl

theorem sortedM_length (ms : List (Int × Int)) : (sortedM ms).length = ms.length := by
  have : ∀ out, (ms.foldl insM out).length = out.length + ms.length := by
    induction ms with
    | nil => simp
    | cons m ms ih => intro out; rw [List.foldl_cons, ih, insM_length]; simp; omega
  have h9 := this []
  unfold sortedM
  simpa using h9

/-- The step by which one goes by another. -/
theorem insM_step (A : List (Int × Int)) (y x : Int × Int) (B : List (Int × Int)) (h : x.1 < y.1) : (insR x (A ++ [y]).reverse).reverse ++ B = (insR x A.reverse).reverse ++ (y :: B) := by
  rw [List.reverse_append]
  simp only [List.reverse_cons, List.reverse_nil, List.nil_append, List.cons_append]
  rw [insR, if_pos h]
  simp

theorem insM_stop (A : List (Int × Int)) (x : Int × Int) (h : ∀ y, A.getLast? = some y → ¬ x.1 < y.1) : (insR x A.reverse).reverse = A ++ [x] := by
  rcases List.eq_nil_or_concat A with rfl | ⟨A', y, rfl⟩
  · rfl
  · rw [List.concat_eq_append, List.reverse_append]
    simp only [List.reverse_cons, List.reverse_nil, List.nil_append, List.cons_append]
    rw [insR, if_neg (h y (by simp))]
    simp

theorem swap_list (A B : List (Int × Int)) (x y : Int × Int) : (((A ++ [y]) ++ x :: B).set (A.length + 1) y).set A.length x = A ++ x :: (y :: B) := by
  induction A with
  | nil => rfl
  | cons a A ih => simp

set_option maxRecDepth 100000 in
set_option maxHeartbeats 1000000 in
theorem sorted_any (ms : List (Int × Int)) (n : Nat) (HM : Hid (ms.length = n)) (hn : n ≤ 1048576) (g0 cap : Nat) (w : World) (hr : MRow w g0 ms) :
    Calls Tryz.prog 24 #[.slice (some ⟨g0, 0, none⟩) n cap] w fun e w' => ∃ g c, e = .returned (.slice (some ⟨g, 0, none⟩) n c) ∧ w.heap.size ≤ g ∧ MRow w' g (sortedM ms) ∧ Below w.heap.size w w' := by
  obtain ⟨i0, hi, hz0, hz1, hz2⟩ := info_parts Tryz.infoM
  go_enter Tryz.func24, Tryz.ntmps24
  go_wp2
  go_loopw [3, 4] (fun v p wr => ∃ (k g c : Nat), k ≤ n ∧ p = .int .i64 k ∧ v = .slice (some ⟨g, 0, none⟩) k c ∧ OwnM wr w.heap.size g c k (sortedM (ms.take k)) ∧ Below w.heap.size w wr) (fun _ p _ => n - (intOf p).toNat)
  case atStart => exact ⟨0, w.heap.size, 0, Nat.zero_le _, rfl, rfl, OwnM.empty (Nat.le_refl _), (Below.refl _ w).alloc (Nat.le_refl _) _⟩
  case round =>
    obtain ⟨k, g, c, hk, rfl, rfl, hown, hb⟩ := hrel
    by_cases hlt : k < n
    · have hltx : k < ms.length := by have := HM.out; omega
      have hrow := hr.below hb
      obtain ⟨c0, c1⟩ := hrow.at k hltx
      obtain ⟨⟨xa, xb⟩, hx⟩ : ∃ x, ms[k] = x := ⟨_, rfl⟩
      rw [hx] at c0 c1
      simp only at c0 c1
      have hlb := hrow.lt
      have hob := owns_block hown.2
      have HS : Hid (sortedM (ms.take (k + 1)) = insM (sortedM (ms.take k)) (xa, xb)) := by
        show sortedM (ms.take (k + 1)) = _
        rw [sortedM_take ms k hltx, hx]
      clear hr hrow hx
      have hl9 := hown.1
      go_wp2_with (at_builtin; refine wpList_append2 _ rfl (.tmp 14) (.tmp 19) 59 rfl w.heap.size 62 i0 _ 2 16 Tryz.underlying59 hi hz0 hz1 hz2 rfl (by decide) g k c _ rfl (hown.alloc _).2 ⟨_, 0, none⟩ 1 1 [.int .i64 xa, .int .i64 xb] rfl rfl (two_cells _ xa xb) (two_one _ _) ?a3 ?a4 ?a5 ?_)
      case a3 => unfold maxLen; omega
      case a4 => omega
      case a5 => have := hb.size; simp; omega
      intro g2 c2 w2 hown2 hgrow2 hwh
      have hO := OwnM.push (x := (xa, xb)) hown2 hown.1 rfl
      have hbb : Below w.heap.size w w2 := (hb.alloc hb.size _).grown hgrow2 (by have := hb.size; simp; omega) (fun q hq => by cases hq; exact hob.1)
      generalize sortedM (ms.take k) = out at *
      clear hown2 hgrow2 hwh hown hb c0 c1 hob hlb
      go_wp2
      go_loopw [5] (fun q wq => ∃ (j : Nat) (A B : List (Int × Int)), q = .int .i64 j ∧ A.length = j ∧ j ≤ k ∧ OwnM wq w.heap.size g2 c2 (k + 1) (A ++ (xa, xb) :: B) ∧ (insR (xa, xb) A.reverse).reverse ++ B = insM out (xa, xb) ∧ Below w.heap.size w wq) (fun q _ => (intOf q).toNat)
      case atStart => exact ⟨k, out, [], by go_num, hl9, Nat.le_refl _, hO, by simp [insM], hbb⟩
      case round =>
        clear hO hbb hl9
        obtain ⟨j, A, B, rfl, hA, hjk, hown, hins, hb⟩ := hrel
        have hrow := hown.row.2
        have hob := owns_block hown.2
        have hln : A.length + (B.length + 1) = k + 1 := by have h9 := hown.1; simpa using h9
        obtain ⟨d0, d1⟩ := hrow.at j (by simp; omega)
        have hxe : (A ++ (xa, xb) :: B)[j]'(by simp; omega) = (xa, xb) := by simp [← hA]
        rw [hxe] at d0 d1
        simp only at d0 d1
        have hfin : OwnM wr w.heap.size g2 c2 (k + 1) (A ++ (xa, xb) :: B) := hown
        by_cases hj0 : 0 < j
        · obtain ⟨A', y, rfl⟩ : ∃ A' y, A = A' ++ [y] := by
            rcases List.eq_nil_or_concat A with rfl | ⟨A', y, rfl⟩
            · simp at hA; omega
            · exact ⟨A', y, by simp⟩
          obtain ⟨ya, yb⟩ := y
          have hA' : A'.length = j - 1 := by simp at hA; omega
          obtain ⟨e0, e1⟩ := hrow.at (j - 1) (by simp; omega)
          have hye : ((A' ++ [(ya, yb)]) ++ (xa, xb) :: B)[j - 1]'(by simp; omega) = (ya, yb) := by
            simp [← hA']
          rw [hye] at e0 e1
          simp only at e0 e1
          by_cases hxy : xa < ya
          · have hst := insM_step A' (ya, yb) (xa, xb) B hxy
            rw [hins] at hst
            have tlt : decide (xa < ya) = true := decide_eq_true hxy
            clear hins hrow hfin hxe hye
            go_wp2_with fail
            go_quiet (fail)
            have hdr := below_drewN wr nq
            have d0' := (hdr.cell (p := ⟨g2, j * 2, none⟩) hob.2).trans d0
            have d1' := (hdr.cell (p := ⟨g2, j * 2 + 1, none⟩) hob.2).trans d1
            have e0' := (hdr.cell (p := ⟨g2, (j - 1) * 2, none⟩) hob.2).trans e0
            have e1' := (hdr.cell (p := ⟨g2, (j - 1) * 2 + 1, none⟩) hob.2).trans e1
            have hown' := hown.below hdr
            have hb' := Below.step hb hdr
            have hob' := owns_block hown'.2
            clear hdr d0 d1 e0 e1 hown hb hob
            generalize wr.drewN nq = W2 at *
            have f0 := OwnT.frozen hown'.row.2 (j * 2)
            have f1 := OwnT.frozen hown'.row.2 (j * 2 + 1)
            have f2 := OwnT.frozen hown'.row.2 ((j - 1) * 2)
            have f3 := OwnT.frozen hown'.row.2 ((j - 1) * 2 + 1)
            have HO : Hid (OwnM (((((W2.setCell ⟨g2, j * 2, none⟩ (.int .i64 ya)).setCell ⟨g2, j * 2 + 1, none⟩ (.int .i64 yb)).setCell ⟨g2, (j - 1) * 2, none⟩ (.int .i64 xa)).setCell ⟨g2, (j - 1) * 2 + 1, none⟩ (.int .i64 xb)).alloc (.cells #[.int .i64 xa, .int .i64 xb] 62)) w.heap.size g2 c2 (k + 1) (A' ++ (xa, xb) :: ((ya, yb) :: B))) := by
              have h9 := ((hown'.put j ya yb).put (j - 1) xa xb).alloc (.cells #[.int .i64 xa, .int .i64 xb] 62)
              have e9 : (((A' ++ [(ya, yb)]) ++ (xa, xb) :: B).set j (ya, yb)).set (j - 1) (xa, xb) = A' ++ (xa, xb) :: ((ya, yb) :: B) := by
                have ej : j = A'.length + 1 := by omega
                rw [ej]
                exact swap_list A' B (xa, xb) (ya, yb)
              rw [e9] at h9
              exact h9
            have HB : Hid (Below w.heap.size w (((((W2.setCell ⟨g2, j * 2, none⟩ (.int .i64 ya)).setCell ⟨g2, j * 2 + 1, none⟩ (.int .i64 yb)).setCell ⟨g2, (j - 1) * 2, none⟩ (.int .i64 xa)).setCell ⟨g2, (j - 1) * 2 + 1, none⟩ (.int .i64 xb)).alloc (.cells #[.int .i64 xa, .int .i64 xb] 62))) := by
              have b4 : But (· = g2) W2 ((((W2.setCell ⟨g2, j * 2, none⟩ (.int .i64 ya)).setCell ⟨g2, j * 2 + 1, none⟩ (.int .i64 yb)).setCell ⟨g2, (j - 1) * 2, none⟩ (.int .i64 xa)).setCell ⟨g2, (j - 1) * 2 + 1, none⟩ (.int .i64 xb)) := ((((But.refl (· = g2) W2).setCell (p := ⟨g2, j * 2, none⟩) rfl _).setCell (p := ⟨g2, j * 2 + 1, none⟩) rfl _).setCell (p := ⟨g2, (j - 1) * 2, none⟩) rfl _).setCell (p := ⟨g2, (j - 1) * 2 + 1, none⟩) rfl _
              have h9 := hb'.trans (b4.below hb'.size (fun q hq => by omega))
              exact h9.alloc h9.size _
            have HI : Hid ((insR (xa, xb) A'.reverse).reverse ++ ((ya, yb) :: B) = insM out (xa, xb)) := hst.symm
            clear hst
            go_wp2
            go_roundw
            case rel => exact ⟨j - 1, A', (ya, yb) :: B, by go_num, hA', by omega, HO.out, HI.out, HB.out⟩
            case measure => simp [intOf]; omega
          · have tlt : decide (xa < ya) = false := decide_eq_false hxy
            have HE : Hid (A' ++ [(ya, yb)] ++ (xa, xb) :: B = insM out (xa, xb)) := by
              show A' ++ [(ya, yb)] ++ (xa, xb) :: B = _
              rw [← hins, insM_stop (A' ++ [(ya, yb)]) (xa, xb) (by intro y hy; simp at hy; subst hy; exact hxy)]
              simp
            clear hins hrow hxe hye hown
            go_wp2_with fail
            go_quiet (fail)
            have hdr := below_drewN wr nq
            have hfin' := hfin.below hdr
            have hb' := Below.step hb hdr
            rw [HE.out, ← HS.out] at hfin'
            clear hdr d0 d1 e0 e1 hfin hb
            generalize wr.drewN nq = W2 at *
            go_wp2
            go_roundw
            case rel => exact ⟨k + 1, g2, c2, by omega, by go_num, rfl, hfin', hb'⟩
            case measure => simp [intOf]; omega
        · have hA0 : A = [] := List.eq_nil_of_length_eq_zero (by omega)
          subst hA0
          have HE : Hid ([] ++ (xa, xb) :: B = insM out (xa, xb)) := by
            show [] ++ (xa, xb) :: B = _
            rw [← hins]
            rfl
          have tj : decide ((j : Int) > 0) = false := decide_eq_false (by omega)
          clear hins hrow hxe hown
          go_wp2_with fail
          go_quiet (fail)
          have hdr := below_drewN wr nq
          have hfin' := hfin.below hdr
          have hb' := Below.step hb hdr
          rw [HE.out, ← HS.out] at hfin'
          clear hdr d0 d1 hfin hb
          generalize wr.drewN nq = W2 at *
          go_wp2
          go_roundw
          case rel => exact ⟨k + 1, g2, c2, by omega, by go_num, rfl, hfin', hb'⟩
          case measure => simp [intOf]; omega
    · have hke : k = n := by omega
      subst hke
      rw [List.take_of_length_le (by have := HM.out; omega)] at hown
      obtain ⟨hg, hrw⟩ := hown.row
      clear hr hown
      go_wp2
      go_ret
      exact ⟨_, _, rfl, hg, hrw, hb⟩

theorem Longs.row {w : World} {B g c l : Nat} {xs : List Int} (h : Longs w B g c l xs) : B ≤ g ∧ LRow w g xs := by
  obtain ⟨hl, ho⟩ := h
  rcases ho.2 with ⟨h', _⟩ | ⟨g2, cap2, cur, he, hb, hh, _, _, _, htake⟩
  · cases h'
  · simp only [Value.slice.injEq, Option.some.injEq, Addr.mk.injEq, and_true, true_and] at he
    obtain ⟨rfl, rfl⟩ := he
    exact ⟨hb, cur, cur.toList.drop (l * 1), hh, by rw [← htake, List.take_append_drop]⟩

/-- One node of Unknowns. -/
def unkStep (ms : List (Int × Int)) (n : Nd) : List (Int × Int) := if n.kind = 61 ∧ knownIn ms n.num < 0 then ms ++ [(n.num, 0)] else ms

def unkTo (t : List Nd) (k : Nat) : List (Int × Int) := (t.take k).foldl unkStep []

/-- What Unknowns answers. -/
def unkOf (t : List Nd) : List Int := if typeb t then (sortedM (unkTo t t.length)).map Prod.fst else []

theorem unkTo_succ (t : List Nd) (k : Nat) (h : k < t.length) : unkTo t (k + 1) = unkStep (unkTo t k) t[k] := by
  unfold unkTo
  rw [List.take_succ_eq_append_getElem h, List.foldl_append]
  rfl

theorem unkTo_len (t : List Nd) (k : Nat) (h : k ≤ t.length) : (unkTo t k).length ≤ k := by
  induction k with
  | zero => simp [unkTo]
  | succ k ih =>
    have h1 := ih (by omega)
    rw [unkTo_succ t k (by omega)]
    unfold unkStep
    split
    · simp; omega
    · omega

set_option maxRecDepth 100000 in
set_option maxHeartbeats 1000000 in
theorem specUnknowns_any (t : List Nd) (m : Nat) (HM : Hid (t.length = m)) (hm : m ≤ 1048576) (ao : Option Addr) (cap : Nat) (w : World) (hx : Nodes w ao t) :
    Calls Tryz.prog 7 #[.slice ao m cap] w fun e w' => ∃ g c l, e = .returned (.slice (some ⟨g, 0, none⟩) l c) ∧ w.heap.size ≤ g ∧ (unkOf t).length = l ∧ LRow w' g (unkOf t) ∧ Below w.heap.size w w' := by
  obtain ⟨i0, hi, hz0, hz1, hz2⟩ := info_parts Tryz.infoM
  obtain ⟨i1, hj1, hy0, hy1, hy2⟩ := info_parts Tryz.infoL
  go_enter Tryz.func7, Tryz.ntmps7
  have hA : Below w.heap.size w (w.alloc (.cells #[] 2)) := (Below.refl _ w).alloc (Nat.le_refl _) _
  have hO := Longs.empty (w := w) (B := w.heap.size) (Nat.le_refl _)
  go_wp2_with fail
  refine (isType_any t m HM hm ao cap _ (hx.below hA)).mono ?_
  rintro e w1 ⟨rfl, hb1⟩
  have hO1 := hO.below hb1
  have hb := Below.step hA hb1
  clear hO hA hb1
  cases ht : typeb t
  · have HV : Hid (unkOf t = []) := by simp only [unkOf, ht, Hid]; rfl
    obtain ⟨hg, hr⟩ := hO1.row
    clear hO1 hx
    go_wp2
    go_ret
    exact ⟨_, _, _, rfl, hg, by rw [HV.out]; rfl, by rw [HV.out]; exact hr, hb⟩
  · have HV : Hid (unkOf t = (sortedM (unkTo t m)).map Prod.fst) := by simp only [unkOf, ht, Hid, if_true, HM.out]
    have h3 : m ≤ 300 := by
      have h9 := ht
      simp only [typeb, Bool.and_eq_true, decide_eq_true_eq] at h9
      have := HM.out
      omega
    have hM0 := OwnM.empty (w := w1) (B := w.heap.size) hb.size
    have hO2 := hO1.alloc (.cells #[] 62)
    have hb2 := hb.alloc hb.size (.cells #[] 62)
    have hsw : w.heap.size < w1.heap.size := hO1.block.2
    clear ht hO1
    go_wp2
    go_loopw [4, 5] (fun v p wr => ∃ (k g c l : Nat), k ≤ m ∧ p = .int .i64 k ∧ v = .slice (some ⟨g, 0, none⟩) l c ∧ OwnM wr w.heap.size g c l (unkTo t k) ∧ g ≠ w.heap.size ∧ Longs wr w.heap.size w.heap.size 0 0 [] ∧ Below w.heap.size w wr) (fun _ p _ => m - (intOf p).toNat)
    case atStart => exact ⟨0, w1.heap.size, 0, 0, Nat.zero_le _, rfl, rfl, hM0, by omega, hO2, hb2⟩
    case round =>
      clear hM0 hO2 hb2 hb hsw
      obtain ⟨k, g, c, l, hk, rfl, rfl, hown, hne, hout, hb⟩ := hrel
      by_cases hlt : k < m
      · have hltx : k < t.length := by have := HM.out; omega
        obtain ⟨⟨kd, nm, tx, ks, pl⟩, hxk⟩ : ∃ x, t[k] = x := ⟨_, rfl⟩
        obtain ⟨b, o, rfl, hcx⟩ := hx.below hb k hltx
        rw [hxk] at hcx
        obtain ⟨c0, c1, c2, c3, c4⟩ := hcx
        simp only at c0 c1
        have hlb : b < wr.heap.size := lt_of_cell c0
        have hob := owns_block hown.2
        have HS : Hid (unkTo t (k + 1) = unkStep (unkTo t k) ⟨kd, nm, tx, ks, pl⟩) := by
          show unkTo t (k + 1) = _
          rw [unkTo_succ t k hltx, hxk]
        have hll : l ≤ k := by have := unkTo_len t k (by omega); have := hown.1; omega
        generalize unkTo t k = met at *
        clear hx hxk c2 c3 c4
        by_cases h61 : kd = 61
        · subst h61
          go_wp2_with fail
          refine (known_any met l hown.1 (by omega) nm g c wr hown.row.2).mono ?_
          rintro e w2 ⟨rfl, hb2⟩
          have hown2 := hown.below hb2
          have hout2 := hout.below hb2
          have hbb := Below.step hb hb2
          have c1' := (hb2.cell (p := ⟨b, o + k * 5 + 1, none⟩) hlb).trans c1
          have hsz2 := hb2.size
          have hlb2 : b < w2.heap.size := by omega
          obtain ⟨q, hq⟩ : ∃ q, knownIn met nm = q := ⟨_, rfl⟩
          have HQ : Hid (knownIn met nm = q) := hq
          rw [hq]
          clear hown hout hb hb2 c0 c1 hq
          by_cases hq0 : q < 0
          · have tq : decide (q < 0) = true := decide_eq_true hq0
            have HT : Hid (unkTo t (k + 1) = met ++ [(nm, 0)]) := by
              show unkTo t (k + 1) = _
              rw [HS.out]
              simp only [unkStep, HQ.out]
              rw [if_pos ⟨trivial, hq0⟩]
            have hob2 := owns_block hown2.2
            go_wp2_with (at_builtin; refine wpList_append2 _ rfl (.tmp 36) (.tmp 43) 59 rfl w.heap.size 62 i0 _ 2 16 Tryz.underlying59 hi hz0 hz1 hz2 rfl (by decide) g l c _ rfl (hown2.alloc _).2 ⟨_, 0, none⟩ 1 1 [.int .i64 nm, .int .i64 0] rfl rfl (two_cells _ nm 0) (two_one _ _) ?a3 ?a4 ?a5 ?_)
            case a3 => unfold maxLen; omega
            case a4 => omega
            case a5 => have := hbb.size; simp; omega
            intro g5 c5 w5 hown5 hgrow5 hwh5
            have hO := OwnM.push (x := (nm, 0)) hown5 hown2.1 rfl
            have hb5 : Below w.heap.size w w5 := (hbb.alloc hbb.size _).grown hgrow5 (by have := hbb.size; simp; omega) (fun q hq => by cases hq; exact hob2.1)
            have hL := (hout2.alloc _).kept hgrow5 (Ne.symm hne)
            have hne5 : g5 ≠ w.heap.size := by have := hout2.block; rcases hwh5 with h | h <;> (try simp at h) <;> omega
            clear hown5 hgrow5 hwh5 hown2 hout2 hbb c1'
            go_wp2
            go_roundw
            case rel => exact ⟨k + 1, g5, c5, l + 1, by omega, by go_num, rfl, by rw [HT.out]; exact hO, hne5, hL, hb5⟩
            case measure => simp [intOf]; omega
          · have tq : decide (q < 0) = false := decide_eq_false hq0
            have HT : Hid (unkTo t (k + 1) = met) := by
              show unkTo t (k + 1) = _
              rw [HS.out]
              simp only [unkStep, HQ.out]
              rw [if_neg (fun h => hq0 h.2)]
            go_wp2
            go_roundw
            case rel => exact ⟨k + 1, g, c, l, by omega, by go_num, rfl, by rw [HT.out]; exact hown2, hne, hout2, hbb⟩
            case measure => simp [intOf]; omega
        · have t61 : ((kd : Int) == 61) = false := by simpa using h61
          have HT : Hid (unkTo t (k + 1) = met) := by
            show unkTo t (k + 1) = _
            rw [HS.out]
            simp [unkStep, h61]
          clear h61
          go_wp2
          go_roundw
          case rel => exact ⟨k + 1, g, c, l, by omega, by go_num, rfl, by rw [HT.out]; exact hown, hne, hout, hb⟩
          case measure => simp [intOf]; omega
      · have hke : k = m := by omega
        subst hke
        have hlk : l ≤ k := by have := unkTo_len t k (by have := HM.out; omega); have := hown.1; omega
        obtain ⟨met, hmet⟩ : ∃ x, unkTo t k = x := ⟨_, rfl⟩
        rw [hmet] at hown HV
        clear hx hmet
        go_wp2_with fail
        refine (sorted_any met l hown.1 (by omega) g c wr hown.row.2).mono ?_
        rintro e w2 ⟨gs, cs, rfl, hgs, hrs, hb2⟩
        have hout2 := hout.below hb2
        have hbb := Below.step hb hb2
        have hsl : (sortedM met).length = l := by rw [sortedM_length, hown.1]
        have hol := hout.block
        have hnes : gs ≠ w.heap.size := by omega
        clear hown hout hb hb2
        generalize sortedM met = srt at *
        go_wp2
        go_loopw [3, 7] (fun v p wq => ∃ (j g2 c2 : Nat), j ≤ l ∧ p = .int .i64 j ∧ v = .slice (some ⟨g2, 0, none⟩) j c2 ∧ Longs wq w.heap.size g2 c2 j ((srt.map Prod.fst).take j) ∧ g2 ≠ gs ∧ MRow wq gs srt ∧ Below w.heap.size w wq) (fun _ p _ => l - (intOf p).toNat)
        case atStart => exact ⟨0, w.heap.size, 0, Nat.zero_le _, rfl, rfl, hout2, Ne.symm hnes, hrs, hbb⟩
        case round =>
          clear hout2 hbb hrs
          obtain ⟨j, g2, c2, hj, rfl, rfl, hown, hne2, hrow, hb⟩ := hrel
          have hob := hown.block
          by_cases hjl : j < l
          · obtain ⟨e0, e1⟩ := hrow.at j (by omega)
            obtain ⟨v, hv⟩ : ∃ v, (srt[j]'(by omega)).1 = v := ⟨_, rfl⟩
            rw [hv] at e0
            have HT : Hid ((srt.map Prod.fst).take (j + 1) = (srt.map Prod.fst).take j ++ [v]) := by
              show (srt.map Prod.fst).take (j + 1) = _
              rw [List.take_succ_eq_append_getElem (by simp; omega), List.getElem_map, hv]
            have hrl := hrow.lt
            clear hv e1
            go_wp2_with (at_builtin; refine wpList_append2 _ rfl (.tmp 53) (.tmp 59) 31 rfl w.heap.size 2 i1 _ 1 8 Tryz.underlying31 hj1 hy0 hy1 hy2 rfl (by decide) g2 j c2 _ rfl (hown.alloc _).2 ⟨_, 0, none⟩ 1 1 [.int .i64 v] rfl rfl (one_cell2 _ _) (one_one _) ?b3 ?b4 ?b5 ?_)
            case b3 => unfold maxLen; omega
            case b4 => omega
            case b5 => have := hb.size; simp; omega
            intro g5 c5 w5 hown5 hgrow5 hwh5
            have hO := Longs.push hown5 hown.1 rfl
            have hb5 : Below w.heap.size w w5 := (hb.alloc hb.size _).grown hgrow5 (by have := hb.size; simp; omega) (fun q hq => by cases hq; exact hob.1)
            have hR : MRow w5 gs srt := (hrow.below ((Below.refl _ wr).alloc (Nat.le_refl _) _)).kept hgrow5 (Ne.symm hne2)
            have hne5 : g5 ≠ gs := by rcases hwh5 with h | h <;> (try simp at h) <;> omega
            clear hown5 hgrow5 hwh5 hown hrow hb e0
            go_wp2
            go_roundw
            case rel => exact ⟨j + 1, g5, c5, by omega, by go_num, rfl, by rw [HT.out]; exact hO, hne5, hR, hb5⟩
            case measure => simp [intOf]; omega
          · have hje : j = l := by omega
            subst hje
            have hfin : Longs wr w.heap.size g2 c2 j (unkOf t) := by
              rw [List.take_of_length_le (by simp; omega)] at hown
              rw [HV.out]
              exact hown
            obtain ⟨hg, hr⟩ := hfin.row
            have HL : Hid ((unkOf t).length = j) := hfin.1
            clear hown hrow hfin
            go_wp2
            go_ret
            exact ⟨_, _, _, rfl, hg, HL.out, hr, hb⟩

end Go.Proofs.YthioecjcnajmgaaGreatDoor

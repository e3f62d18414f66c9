import Derived.Test.YtoiiibplkhedcaaGreatDoorWAK
set_option maxRecDepth 100000
set_option maxHeartbeats 1000000
namespace Go.Proofs.YtoiiibplkhedcaaGreatDoor
open Go.RowKit

def Qci (ps : List (Value × Value)) : List Value := ps.flatMap fun p => [p.1, p.2]
theorem Qhm (ps : List (Value × Value)) : (Qci ps).length = ps.length * 2 := by
  induction ps with
  | nil => rfl
  | cons m ms ih => simp only [Qci, List.flatMap_cons, List.length_append, List.length_cons, List.length_nil] at *; omega
theorem Qnc (a b : List (Value × Value)) : Qci (a ++ b) = Qci a ++ Qci b := by simp [Qci]
theorem Qlw (ps : List (Value × Value)) (i : Nat) (h : i < ps.length) : (Qci ps)[i * 2]? = some ps[i].1 ∧ (Qci ps)[i * 2 + 1]? = some ps[i].2 := by
  induction ps generalizing i with
  | nil => simp at h
  | cons m ms ih =>
    cases i with
    | zero => simp [Qci]
    | succ i =>
      have e1 : (i + 1) * 2 = i * 2 + 1 + 1 := by omega
      have h9 := ih i (by simpa using h)
      rw [e1]
      simpa [Qci] using h9
theorem Qug (ps : List (Value × Value)) (j : Nat) (p : Value × Value) : ((Qci ps).set (j * 2) p.1).set (j * 2 + 1) p.2 = Qci (ps.set j p) := by
  induction ps generalizing j with
  | nil => simp [Qci]
  | cons m ms ih =>
    cases j with
    | zero => simp [Qci]
    | succ j =>
      have e1 : (j + 1) * 2 = j * 2 + 1 + 1 := by omega
      have h9 := ih j
      rw [e1]
      simp only [Qci, List.flatMap_cons, List.cons_append, List.nil_append, List.set_cons_succ] at h9 ⊢
      rw [h9]
def Binds (w : World) (ao : Option Addr) (bs : List (Int × List Nd)) : Prop :=
  ∀ i (h : i < bs.length), ∃ b o ai ci, ao = some ⟨b, o, none⟩ ∧ w.cell? ⟨b, o + i * 2, none⟩ = some (.int .i64 bs[i].1) ∧ w.cell? ⟨b, o + i * 2 + 1, none⟩ = some (.slice ai bs[i].2.length ci) ∧ Nodes w ai bs[i].2
theorem Binds.below {w w' : World} {ao : Option Addr} {bs : List (Int × List Nd)} (h : Binds w ao bs) (hb : Below w.heap.size w w') : Binds w' ao bs := by
  intro i hi
  obtain ⟨b, o, ai, ci, e, h0, hc, hn⟩ := h i hi
  exact ⟨b, o, ai, ci, e, (hb.cell (p := ⟨b, o + i * 2, none⟩) (Qaa h0)).trans h0, (hb.cell (p := ⟨b, o + i * 2 + 1, none⟩) (Qaa hc)).trans hc, hn.below hb⟩
theorem Tryz.infoB : (Tryz.prog.info? 54).map (fun i => (i.zero, i.size, i.bytes)) = some (some (.agg #[.int .i64 0, .slice none 0 0]), 2, 32) := by kernel_rfl
def OwnB (w : World) (g : Nat) (ps : List (Value × Value)) : Prop := OwnT 54 w g (Qci ps)
theorem OwnB.ne {w : World} {g h : Nat} {ps : List (Value × Value)} {ds : List Value} (a : OwnB w g ps) (b : Own w h ds) : h ≠ g := by
  rintro rfl
  obtain ⟨cur, _, hg, _⟩ := a
  obtain ⟨cur', _, hg', _⟩ := b
  rw [hg] at hg'
  simp at hg'
theorem OwnB.at {w : World} {g : Nat} {ps : List (Value × Value)} (h : OwnB w g ps) (i : Nat) (hi : i < ps.length) : w.cell? ⟨g, i * 2, none⟩ = some ps[i].1 ∧ w.cell? ⟨g, i * 2 + 1, none⟩ = some ps[i].2 := by
  have hl := Qhm ps
  obtain ⟨h1, h2⟩ := Qlw ps i hi
  exact ⟨(OwnT.at h _ (by omega)).trans h1, (OwnT.at h _ (by omega)).trans h2⟩
def Qfb (ms : List (Int × Int)) : List Value := ms.flatMap fun p => [.int .i64 p.1, .int .i64 p.2]
theorem Qpg (ms : List (Int × Int)) : (Qfb ms).length = ms.length * 2 := by
  induction ms with
  | nil => rfl
  | cons m ms ih => simp only [Qfb, List.flatMap_cons, List.length_append, List.length_cons, List.length_nil] at *; omega
theorem Qph (a b : List (Int × Int)) : Qfb (a ++ b) = Qfb a ++ Qfb b := by simp [Qfb]
theorem Qxn (ms : List (Int × Int)) (i : Nat) (h : i < ms.length) : (Qfb ms)[i * 2]? = some (.int .i64 ms[i].1) ∧ (Qfb ms)[i * 2 + 1]? = some (.int .i64 ms[i].2) := by
  induction ms generalizing i with
  | nil => simp at h
  | cons m ms ih =>
    cases i with
    | zero => simp [Qfb]
    | succ i =>
      have e1 : (i + 1) * 2 = i * 2 + 1 + 1 := by omega
      have h9 := ih i (by simpa using h)
      rw [e1]
      simpa [Qfb] using h9
def MRow (w : World) (g : Nat) (ms : List (Int × Int)) : Prop := OwnT 134 w g (Qfb ms)
theorem MRow.at {w : World} {g : Nat} {ms : List (Int × Int)} (h : MRow w g ms) (i : Nat) (hi : i < ms.length) : w.cell? ⟨g, i * 2, none⟩ = some (.int .i64 ms[i].1) ∧ w.cell? ⟨g, i * 2 + 1, none⟩ = some (.int .i64 ms[i].2) := by
  have hl := Qpg ms
  obtain ⟨h1, h2⟩ := Qxn ms i hi
  exact ⟨(OwnT.at h _ (by omega)).trans h1, (OwnT.at h _ (by omega)).trans h2⟩
theorem MRow.below {w w' : World} {g : Nat} {ms : List (Int × Int)} (h : MRow w g ms) (hb : Below w.heap.size w w') : MRow w' g ms := OwnT.below h hb
theorem MRow.lt {w : World} {g : Nat} {ms : List (Int × Int)} (h : MRow w g ms) : g < w.heap.size := OwnT.lt h
theorem MRow.kept {w w' : World} {g k : Nat} {ms : List (Int × Int)} (h : MRow w g ms) (hg : w.grownBy w' (some k)) (hne : g ≠ k) : MRow w' g ms := by
  obtain ⟨cur, rest, hh, hc⟩ := h
  exact ⟨cur, rest, (hg.block g (Array.getElem?_eq_some_iff.1 hh).1 (by simpa using hne)).trans hh, hc⟩
def Qcm (ms : List (Int × Int)) (x : Int) : Int := if placeIn (ms.map Prod.fst) x < ms.length then (placeIn (ms.map Prod.fst) x : Int) else -1
theorem Qww (ms : List (Int × Int)) (n : Nat) (HM : Hid (ms.length = n)) (hn : n ≤ 1048576) (x : Int) (g cap : Nat) (w : World) (hr : MRow w g ms) :
    Calls Tryz.prog 68 #[.slice (some ⟨g, 0, none⟩) n cap, .int .i64 x] w fun e w' => e = .returned (.int .i64 (Qcm ms x)) ∧ Below w.heap.size w w' := by
  go_enter Tryz.func68, Tryz.ntmps68
  go_wp2
  go_loopw [5] (fun i wr => ∃ (k : Nat), k ≤ n ∧ i = .int .i64 k ∧ (∀ i (h : i < (ms.map Prod.fst).length), i < k → (ms.map Prod.fst)[i] ≠ x) ∧ Below w.heap.size w wr) (fun i _ => n - (intOf i).toNat)
  case atStart => exact ⟨0, Nat.zero_le _, rfl, fun i _ h => absurd h (by omega), Below.refl _ _⟩
  case round =>
    obtain ⟨k, hk, rfl, hall, hb⟩ := hrel
    by_cases hlt : k < n
    · have hltx : k < ms.length := by have := HM.out; omega
      have hltm : k < (ms.map Prod.fst).length := by simp; exact hltx
      have hrow := hr.below hb
      obtain ⟨c0, _⟩ := hrow.at k hltx
      have hlb := hrow.lt
      by_cases he : ms[k].1 = x
      · have HV : Hid (Qcm ms x = (k : Int)) := by
          have h9 := Qew (x := x) hltm (by simpa using he) hall
          show Qcm ms x = _
          unfold Qcm
          rw [h9, if_pos hltx]
        rw [he] at c0
        have te : ((x : Int) == x) = true := by simp
        clear hall hr hrow he
        go_wp2
        go_ret
        exact ⟨by rw [HV.out]; rfl, hb⟩
      · have te : (ms[k].1 == x) = false := by simpa using he
        have HA : Hid (∀ i (h : i < (ms.map Prod.fst).length), i < k + 1 → (ms.map Prod.fst)[i] ≠ x) := by
          intro i h hi
          by_cases e : i = k
          · subst e; simpa using he
          · exact hall i h (by omega)
        obtain ⟨v, hv⟩ : ∃ v, ms[k].1 = v := ⟨_, rfl⟩
        rw [hv] at c0 te
        clear hall hr hrow he hv
        go_wp2
        go_roundw
        case rel => exact ⟨k + 1, by omega, by go_num, HA.out, hb⟩
        case measure => simp [intOf]; omega
    · have HV : Hid (Qcm ms x = -1) := by
        have h9 := Qdy (met := ms.map Prod.fst) (x := x) (fun i h => hall i h (by have := HM.out; simp at h; omega))
        show Qcm ms x = _
        unfold Qcm
        rw [h9, if_neg (by simp)]
      clear hall hr
      go_wp2
      go_ret
      exact ⟨by rw [HV.out]; rfl, hb⟩
def OwnM (w : World) (B g c l : Nat) (ms : List (Int × Int)) : Prop := ms.length = l ∧ w.ownsRow B 134 2 (.slice (some ⟨g, 0, none⟩) l c) l (Qfb ms)
theorem Tryz.infoM : (Tryz.prog.info? 134).map (fun i => (i.zero, i.size, i.bytes)) = some (some (.agg #[.int .i64 0, .int .i64 0]), 2, 16) := by kernel_rfl
theorem OwnM.row {w : World} {B g c l : Nat} {ms : List (Int × Int)} (h : OwnM w B g c l ms) : B ≤ g ∧ MRow w g ms := by
  obtain ⟨hl, ho⟩ := h
  rcases ho.2 with ⟨h', _⟩ | ⟨g2, cap2, cur, he, hb, hh, _, _, _, htake⟩
  · cases h'
  · simp only [Value.slice.injEq, Option.some.injEq, Addr.mk.injEq, and_true, true_and] at he
    obtain ⟨rfl, rfl⟩ := he
    exact ⟨hb, cur, cur.toList.drop (l * 2), hh, by rw [← htake, List.take_append_drop]⟩
theorem OwnM.empty {w : World} {B : Nat} (hB : B ≤ w.heap.size) : OwnM (w.alloc (.cells #[] 134)) B w.heap.size 0 0 [] :=
  ⟨rfl, rfl, Or.inr ⟨_, 0, #[], rfl, hB, heap_alloc_new _ _, Nat.le_refl _, by simp [maxLen], rfl, rfl⟩⟩
theorem OwnM.alloc {w : World} {B g c l : Nat} {ms : List (Int × Int)} (h : OwnM w B g c l ms) (o : Obj) : OwnM (w.alloc o) B g c l ms := ⟨h.1, h.2.alloc o⟩
theorem OwnM.but {S : Nat → Prop} {w w' : World} {B g c l : Nat} {ms : List (Int × Int)} (h : OwnM w B g c l ms) (hb : But S w w') (hn : ¬ S g) : OwnM w' B g c l ms := ⟨h.1, Qah h.2 hb hn⟩
theorem OwnM.below {w w' : World} {B g c l : Nat} {ms : List (Int × Int)} (h : OwnM w B g c l ms) (hb : Below w.heap.size w w') : OwnM w' B g c l ms := h.but (S := fun _ => False) (But.ofBelow hb) (fun h => h)
theorem OwnM.push {w : World} {B g c l m : Nat} {ms : List (Int × Int)} {x : Int × Int} (h : w.ownsRow B 134 2 (.slice (some ⟨g, 0, none⟩) m c) m (Qfb ms ++ [.int .i64 x.1, .int .i64 x.2])) (hl : ms.length = l) (hm : m = l + 1) : OwnM w B g c (l + 1) (ms ++ [x]) := by
  subst hm
  refine ⟨by simp [hl], ?_⟩
  rw [Qph]
  exact h
theorem Qnk (w : World) (a b : Int) : ∀ j u, [Value.int .i64 a, .int .i64 b][j]? = some u → (w.alloc (.cells #[.int .i64 a, .int .i64 b] 134)).cell? (Addr.add ⟨w.heap.size, 0, none⟩ j) = some u := by
  intro j u hj
  have ad : Addr.add ⟨w.heap.size, 0, none⟩ j = ⟨w.heap.size, j, none⟩ := by
    unfold Addr.add
    split
    · simp_all
    · simp
  rw [ad, cell_of_row _ w.heap.size j _ 134 (0, 0) (heap_alloc_new _ _), ← hj]
  simp
theorem Quv (a b : Int) : ∀ u ∈ [Value.int .i64 a, .int .i64 b], u.oneCell' = true := by
  intro u hu
  simp at hu
  rcases hu with rfl | rfl <;> rfl
theorem Qcv {w : World} {B e size g c n i : Nat} {xs : List Value} {v : Value} (h : w.ownsRow B e size (.slice (some ⟨g, 0, none⟩) n c) n xs) : (w.setCell ⟨g, i, none⟩ v).ownsRow B e size (.slice (some ⟨g, 0, none⟩) n c) n (xs.set i v) := by
  obtain ⟨hl, ho⟩ := h
  refine ⟨by simp [hl], Or.inr ?_⟩
  rcases ho with ⟨h', _⟩ | ⟨g2, cap2, cur, he, hb, hh, h1, h2, h3, htake⟩
  · cases h'
  · simp only [Value.slice.injEq, Option.some.injEq, Addr.mk.injEq, and_true, true_and] at he
    obtain ⟨rfl, rfl⟩ := he
    exact ⟨_, _, _, rfl, hb, heap_setCell_same _ g i _ e _ hh, h1, h2, by simp [h3], by rw [Array.toList_setIfInBounds, List.take_set, htake]⟩
theorem Qxm (ms : List (Int × Int)) (j : Nat) (p : Int × Int) : ((Qfb ms).set (j * 2) (.int .i64 p.1)).set (j * 2 + 1) (.int .i64 p.2) = Qfb (ms.set j p) := by
  induction ms generalizing j with
  | nil => simp [Qfb]
  | cons m ms ih =>
    cases j with
    | zero => simp [Qfb]
    | succ j =>
      have e1 : (j + 1) * 2 = j * 2 + 1 + 1 := by omega
      have h9 := ih j
      rw [e1]
      simp only [Qfb, List.flatMap_cons, List.cons_append, List.nil_append, List.set_cons_succ] at h9 ⊢
      rw [h9]
theorem OwnM.put {w : World} {B g c l : Nat} {ms : List (Int × Int)} (h : OwnM w B g c l ms) (j : Nat) (a b : Int) : OwnM ((w.setCell ⟨g, j * 2, none⟩ (.int .i64 a)).setCell ⟨g, j * 2 + 1, none⟩ (.int .i64 b)) B g c l (ms.set j (a, b)) := by
  refine ⟨by simp [h.1], ?_⟩
  have h9 := Qcv (v := .int .i64 b) (Qcv (v := .int .i64 a) h.2 (i := j * 2)) (i := j * 2 + 1)
  rw [Qxm ms j (a, b)] at h9
  exact h9
def insR (x : Int × Int) : List (Int × Int) → List (Int × Int)
  | [] => [x]
  | y :: ys => if x.1 < y.1 then y :: insR x ys else x :: y :: ys
def insM (out : List (Int × Int)) (x : Int × Int) : List (Int × Int) := (insR x out.reverse).reverse
def Qax (ms : List (Int × Int)) : List (Int × Int) := ms.foldl insM []
theorem Qrg (x : Int × Int) (l : List (Int × Int)) : (insR x l).length = l.length + 1 := by
  induction l with
  | nil => rfl
  | cons y ys ih => unfold insR; split <;> simp [ih]
theorem Qrh (out : List (Int × Int)) (x : Int × Int) : (insM out x).length = out.length + 1 := by simp [insM, Qrg]
theorem Qnu (ms : List (Int × Int)) (k : Nat) (h : k < ms.length) : Qax (ms.take (k + 1)) = insM (Qax (ms.take k)) ms[k] := by
  unfold Qax
  rw [List.take_succ_eq_append_getElem h, List.foldl_append]
  rfl
theorem Qkr (ms : List (Int × Int)) : (Qax ms).length = ms.length := by
  have : ∀ out, (ms.foldl insM out).length = out.length + ms.length := by
    induction ms with
    | nil => simp
    | cons m ms ih => intro out; rw [List.foldl_cons, ih, Qrh]; simp; omega
  have h9 := this []
  unfold Qax
  simpa using h9
theorem Qxa (A : List (Int × Int)) (y x : Int × Int) (B : List (Int × Int)) (h : x.1 < y.1) : (insR x (A ++ [y]).reverse).reverse ++ B = (insR x A.reverse).reverse ++ (y :: B) := by
  rw [List.reverse_append]
  simp only [List.reverse_cons, List.reverse_nil, List.nil_append, List.cons_append]
  rw [insR, if_pos h]
  simp
theorem Qwz (A : List (Int × Int)) (x : Int × Int) (h : ∀ y, A.getLast? = some y → ¬ x.1 < y.1) : (insR x A.reverse).reverse = A ++ [x] := by
  rcases List.eq_nil_or_concat A with rfl | ⟨A', y, rfl⟩
  · rfl
  · rw [List.concat_eq_append, List.reverse_append]
    simp only [List.reverse_cons, List.reverse_nil, List.nil_append, List.cons_append]
    rw [insR, if_neg (h y (by simp))]
    simp
theorem Qvc (A B : List (Int × Int)) (x y : Int × Int) : (((A ++ [y]) ++ x :: B).set (A.length + 1) y).set A.length x = A ++ x :: (y :: B) := by
  induction A with
  | nil => rfl
  | cons a A ih => simp
theorem Qlj (ms : List (Int × Int)) (n : Nat) (HM : Hid (ms.length = n)) (hn : n ≤ 1048576) (g0 cap : Nat) (w : World) (hr : MRow w g0 ms) :
    Calls Tryz.prog 72 #[.slice (some ⟨g0, 0, none⟩) n cap] w fun e w' => ∃ g c, e = .returned (.slice (some ⟨g, 0, none⟩) n c) ∧ w.heap.size ≤ g ∧ MRow w' g (Qax ms) ∧ Below w.heap.size w w' := by
  obtain ⟨i0, hi, hz0, hz1, hz2⟩ := info_parts Tryz.infoM
  go_enter Tryz.func72, Tryz.ntmps72
  go_wp2
  go_loopw [3, 4] (fun v p wr => ∃ (k g c : Nat), k ≤ n ∧ p = .int .i64 k ∧ v = .slice (some ⟨g, 0, none⟩) k c ∧ OwnM wr w.heap.size g c k (Qax (ms.take k)) ∧ Below w.heap.size w wr) (fun _ p _ => n - (intOf p).toNat)
  case atStart => exact ⟨0, w.heap.size, 0, Nat.zero_le _, rfl, rfl, OwnM.empty (Nat.le_refl _), (Below.refl _ w).alloc (Nat.le_refl _) _⟩
  case round =>
    obtain ⟨k, g, c, hk, rfl, rfl, hown, hb⟩ := hrel
    by_cases hlt : k < n
    · have hltx : k < ms.length := by have := HM.out; omega
      have hrow := hr.below hb
      obtain ⟨c0, c1⟩ := hrow.at k hltx
      obtain ⟨⟨xa, xb⟩, hx⟩ : ∃ x, ms[k] = x := ⟨_, rfl⟩
      rw [hx] at c0 c1
      simp only at c0 c1
      have hlb := hrow.lt
      have hob := Qad hown.2
      have HS : Hid (Qax (ms.take (k + 1)) = insM (Qax (ms.take k)) (xa, xb)) := by
        show Qax (ms.take (k + 1)) = _
        rw [Qnu ms k hltx, hx]
      clear hr hrow hx
      have hl9 := hown.1
      go_wp2_with (at_builtin; refine Qac _ rfl (.tmp 14) (.tmp 19) 79 rfl w.heap.size 134 i0 _ 2 16 Tryz.underlying79 hi hz0 hz1 hz2 rfl (by decide) g k c _ rfl (hown.alloc _).2 ⟨_, 0, none⟩ 1 1 [.int .i64 xa, .int .i64 xb] rfl rfl (Qnk _ xa xb) (Quv _ _) ?a3 ?a4 ?a5 ?_)
      case a3 => unfold maxLen; omega
      case a4 => omega
      case a5 => have := hb.size; simp; omega
      intro g2 c2 w2 hown2 hgrow2 hwh
      have hO := OwnM.push (x := (xa, xb)) hown2 hown.1 rfl
      have hbb : Below w.heap.size w w2 := (hb.alloc hb.size _).grown hgrow2 (by have := hb.size; simp; omega) (fun q hq => by cases hq; exact hob.1)
      generalize Qax (ms.take k) = out at *
      clear hown2 hgrow2 hwh hown hb c0 c1 hob hlb
      go_wp2
      go_loopw [5] (fun q wq => ∃ (j : Nat) (A B : List (Int × Int)), q = .int .i64 j ∧ A.length = j ∧ j ≤ k ∧ OwnM wq w.heap.size g2 c2 (k + 1) (A ++ (xa, xb) :: B) ∧ (insR (xa, xb) A.reverse).reverse ++ B = insM out (xa, xb) ∧ Below w.heap.size w wq) (fun q _ => (intOf q).toNat)
      case atStart => exact ⟨k, out, [], by go_num, hl9, Nat.le_refl _, hO, by simp [insM], hbb⟩
      case round =>
        clear hO hbb hl9
        obtain ⟨j, A, B, rfl, hA, hjk, hown, hins, hb⟩ := hrel
        have hrow := hown.row.2
        have hob := Qad hown.2
        have hln : A.length + (B.length + 1) = k + 1 := by have h9 := hown.1; simpa using h9
        obtain ⟨d0, d1⟩ := hrow.at j (by simp; omega)
        have hxe : (A ++ (xa, xb) :: B)[j]'(by simp; omega) = (xa, xb) := by simp [← hA]
        rw [hxe] at d0 d1
        simp only at d0 d1
        have hfin : OwnM wr w.heap.size g2 c2 (k + 1) (A ++ (xa, xb) :: B) := hown
        by_cases hj0 : 0 < j
        · obtain ⟨A', y, rfl⟩ : ∃ A' y, A = A' ++ [y] := by
            rcases List.eq_nil_or_concat A with rfl | ⟨A', y, rfl⟩
            · simp at hA; omega
            · exact ⟨A', y, by simp⟩
          obtain ⟨ya, yb⟩ := y
          have hA' : A'.length = j - 1 := by simp at hA; omega
          obtain ⟨e0, e1⟩ := hrow.at (j - 1) (by simp; omega)
          have hye : ((A' ++ [(ya, yb)]) ++ (xa, xb) :: B)[j - 1]'(by simp; omega) = (ya, yb) := by
            simp [← hA']
          rw [hye] at e0 e1
          simp only at e0 e1
          by_cases hxy : xa < ya
          · have hst := Qxa A' (ya, yb) (xa, xb) B hxy
            rw [hins] at hst
            have tlt : decide (xa < ya) = true := decide_eq_true hxy
            clear hins hrow hfin hxe hye
            go_wp2_with fail
            go_quiet (fail)
            have hdr := Qan wr nq
            have d0' := (hdr.cell (p := ⟨g2, j * 2, none⟩) hob.2).trans d0
            have d1' := (hdr.cell (p := ⟨g2, j * 2 + 1, none⟩) hob.2).trans d1
            have e0' := (hdr.cell (p := ⟨g2, (j - 1) * 2, none⟩) hob.2).trans e0
            have e1' := (hdr.cell (p := ⟨g2, (j - 1) * 2 + 1, none⟩) hob.2).trans e1
            have hown' := hown.below hdr
            have hb' := Below.step hb hdr
            have hob' := Qad hown'.2
            clear hdr d0 d1 e0 e1 hown hb hob
            generalize wr.drewN nq = W2 at *
            have f0 := OwnT.frozen hown'.row.2 (j * 2)
            have f1 := OwnT.frozen hown'.row.2 (j * 2 + 1)
            have f2 := OwnT.frozen hown'.row.2 ((j - 1) * 2)
            have f3 := OwnT.frozen hown'.row.2 ((j - 1) * 2 + 1)
            have HO : Hid (OwnM (((((W2.setCell ⟨g2, j * 2, none⟩ (.int .i64 ya)).setCell ⟨g2, j * 2 + 1, none⟩ (.int .i64 yb)).setCell ⟨g2, (j - 1) * 2, none⟩ (.int .i64 xa)).setCell ⟨g2, (j - 1) * 2 + 1, none⟩ (.int .i64 xb)).alloc (.cells #[.int .i64 xa, .int .i64 xb] 134)) w.heap.size g2 c2 (k + 1) (A' ++ (xa, xb) :: ((ya, yb) :: B))) := by
              have h9 := ((hown'.put j ya yb).put (j - 1) xa xb).alloc (.cells #[.int .i64 xa, .int .i64 xb] 134)
              have e9 : (((A' ++ [(ya, yb)]) ++ (xa, xb) :: B).set j (ya, yb)).set (j - 1) (xa, xb) = A' ++ (xa, xb) :: ((ya, yb) :: B) := by
                have ej : j = A'.length + 1 := by omega
                rw [ej]
                exact Qvc A' B (xa, xb) (ya, yb)
              rw [e9] at h9
              exact h9
            have HB : Hid (Below w.heap.size w (((((W2.setCell ⟨g2, j * 2, none⟩ (.int .i64 ya)).setCell ⟨g2, j * 2 + 1, none⟩ (.int .i64 yb)).setCell ⟨g2, (j - 1) * 2, none⟩ (.int .i64 xa)).setCell ⟨g2, (j - 1) * 2 + 1, none⟩ (.int .i64 xb)).alloc (.cells #[.int .i64 xa, .int .i64 xb] 134))) := by
              have b4 : But (· = g2) W2 ((((W2.setCell ⟨g2, j * 2, none⟩ (.int .i64 ya)).setCell ⟨g2, j * 2 + 1, none⟩ (.int .i64 yb)).setCell ⟨g2, (j - 1) * 2, none⟩ (.int .i64 xa)).setCell ⟨g2, (j - 1) * 2 + 1, none⟩ (.int .i64 xb)) := ((((But.refl (· = g2) W2).setCell (p := ⟨g2, j * 2, none⟩) rfl _).setCell (p := ⟨g2, j * 2 + 1, none⟩) rfl _).setCell (p := ⟨g2, (j - 1) * 2, none⟩) rfl _).setCell (p := ⟨g2, (j - 1) * 2 + 1, none⟩) rfl _
              have h9 := hb'.trans (b4.below hb'.size (fun q hq => by omega))
              exact h9.alloc h9.size _
            have HI : Hid ((insR (xa, xb) A'.reverse).reverse ++ ((ya, yb) :: B) = insM out (xa, xb)) := hst.symm
            clear hst
            go_wp2
            go_roundw
            case rel => exact ⟨j - 1, A', (ya, yb) :: B, by go_num, hA', by omega, HO.out, HI.out, HB.out⟩
            case measure => simp [intOf]; omega
          · have tlt : decide (xa < ya) = false := decide_eq_false hxy
            have HE : Hid (A' ++ [(ya, yb)] ++ (xa, xb) :: B = insM out (xa, xb)) := by
              show A' ++ [(ya, yb)] ++ (xa, xb) :: B = _
              rw [← hins, Qwz (A' ++ [(ya, yb)]) (xa, xb) (by intro y hy; simp at hy; subst hy; exact hxy)]
              simp
            clear hins hrow hxe hye hown
            go_wp2_with fail
            go_quiet (fail)
            have hdr := Qan wr nq
            have hfin' := hfin.below hdr
            have hb' := Below.step hb hdr
            rw [HE.out, ← HS.out] at hfin'
            clear hdr d0 d1 e0 e1 hfin hb
            generalize wr.drewN nq = W2 at *
            go_wp2
            go_roundw
            case rel => exact ⟨k + 1, g2, c2, by omega, by go_num, rfl, hfin', hb'⟩
            case measure => simp [intOf]; omega
        · have hA0 : A = [] := List.eq_nil_of_length_eq_zero (by omega)
          subst hA0
          have HE : Hid ([] ++ (xa, xb) :: B = insM out (xa, xb)) := by
            show [] ++ (xa, xb) :: B = _
            rw [← hins]
            rfl
          have tj : decide ((j : Int) > 0) = false := decide_eq_false (by omega)
          clear hins hrow hxe hown
          go_wp2_with fail
          go_quiet (fail)
          have hdr := Qan wr nq
          have hfin' := hfin.below hdr
          have hb' := Below.step hb hdr
          rw [HE.out, ← HS.out] at hfin'
          clear hdr d0 d1 hfin hb
          generalize wr.drewN nq = W2 at *
          go_wp2
          go_roundw
          case rel => exact ⟨k + 1, g2, c2, by omega, by go_num, rfl, hfin', hb'⟩
          case measure => simp [intOf]; omega
    · have hke : k = n := by omega
      subst hke
      rw [List.take_of_length_le (by have := HM.out; omega)] at hown
      obtain ⟨hg, hrw⟩ := hown.row
      clear hr hown
      go_wp2
      go_ret
      exact ⟨_, _, rfl, hg, hrw, hb⟩
end Go.Proofs.YtoiiibplkhedcaaGreatDoor

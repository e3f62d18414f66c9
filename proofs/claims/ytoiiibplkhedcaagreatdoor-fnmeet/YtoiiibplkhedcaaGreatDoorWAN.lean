import Derived.Test.YtoiiibplkhedcaaGreatDoorWAM
import Derived.Deep.Cut
set_option maxHeartbeats 2000000
namespace Go.Proofs.YtoiiibplkhedcaaGreatDoor
open Go.RowKit
theorem Qnq (xs ys : List Nd) (n m : Nat) (HX : Hid (xs.length = n)) (HY : Hid (ys.length = m)) (ao bo : Option Addr) (cap cbp : Nat) (w : World) (hx : Nodes w ao xs) (hy : Nodes w bo ys) (hlx : n ≤ 140737488355328) (hly : m ≤ 140737488355328) :
    Calls Tryz.prog 56 #[.slice ao n cap, .slice bo m cbp] w fun e w' =>
      (∃ r : Bool, e = .returned (.bool r) ∧ (r = true ↔ Qyq Nd.sameb xs ys)) ∧ Below w.heap.size w w' := by
  by_cases hl : n = m
  · subst hl
    go_enter Tryz.func56, Tryz.ntmps56
    go_wp2
    go_loopw [5] (fun i wr => ∃ (k : Nat), k ≤ n ∧ i = .int .i64 k ∧ (∀ i (h : i < xs.length) (h' : i < ys.length), i < k → xs[i].sameb ys[i] = true) ∧ Below w.heap.size w wr) (fun i _ => n - (intOf i).toNat)
    case atStart => exact ⟨0, Nat.zero_le _, rfl, fun i _ _ h => absurd h (by omega), Below.refl _ _⟩
    case round =>
      obtain ⟨k, hk, rfl, hall, hb⟩ := hrel
      by_cases hlt : k < n
      · have hltx : k < xs.length := by have := HX.out; omega
        have hlty : k < ys.length := by have := HY.out; omega
        obtain ⟨x, hxk⟩ : ∃ x, xs[k] = x := ⟨_, rfl⟩
        obtain ⟨y, hyk⟩ : ∃ y, ys[k] = y := ⟨_, rfl⟩
        obtain ⟨b, o, rfl, hcx⟩ := hx.below hb k hltx
        obtain ⟨b', o', rfl, hcy⟩ := hy.below hb k hlty
        rw [hxk] at hcx
        rw [hyk] at hcy
        obtain ⟨c0, c1, c2, c3, c4⟩ := hcx
        obtain ⟨e0, e1, e2, e3, e4⟩ := hcy
        have hlb : b < wr.heap.size := Qaa c0
        have hlb' : b' < wr.heap.size := Qaa e0
        clear hx hy
        have hne := neqN x y
        cases hq : x.sameb y
        · rw [hq] at hne
          have HA : Hid (∀ i (h : i < xs.length) (h' : i < ys.length), i < k → xs[i].sameb ys[i] = true) := hall
          have HXK : Hid (xs[k] = x) := hxk
          have HYK : Hid (ys[k] = y) := hyk
          clear hall hxk hyk
          go_wp2_with fail
          go_region_with (first | (go_at_call_of 91 (x.text); refine (Qjf x _).mono ?_; rintro e w1 ⟨rfl, hb1⟩; first | have hc1 := Qgh hb1 | skip) | (go_at_call_of 91 (y.text); refine (Qjf y _).mono ?_; rintro e w2 ⟨rfl, hb2⟩; first | have hc1 := Qgh hb2 | skip))
          all_goals
            first | have hbb := Below.step (Below.step hb (undrew hb1)) hb2 | have hbb := Below.step (Below.step hb (undrew hb2)) hb1
            clear hb hb1 hb2 hc1 c0 c1 c2 c3 c4 e0 e1 e2 e3 e4 hne
            go_wp2
            go_ret
            exact ⟨⟨false, rfl, by simp only [Bool.false_eq_true, false_iff]; intro ha; have := ha.2 k hltx hlty; rw [HXK.out, HYK.out, hq] at this; cases this⟩, hbb⟩
        · rw [hq] at hne
          have HA : Hid (∀ i (h : i < xs.length) (h' : i < ys.length), i < k + 1 → xs[i].sameb ys[i] = true) := by
            intro i h h' hi
            by_cases e : i = k
            · subst e; rw [hxk, hyk]; exact hq
            · exact hall i h h' (by omega)
          have HXK : Hid (xs[k] = x) := hxk
          have HYK : Hid (ys[k] = y) := hyk
          clear hall hxk hyk
          go_wp2_with fail
          go_region_with (first | (go_at_call_of 91 (x.text); refine (Qjf x _).mono ?_; rintro e w1 ⟨rfl, hb1⟩; first | have hc1 := Qgh hb1 | skip) | (go_at_call_of 91 (y.text); refine (Qjf y _).mono ?_; rintro e w2 ⟨rfl, hb2⟩; first | have hc1 := Qgh hb2 | skip))
          all_goals
            first | have hbb := Below.step (Below.step hb (undrew hb1)) hb2 | have hbb := Below.step (Below.step hb (undrew hb2)) hb1
            clear hb hb1 hb2 hc1 c0 c1 c2 c3 c4 e0 e1 e2 e3 e4 hne
            go_wp2
            go_roundw
            case rel => exact ⟨k + 1, by omega, by go_num, HA.out, hbb⟩
            case measure => simp [intOf]; omega
      · have HA : Hid (Qyq Nd.sameb xs ys) := ⟨HX.out.trans HY.out.symm, fun i h h' => hall i h h' (by have := HX.out; omega)⟩
        clear hall hx hy
        go_wp2
        go_ret
        exact ⟨⟨true, rfl, by simp only [true_iff]; exact HA.out⟩, hb⟩
  · have hne : ((n : Int) != (m : Int)) = true := by simp; omega
    clear hx hy
    go_enter Tryz.func56, Tryz.ntmps56
    go_wp2
    go_ret
    exact ⟨⟨false, rfl, by simp only [Bool.false_eq_true, false_iff]; intro ha; exact hl (HX.out.symm.trans (ha.1.trans HY.out))⟩, Below.refl _ _⟩
structure Bst (w : World) (B q c l : Nat) (rs : List (Nat × Nat)) (bs : List (Int × List Nd)) : Prop where
  own : OwnBs w B q c l (Qcr rs bs)
  two : TwoR w q rs bs
  far : ∀ r ∈ rs, B ≤ r.1
theorem Bst.len {w : World} {B q c l : Nat} {rs : List (Nat × Nat)} {bs : List (Int × List Nd)} (h : Bst w B q c l rs bs) : bs.length = l := by
  have := h.own.1
  rw [Qiq _ _ h.two.len] at this
  exact this
theorem Bst.below {w w' : World} {B q c l : Nat} {rs : List (Nat × Nat)} {bs : List (Int × List Nd)} (h : Bst w B q c l rs bs) (hb : Below w.heap.size w w') : Bst w' B q c l rs bs :=
  ⟨h.own.below hb, h.two.below hb, h.far⟩
theorem Bst.block {w : World} {B q c l : Nat} {rs : List (Nat × Nat)} {bs : List (Int × List Nd)} (h : Bst w B q c l rs bs) : B ≤ q ∧ q < w.heap.size := Qad h.own.2
def PB (bs : List (Int × List Nd)) : Prop := ∀ p ∈ bs, p.2.length ≤ 300 ∧ p.2.all Nd.plainb = true
def MRes (B q : Nat) (w : World) (bs : List (Int × List Nd)) (G T : List Nd) (v : Value) (b : Bool) (w' : World) : Prop :=
  But (· = q) w w' ∧ (b = true → ∃ q' c' l' rs' bs', v = .slice (some ⟨q', 0, none⟩) l' c' ∧ Bst w' B q' c' l' rs' bs' ∧ MatchOk bs G T bs' ∧ PB bs' ∧ (q' = q ∨ w.heap.size ≤ q')) ∧ (b = false → MatchNo bs G T)
structure Side (t : List Nd) (m : Nat) (S ys : List Sp) : Prop where
  len : t.length = m
  m300 : m ≤ 300
  run : Qag t m = some (S, ys)
  plain : t.all Nd.plainb = true
theorem Qgp {n : Nd} (h : n.plainb = true) : n.place = 0 := by
  unfold Nd.plainb at h
  simp only [Bool.and_eq_true, beq_iff_eq] at h
  exact h.1
theorem Jax {xs ys : List Nd} (h : Qyq Nd.sameb xs ys) (hx : xs.all Nd.plainb = true) (hy : ys.all Nd.plainb = true) : xs = ys := by
  apply List.ext_getElem h.1
  intro i h1 h2
  have h3 := h.2 i h1 h2
  have p1 := Qgp (List.all_eq_true.1 hx _ (List.getElem_mem h1))
  have p2 := Qgp (List.all_eq_true.1 hy _ (List.getElem_mem h2))
  generalize xs[i] = x at *
  generalize ys[i] = y at *
  obtain ⟨a1, a2, a3, a4, a5⟩ := x
  obtain ⟨b1, b2, b3, b4, b5⟩ := y
  simp only [Nd.sameb, Bool.and_eq_true, beq_iff_eq] at h3 p1 p2
  obtain ⟨⟨⟨e1, e2⟩, e3⟩, e4⟩ := h3
  have e5 : a3 = b3 := by
    rw [ByteArray.toList_eq, ByteArray.toList_eq] at e3
    cases a3; cases b3
    simp only [ByteArray.mk.injEq]
    exact Array.toList_inj.1 e3
  subst e1 e2 e4 e5 p1 p2
  rfl
theorem Quk {xs : List Nd} : Qyq Nd.sameb xs xs := ⟨rfl, fun _ _ _ => by simp [Nd.sameb]⟩
theorem Qvz {t : List Nd} (h : t.all Nd.plainb = true) (f i : Nat) : (span t f i).all Nd.plainb = true := by
  rw [List.all_eq_true] at h ⊢
  intro n hn
  exact h n (List.mem_of_mem_take (List.mem_of_mem_drop hn))
theorem Bst.snoc {w2 w3 : World} {B q c l q3 c3 g1 k1 lt : Nat} {rs : List (Nat × Nat)} {bs : List (Int × List Nd)} {nm : Int} {T : List Nd} (h : Bst w2 B q c l rs bs) (hrow : Row w2 g1 T) (hlt : T.length = lt) (hg1 : B ≤ g1) (hne : g1 ≠ q) (hfr : ∀ r ∈ rs, r.1 ≠ g1)
    (hown : w3.ownsRow B 54 2 (.slice (some ⟨q3, 0, none⟩) (l + 1) c3) (l + 1) (Qci (Qcr rs bs) ++ [.int .i64 nm, .slice (some ⟨g1, 0, none⟩) lt k1])) (hgrow : (w2.alloc (.cells #[.int .i64 nm, .slice (some ⟨g1, 0, none⟩) lt k1] 54)).grownBy w3 (some q)) :
    Bst w3 B q3 c3 (l + 1) (rs ++ [(g1, k1)]) (bs ++ [(nm, T)]) := by
  have hO := OwnBs.push (x := (.int .i64 nm, .slice (some ⟨g1, 0, none⟩) lt k1)) hown h.own.1 rfl
  have hal : Below w2.heap.size w2 (w2.alloc (.cells #[.int .i64 nm, .slice (some ⟨g1, 0, none⟩) lt k1] 54)) := (Below.refl _ w2).alloc (Nat.le_refl _) _
  refine ⟨?_, ?_, ?_⟩
  · have e : Qcr (rs ++ [(g1, k1)]) (bs ++ [(nm, T)]) = Qcr rs bs ++ [(.int .i64 nm, .slice (some ⟨g1, 0, none⟩) lt k1)] := by
      unfold Qcr
      rw [List.zipWith_append h.two.len, ← hlt]
      rfl
    rw [e]
    exact hO
  · refine TwoR.snoc h.two (by rw [hlt]; exact hO.row.2) ?_ ((hrow.below hal).kept hgrow hne) hfr
    intro i h1 h2
    exact ((h.two.rows i h1 h2).below hal).kept hgrow (h.two.mem_lt _ (List.getElem_mem h1)).2
  · intro r hr
    rcases List.mem_append.1 hr with h9 | h9
    · exact h.far r h9
    · simp at h9
      subst h9
      exact hg1
theorem neqF (x y : Nd) (w : World) :
    (binOp .neq 43 (.agg #[.int .i64 x.kind, .int .i64 x.num, .string x.text, .int .i64 x.kids, .int .i64 x.place]) (.agg #[.int .i64 y.kind, .int .i64 y.num, .string y.text, .int .i64 y.kids, .int .i64 y.place])).run Tryz.prog w =
      .ok (.bool (!(x.eqb y))) w := by
  unfold Nd.eqb
  go_simp
  repeat' split
  all_goals simp_all
theorem Jdj {x y : Nd} (h : x.eqb y = true) : x = y := by
  obtain ⟨a1, a2, a3, a4, a5⟩ := x
  obtain ⟨b1, b2, b3, b4, b5⟩ := y
  simp only [Nd.eqb, Bool.and_eq_true, beq_iff_eq] at h
  obtain ⟨⟨⟨⟨e1, e2⟩, e3⟩, e4⟩, e5⟩ := h
  have e6 : a3 = b3 := by
    rw [ByteArray.toList_eq, ByteArray.toList_eq] at e3
    cases a3; cases b3
    simp only [ByteArray.mk.injEq]
    exact Array.toList_inj.1 e3
  subst e1 e2 e4 e5 e6
  rfl
theorem Qjt {xs ys : List Int} (hd : xs.Nodup) (h : ∀ x ∈ xs, x ∈ ys) : xs.length ≤ ys.length := by
  induction xs generalizing ys with
  | nil => simp
  | cons x xs ih =>
    rw [List.nodup_cons] at hd
    have hx := h x (by simp)
    have h1 := ih (ys := ys.erase x) hd.2 (fun z hz => (List.mem_erase_of_ne (fun e => hd.1 (by rw [← e]; exact hz))).2 (h z (by simp [hz])))
    have h2 := List.length_erase_of_mem hx
    have h3 := List.length_pos_of_mem hx
    simp only [List.length_cons]
    omega
theorem Qhf (g : List Nd) : (metas g).length ≤ g.length := by
  unfold metas
  rw [List.length_map]
  exact List.length_filter_le _ _
theorem Qwj {g : List Nd} {f i : Nat} {x : Int} (h : x ∈ metas (span g f i)) : x ∈ metas g := by
  unfold metas at *
  obtain ⟨n, hn, rfl⟩ := List.mem_map.1 h
  rw [List.mem_filter] at hn
  exact List.mem_map.2 ⟨n, List.mem_filter.2 ⟨List.mem_of_mem_take (List.mem_of_mem_drop hn.1), hn.2⟩, rfl⟩
theorem Qaq {t : List Nd} (h : t.all Nd.plainb = true) : Leafy t := by
  intro n hn h61
  have := List.all_eq_true.1 h n hn
  unfold Nd.plainb at this
  simp [h61] at this
  exact this.2.1.1
theorem MRes.back {B q : Nat} {w W w' : World} {bs : List (Int × List Nd)} {G T : List Nd} {v : Value} {b : Bool} (h : MRes B q W bs G T v b w') (hb : Below w.heap.size w W) : MRes B q w bs G T v b w' := by
  obtain ⟨h1, h2, h3⟩ := h
  refine ⟨(But.ofBelow hb).trans h1, ?_, h3⟩
  intro e
  obtain ⟨q', c', l', rs', bs', a1, a2, a3, a4, a5⟩ := h2 e
  exact ⟨q', c', l', rs', bs', a1, a2, a3, a4, by have := hb.size; omega⟩
theorem Ints.but {S : Nat → Prop} {w w' : World} {B g cap n : Nat} {xs : List Int} (h : Ints w B g cap n xs) (hb : But S w w') (hn : ¬ S g) : Ints w' B g cap n xs := ⟨h.1, Qah h.2 hb hn⟩
theorem Qic (t : List Nd) (K : List Sp) (k : Nat) (h : k < K.length) : (Qae t K)[k]'(by simpa [Qae] using h) = span t K[k].fr K[k].rt := by simp [Qae]
theorem Qjk (A : List (List Nd)) (k : Nat) (h : k < A.length) : (A.take (k + 1)).flatten = (A.take k).flatten ++ A[k] := by
  rw [List.take_succ_eq_append_getElem h, Qch]
abbrev It := Int × ((Nat × Nat) × List Nd)
def It.cells (p : It) : Value × Value := (.int .i64 p.1, .slice (some ⟨p.2.1.1, 0, none⟩) p.2.2.length p.2.1.2)
def It.bind (p : It) : Int × List Nd := (p.1, p.2.2)
def insA (x : It) : List It → List It
  | [] => [x]
  | y :: ys => if x.1 < y.1 then y :: insA x ys else x :: y :: ys
def insB (out : List It) (x : It) : List It := (insA x out.reverse).reverse
def Qde (ms : List It) : List It := ms.foldl insB []
theorem Qov (x : It) (l : List It) : (insA x l).Perm (x :: l) := by
  induction l with
  | nil => exact List.Perm.refl _
  | cons y ys ih =>
    unfold insA
    split
    · exact (List.Perm.cons y ih).trans (List.Perm.swap x y ys)
    · exact List.Perm.refl _
theorem Qou (out : List It) (x : It) : (insB out x).Perm (x :: out) :=
  (List.reverse_perm _).trans ((Qov x _).trans (List.Perm.cons x (List.reverse_perm _)))
theorem Qsy (ms : List It) : (Qde ms).Perm ms := by
  have key : ∀ (ms out : List It), (ms.foldl insB out).Perm (ms ++ out) := by
    intro ms
    induction ms with
    | nil => intro out; exact List.Perm.refl _
    | cons m ms ih =>
      intro out
      rw [List.foldl_cons]
      exact (ih (insB out m)).trans ((List.Perm.append_left ms (Qou out m)).trans List.perm_middle)
  have h := key ms []
  rw [List.append_nil] at h
  exact h
theorem Qxd (x : It) (l : List It) (h : l.Pairwise (fun a b => b.1 < a.1)) (hx : ∀ y ∈ l, y.1 ≠ x.1) : (insA x l).Pairwise (fun a b => b.1 < a.1) := by
  induction l with
  | nil => simp [insA]
  | cons y ys ih =>
    rw [List.pairwise_cons] at h
    unfold insA
    split
    · rename_i hlt
      rw [List.pairwise_cons]
      refine ⟨?_, ih h.2 (fun z hz => hx z (by simp [hz]))⟩
      intro z hz
      rcases List.mem_cons.1 ((Qov x ys).mem_iff.1 hz) with rfl | hz
      · exact hlt
      · exact h.1 z hz
    · rename_i hlt
      have h1 := hx y (by simp)
      rw [List.pairwise_cons]
      refine ⟨?_, by rw [List.pairwise_cons]; exact h⟩
      intro z hz
      rcases List.mem_cons.1 hz with rfl | hz
      · omega
      · have := h.1 z hz; omega
theorem Jch (out : List It) (x : It) (h : out.Pairwise (fun a b => a.1 < b.1)) (hx : ∀ y ∈ out, y.1 ≠ x.1) : (insB out x).Pairwise (fun a b => a.1 < b.1) := by
  unfold insB
  rw [List.pairwise_reverse]
  exact Qxd x _ (List.pairwise_reverse.2 h) (fun y hy => hx y (List.mem_reverse.1 hy))
theorem Qzd (ms : List It) (hd : (ms.map Prod.fst).Nodup) : (Qde ms).Pairwise (fun a b => a.1 < b.1) := by
  have key : ∀ (ms out : List It), out.Pairwise (fun a b => a.1 < b.1) → (ms.map Prod.fst).Nodup → (∀ y ∈ out, ∀ m ∈ ms, y.1 ≠ m.1) → (ms.foldl insB out).Pairwise (fun a b => a.1 < b.1) := by
    intro ms
    induction ms with
    | nil => intro out h _ _; exact h
    | cons m ms ih =>
      intro out h hn hx
      rw [List.map_cons, List.nodup_cons] at hn
      rw [List.foldl_cons]
      refine ih (insB out m) (Jch out m h (fun y hy => hx y hy m (by simp))) hn.2 ?_
      intro y hy z hz
      rcases List.mem_cons.1 ((Qou out m).mem_iff.1 hy) with rfl | hy
      · intro e
        exact hn.1 (by rw [e]; exact List.mem_map.2 ⟨z, hz, rfl⟩)
      · exact hx y hy z (by simp [hz])
  exact key ms [] List.Pairwise.nil hd (fun y hy => by simp at hy)
theorem Qsx (ms : List It) (k : Nat) (h : k < ms.length) : Qde (ms.take (k + 1)) = insB (Qde (ms.take k)) ms[k] := by
  unfold Qde
  rw [List.take_succ_eq_append_getElem h, List.foldl_append]
  rfl
theorem Qxc (A : List It) (y x : It) (B : List It) (h : x.1 < y.1) : (insA x (A ++ [y]).reverse).reverse ++ B = (insA x A.reverse).reverse ++ (y :: B) := by
  rw [List.reverse_append]
  simp only [List.reverse_cons, List.reverse_nil, List.nil_append, List.cons_append]
  rw [insA, if_pos h]
  simp
theorem Qxb (A : List It) (x : It) (h : ∀ y, A.getLast? = some y → ¬ x.1 < y.1) : (insA x A.reverse).reverse = A ++ [x] := by
  rcases List.eq_nil_or_concat A with rfl | ⟨A', y, rfl⟩
  · rfl
  · simp only [List.concat_eq_append] at h ⊢
    rw [List.reverse_append]
    simp only [List.reverse_cons, List.reverse_nil, List.nil_append, List.cons_append]
    rw [insA, if_neg (h y (by simp))]
    simp
theorem Jds (A B : List It) (x y : It) : (((A ++ [y]) ++ x :: B).set (A.length + 1) y).set A.length x = A ++ x :: (y :: B) := by
  induction A with
  | nil => rfl
  | cons a A ih => simp
def Qgt (rs : List (Nat × Nat)) (bs : List (Int × List Nd)) : List It := List.zipWith (fun r b => (b.1, (r, b.2))) rs bs
theorem Qts (rs : List (Nat × Nat)) (bs : List (Int × List Nd)) : (Qgt rs bs).map It.cells = Qcr rs bs := by
  unfold Qgt Qcr
  rw [List.map_zipWith]
  rfl
theorem Qka {rs : List (Nat × Nat)} {bs : List (Int × List Nd)} (h : rs.length = bs.length) : (Qgt rs bs).map It.bind = bs := by
  unfold Qgt
  rw [List.map_zipWith]
  induction rs generalizing bs with
  | nil => cases bs with
    | nil => rfl
    | cons b bs => simp at h
  | cons r rs ih => cases bs with
    | nil => simp at h
    | cons b bs => simp [It.bind] at h ⊢; exact ih h
theorem Qls {rs : List (Nat × Nat)} {bs : List (Int × List Nd)} (h : rs.length = bs.length) : (Qgt rs bs).map (fun p => p.2.1) = rs := by
  unfold Qgt
  rw [List.map_zipWith]
  induction rs generalizing bs with
  | nil => cases bs with
    | nil => rfl
    | cons b bs => simp at h
  | cons r rs ih => cases bs with
    | nil => simp at h
    | cons b bs => simp at h ⊢; exact ih h
theorem Jaj (its : List It) : its.map It.cells = Qcr (its.map (fun p => p.2.1)) (its.map It.bind) := by
  unfold Qcr
  induction its with
  | nil => rfl
  | cons p its ih => simp only [List.map_cons, List.zipWith_cons_cons, ← ih]; rfl
theorem TwoR.perm {w w' : World} {q q' : Nat} {rs : List (Nat × Nat)} {bs : List (Int × List Nd)} {its : List It} (h : TwoR w q rs bs) (hp : its.Perm (Qgt rs bs)) (hr : ∀ r g, r ∈ rs → Row w r.1 g → Row w' r.1 g) (ho : OwnB w' q' (its.map It.cells)) :
    TwoR w' q' (its.map (fun p => p.2.1)) (its.map It.bind) := by
  have hl := h.len
  refine ⟨by simp, by rw [← Jaj]; exact ho, ?_, ?_⟩
  · intro i h1 h2
    have hi : i < its.length := by simpa using h1
    simp only [List.getElem_map]
    have hm := hp.mem_iff.1 (List.getElem_mem hi)
    obtain ⟨k, hk, he⟩ := List.getElem_of_mem hm
    have hk2 : k < rs.length ∧ k < bs.length := by simp [Qgt] at hk; omega
    rw [← he]
    have e : (Qgt rs bs)[k] = (bs[k].1, (rs[k], bs[k].2)) := by simp [Qgt]
    rw [e]
    exact hr _ _ (List.getElem_mem hk2.1) (h.rows k hk2.1 hk2.2)
  · have e1 : (its.map (fun p => p.2.1)).Perm rs := by
      have := hp.map (fun p : It => p.2.1)
      rw [Qls hl] at this
      exact this
    exact (e1.map Prod.fst).nodup_iff.2 h.nodup
theorem OwnBs.put {w : World} {B g c l : Nat} {ps : List (Value × Value)} (h : OwnBs w B g c l ps) (j : Nat) (a b : Value) : OwnBs ((w.setCell ⟨g, j * 2, none⟩ a).setCell ⟨g, j * 2 + 1, none⟩ b) B g c l (ps.set j (a, b)) := by
  refine ⟨by simp [h.1], ?_⟩
  have h9 := Qcv (v := b) (Qcv (v := a) h.2 (i := j * 2)) (i := j * 2 + 1)
  rw [Qug ps j (a, b)] at h9
  exact h9
def Qcd (g t : List Nd) (bs : List (Int × List Nd)) (b : Bool) : Prop :=
  (b = true → typeb g = true ∧ typeb t = true ∧ InstOk g t bs) ∧ (b = false → bs = [] ∧ (typeb g = false ∨ typeb t = false ∨ Jbj g t))
theorem Qbx {t : List Nd} {m : Nat} (hm : t.length = m) (h : typeb t = true) : ∃ S ys s, Side t m S ys ∧ 0 < m ∧ ys[m - 1]? = some s ∧ s.fr = 0 ∧ span t s.fr (m - 1) = t ∧ Qby t = ys.map szOf := by
  unfold typeb at h
  simp only [Bool.and_eq_true, decide_eq_true_eq] at h
  obtain ⟨⟨h1, h2⟩, h3⟩ := h
  obtain ⟨h0, h6, S, ys, hA, hyl⟩ := Qii hm h2
  obtain ⟨s, hs, hd, hr, _⟩ := Qki hm h6 h0 hA
  have hf : s.fr = 0 := by
    by_cases hc : s.fr = 0 ∧ s.dp ≤ 300
    · exact hc.1
    · rw [if_neg hc] at hd; omega
  refine ⟨S, ys, s, ⟨hm, by omega, hA, h3⟩, h0, hs, hf, ?_, ?_⟩
  · unfold span
    rw [hf, List.drop_zero, List.take_of_length_le (by omega)]
  · unfold Qby
    rw [hm, hA]
end Go.Proofs.YtoiiibplkhedcaaGreatDoor
namespace Go.Proofs.YtoiiibplkhedcaaGreatDoor
theorem Jba {α : Type} (d : α) (r : Nat → Nat) (G : Nat → (Nat → α) → α) (hG : ∀ i v v', (∀ j, r j < r i → v j = v' j) → G i v = G i v') : ∃ v : Nat → α, ∀ i, v i = G i v := by
  let val : Nat → Nat → α := fun f => Nat.rec (motive := fun _ => Nat → α) (fun _ => d) (fun _ p i => G i p) f
  have hs : ∀ f i, val (f + 1) i = G i (val f) := fun f i => rfl
  have key : ∀ n i, r i = n → ∀ f, r i < f → val f i = val (r i + 1) i := by
    intro n
    induction n using Nat.strongRecOn with
    | ind n ih =>
      intro i hi f hf
      cases f with
      | zero => omega
      | succ f =>
        rw [hs, hs]
        apply hG
        intro j hj
        rw [ih (r j) (by omega) j rfl f (by omega), ih (r j) (by omega) j rfl (r i) (by omega)]
  refine ⟨fun i => val (r i + 1) i, fun i => ?_⟩
  show val (r i + 1) i = _
  rw [hs]
  apply hG
  intro j hj
  exact key (r j) j rfl (r i) hj
structure SK where
  kind : Int
  num : Int
  text : ByteArray
  kids : List Nat
def SK.none : SK := ⟨0, 0, ByteArray.empty, []⟩
def sk (st : List SK) (i : Nat) : SK := st[i]?.getD SK.none
def SK.node (x : SK) : Nd := ⟨x.kind, x.num, x.text, (x.kids.length : Int), 0⟩
structure Sts (st : List SK) : Prop where
  kids : ∀ i, ∀ k ∈ (sk st i).kids, k < i
  leaf : ∀ i, (sk st i).kind = 61 → (sk st i).kids = []
  one : ∀ i j, i < st.length → j < st.length → (sk st i).kind = 61 → (sk st j).kind = 61 → (sk st i).num = (sk st j).num → i = j
  plain : ∀ i, i < st.length → (sk st i).node.plainb = true
  few : ∀ i, (sk st i).kids.length ≤ 6000
theorem Jbc {st : List SK} {i : Nat} (h : st.length ≤ i) : sk st i = SK.none := by
  unfold sk
  rw [List.getElem?_eq_none h]
  rfl
def IsT (θ : Int → List Nd) (st : List SK) (v : Nat → List Nd) : Prop := ∀ i, v i = if (sk st i).kind = 61 then θ (sk st i).num else (sk st i).kids.flatMap v ++ [(sk st i).node]
theorem Qcc {α β : Type} {l : List α} {f g : α → List β} (h : ∀ x ∈ l, f x = g x) : l.flatMap f = l.flatMap g := by
  induction l with
  | nil => rfl
  | cons a l ih => simp only [List.flatMap_cons]; rw [h a (by simp), ih (fun x hx => h x (by simp [hx]))]
theorem Jas (θ : Int → List Nd) {st : List SK} (hk : ∀ i, ∀ k ∈ (sk st i).kids, k < i) : ∃ v, IsT θ st v := by
  refine Jba [] id _ ?_
  intro i v v' h
  by_cases h61 : (sk st i).kind = 61
  · rw [if_pos h61, if_pos h61]
  · rw [if_neg h61, if_neg h61]
    rw [Qcc (fun k hk2 => h k (hk i k hk2))]
def T (ep : ((Nat → List Nd) → Prop) → Nat → List Nd) (th : Int → List Nd) (st : List SK) : Nat → List Nd := ep (IsT th st)
theorem T_is (θ : Int → List Nd) {st : List SK} (hs : Sts st) : IsT θ st (T Classical.epsilon θ st) := by
  have h := Jas θ hs.kids
  unfold T
  exact Classical.epsilon_spec h
theorem Qiv (θ : Int → List Nd) {st : List SK} (hs : Sts st) {i : Nat} (h : (sk st i).kind = 61) : T Classical.epsilon θ st i = θ (sk st i).num := by
  rw [T_is θ hs i, if_pos h]
theorem Qgc (θ : Int → List Nd) {st : List SK} (hs : Sts st) {i : Nat} (h : (sk st i).kind ≠ 61) : T Classical.epsilon θ st i = (sk st i).kids.flatMap (T Classical.epsilon θ st) ++ [(sk st i).node] := by
  have := T_is θ hs i
  rw [if_neg h] at this
  exact this
theorem Jdn {θ : Int → List Nd} (hθ : ∀ x, One (θ x)) {st : List SK} (hs : Sts st) : ∀ i, One (T Classical.epsilon θ st i) := by
  intro i
  induction i using Nat.strongRecOn with
  | ind i ih =>
    by_cases h : (sk st i).kind = 61
    · rw [Qiv θ hs h]; exact hθ _
    · rw [Qgc θ hs h, List.flatMap_def]
      refine One.join ?_ ?_
      · intro x hx
        obtain ⟨k, hk, rfl⟩ := List.mem_map.1 hx
        exact ih k (hs.kids i k hk)
      · simp [SK.node]
def Sat (θ : Int → List Nd) (st : List SK) (lk : Nat → Option Nat) : Prop := ∀ i j, lk i = some j → T Classical.epsilon θ st i = T Classical.epsilon θ st j
def RtF (lk : Nat → Option Nat) (R : Nat × Nat → Prop) (x : Nat × Nat) : Prop :=
  (∃ (i : Nat), x = (i, i) ∧ (lk i = none)) ∨
  (∃ (i j r : Nat), x = (i, r) ∧ (lk i = some j) ∧ (R (j, r)))
structure Rt (lk : Nat → Option Nat) (i : Nat) (r : Nat) : Prop where
  of ::
  lfp : Lfp (RtF lk) (i, r)
theorem Rt.grows (lk : Nat → Option Nat) : Qkq (RtF lk) := by
  rintro R R' x h0 (⟨i, e0, h⟩ | ⟨i, j, r, e0, h, k⟩)
  · exact .inl ⟨i, e0, h⟩
  · exact .inr (⟨i, j, r, e0, h, h0 _ k⟩)
theorem Rt.root {lk : Nat → Option Nat} {i : Nat} (h : lk i = none) : Rt lk i i :=
  ⟨Lfp.fold (Rt.grows lk) (.inl ⟨i, rfl, h⟩)⟩
theorem Rt.step {lk : Nat → Option Nat} {i j r : Nat} (h : lk i = some j) (k : Rt lk j r) : Rt lk i r :=
  ⟨Lfp.fold (Rt.grows lk) (.inr (⟨i, j, r, rfl, h, k.lfp⟩))⟩
theorem Rt.elim {lk : Nat → Option Nat} {motive : ∀ i r, Rt lk i r → Prop}
    (root : ∀ {i : Nat} (h : lk i = none), motive i i (Rt.root (i := i) h))
    (step : ∀ {i j r : Nat} (h : lk i = some j) (k : Rt lk j r), motive j r (k) → motive i r (Rt.step (i := i) (j := j) (r := r) h k))
    {i : Nat} {r : Nat} (h : Rt lk i r) : motive i r h := by
  have key : ∀ h, motive (i, r).1 (i, r).2 h := Lfp.ind (Rt.grows lk) (p := fun x => ∀ h, motive x.1 x.2 h) (by
    rintro x (⟨i, e0, h⟩ | ⟨i, j, r, e0, h, k⟩) h9
    · subst e0; exact root (i := i) h
    · subst e0; exact step (i := i) (j := j) (r := r) h ⟨k.1⟩ (k.2 _)) h.lfp
  exact key h
theorem Rt.inv {lk : Nat → Option Nat} {motive : ∀ i r, Rt lk i r → Prop}
    (root : ∀ {i : Nat} (h : lk i = none), motive i i (Rt.root (i := i) h))
    (step : ∀ {i j r : Nat} (h : lk i = some j) (k : Rt lk j r), motive i r (Rt.step (i := i) (j := j) (r := r) h k))
    {i : Nat} {r : Nat} (h : Rt lk i r) : motive i r h := by
  induction h using Rt.elim with
  | root h => exact root h
  | step h k _ => exact step h k
theorem Rt.is_root {lk : Nat → Option Nat} {i r : Nat} (h : Rt lk i r) : lk r = none := by
  induction h using Rt.elim with
  | root h => exact h
  | step _ _ ih => exact ih
theorem Rt.fun {lk : Nat → Option Nat} {i r r' : Nat} (h : Rt lk i r) (h' : Rt lk i r') : r = r' := by
  induction h using Rt.elim with
  | root h =>
    cases h' using Rt.inv with
    | root _ => rfl
    | step h2 _ => rw [h] at h2; cases h2
  | step h1 _ ih =>
    cases h' using Rt.inv with
    | root h2 => rw [h2] at h1; cases h1
    | step h2 h3 =>
      rw [h1] at h2
      cases h2
      exact ih h3
theorem Rt.sat {θ : Int → List Nd} {st : List SK} {lk : Nat → Option Nat} {i r : Nat} (h : Rt lk i r) (hs : Sat θ st lk) : T Classical.epsilon θ st i = T Classical.epsilon θ st r := by
  induction h using Rt.elim with
  | root _ => rfl
  | step h1 _ ih => rw [hs _ _ h1, ih]
structure Ranked (st : List SK) (lk : Nat → Option Nat) (r : Nat → Nat) : Prop where
  link : ∀ i j, lk i = some j → r j < r i
  kid : ∀ i, lk i = none → ∀ k ∈ (sk st i).kids, r k < r i
theorem Ranked.rt {st : List SK} {lk : Nat → Option Nat} {r : Nat → Nat} (h : Ranked st lk r) : ∀ i, ∃ q, Rt lk i q := by
  intro i
  induction hn : r i using Nat.strongRecOn generalizing i with
  | ind n ih =>
    cases hl : lk i with
    | none => exact ⟨i, .root hl⟩
    | some j =>
      obtain ⟨q, hq⟩ := ih (r j) (by have := h.link i j hl; omega) j rfl
      exact ⟨q, .step hl hq⟩
def IsD (st : List SK) (lk : Nat → Option Nat) (D : Nat → List Nd) : Prop := ∀ i, D i = match lk i with
  | some j => D j
  | none => (sk st i).kids.flatMap D ++ [(sk st i).node]
theorem Ranked.exists_D {st : List SK} {lk : Nat → Option Nat} {r : Nat → Nat} (h : Ranked st lk r) : ∃ D, IsD st lk D := by
  refine Jba [] r (fun i D => match lk i with
    | some j => D j
    | none => (sk st i).kids.flatMap D ++ [(sk st i).node]) ?_
  intro i v v' hv
  cases hl : lk i with
  | some j => exact hv j (h.link i j hl)
  | none =>
    simp only
    rw [Qcc (fun k hk => hv k (h.kid i hl k hk))]
theorem IsD.link {st : List SK} {lk : Nat → Option Nat} {D : Nat → List Nd} (h : IsD st lk D) {i j : Nat} (hl : lk i = some j) : D i = D j := by
  have := h i
  rw [hl] at this
  exact this
theorem IsD.node {st : List SK} {lk : Nat → Option Nat} {D : Nat → List Nd} (h : IsD st lk D) {i : Nat} (hl : lk i = none) : D i = (sk st i).kids.flatMap D ++ [(sk st i).node] := by
  have := h i
  rw [hl] at this
  exact this
theorem IsD.rt {st : List SK} {lk : Nat → Option Nat} {D : Nat → List Nd} (h : IsD st lk D) {i r : Nat} (hr : Rt lk i r) : D i = D r := by
  induction hr using Rt.elim with
  | root _ => rfl
  | step h1 _ ih => rw [h.link h1, ih]
theorem Qky (θ : Int → List Nd) (x : SK) (h : x.kind = 61) : fill θ [x.node] = θ x.num := by simp [fill, Qas, SK.node, h]
theorem Qxp (θ : Int → List Nd) (x : SK) (h : x.kind ≠ 61) : fill θ [x.node] = [x.node] := by simp [fill, Qas, SK.node, h]
theorem Qpj (θ : Int → List Nd) (l : List Nat) (v : Nat → List Nd) : fill θ (l.flatMap v) = l.flatMap (fun k => fill θ (v k)) := by
  induction l with
  | nil => rfl
  | cons a l ih => simp only [List.flatMap_cons]; rw [Qaj, ih]
theorem Qyp {θ : Int → List Nd} {st : List SK} (hs : Sts st) {lk : Nat → Option Nat} {r : Nat → Nat} (hr : Ranked st lk r) {D : Nat → List Nd} (hD : IsD st lk D) (hsat : Sat θ st lk) : ∀ i, T Classical.epsilon θ st i = fill θ (D i) := by
  intro i
  induction hn : r i using Nat.strongRecOn generalizing i with
  | ind n ih =>
    cases hl : lk i with
    | some j => rw [hsat i j hl, hD.link hl]; exact ih (r j) (by have := hr.link i j hl; omega) j rfl
    | none =>
      rw [hD.node hl, Qaj, Qpj]
      by_cases h : (sk st i).kind = 61
      · rw [Qiv θ hs h, hs.leaf i h, Qky θ _ h]; rfl
      · rw [Qgc θ hs h, Qxp θ _ h]
        rw [Qcc (fun k hk => ih (r k) (by have := hr.kid i hl k hk; omega) k rfl)]
structure Inv (st : List SK) (lk : Nat → Option Nat) : Prop where
  rank : ∃ r, Ranked st lk r
  rng : ∀ i j, lk i = some j → i < st.length ∧ j < st.length
  cong : ∀ i j, lk i = some j → (sk st i).kind ≠ 61 → (sk st j).kind ≠ 61 ∧ (sk st i).node = (sk st j).node ∧ ∀ k (h : k < (sk st i).kids.length) (h' : k < (sk st j).kids.length), ∃ r, Rt lk (sk st i).kids[k] r ∧ Rt lk (sk st j).kids[k] r
  low : ∀ i j, lk i = some j → (sk st i).kind = 61 → (sk st j).kind = 61 → (sk st j).num < (sk st i).num
theorem Qju {x y : SK} (h : x.node = y.node) : x.kids.length = y.kids.length := by
  have := congrArg Nd.kids h
  simp only [SK.node] at this
  omega
theorem Qfy {l l' : List Nat} {v : Nat → List Nd} (hl : l.length = l'.length) (h : ∀ k (h : k < l.length) (h' : k < l'.length), v l[k] = v l'[k]) : l.flatMap v = l'.flatMap v := by
  rw [List.flatMap_def, List.flatMap_def]
  congr 1
  apply List.ext_getElem
  · simpa using hl
  · intro i h1 h2
    simp only [List.getElem_map]
    exact h i (by simpa using h1) (by simpa using h2)
theorem Inv.cong_D {st : List SK} {lk : Nat → Option Nat} (hI : Inv st lk) {D : Nat → List Nd} (hD : IsD st lk D) : ∀ i, (sk st i).kind ≠ 61 → D i = (sk st i).kids.flatMap D ++ [(sk st i).node] := by
  obtain ⟨r, hr⟩ := hI.rank
  intro i
  induction hn : r i using Nat.strongRecOn generalizing i with
  | ind n ih =>
    intro hk
    cases hl : lk i with
    | none => exact hD.node hl
    | some j =>
      obtain ⟨h1, h2, h3⟩ := hI.cong i j hl hk
      rw [hD.link hl, ih (r j) (by have := hr.link i j hl; omega) j rfl h1, h2]
      congr 1
      refine (Qfy (Qju h2) ?_).symm
      intro k hk1 hk2
      obtain ⟨q, h4, h5⟩ := h3 k hk1 hk2
      rw [hD.rt h4, hD.rt h5]
def Qeq (dec : ∀ p : Prop, Decidable p) (ep : (Nat → Prop) → Nat) (st : List SK) (D : Nat → List Nd) (x : Int) : List Nd :=
  @ite _ (∃ i, i < st.length ∧ (sk st i).kind = 61 ∧ (sk st i).num = x) (dec _) (D (ep fun i => i < st.length ∧ (sk st i).kind = 61 ∧ (sk st i).num = x)) [⟨61, x, ByteArray.empty, 0, 0⟩]
theorem Qje {st : List SK} (hs : Sts st) (D : Nat → List Nd) {i : Nat} (hi : i < st.length) (h : (sk st i).kind = 61) : Qeq Classical.propDecidable Classical.epsilon st D (sk st i).num = D i := by
  have hx : ∃ j, j < st.length ∧ (sk st j).kind = 61 ∧ (sk st j).num = (sk st i).num := ⟨i, hi, h, rfl⟩
  unfold Qeq
  rw [if_pos hx]
  obtain ⟨h1, h2, h3⟩ := Classical.epsilon_spec hx
  rw [hs.one _ i h1 hi h2 h h3]
theorem Qhu {st : List SK} {i : Nat} (h : (sk st i).kind = 61) : i < st.length := by
  rcases Nat.lt_or_ge i st.length with h1 | h1
  · exact h1
  · rw [Jbc h1] at h
    cases h
theorem Qyo {st : List SK} (hs : Sts st) {lk : Nat → Option Nat} (hI : Inv st lk) {D : Nat → List Nd} (hD : IsD st lk D) : ∀ i, T Classical.epsilon (Qeq Classical.propDecidable Classical.epsilon st D) st i = D i := by
  intro i
  induction i using Nat.strongRecOn with
  | ind i ih =>
    by_cases h : (sk st i).kind = 61
    · rw [Qiv _ hs h, Qje hs D (Qhu h) h]
    · rw [Qgc _ hs h, hI.cong_D hD i h]
      rw [Qcc (fun k hk => ih k (hs.kids i k hk))]
theorem Jaz {st : List SK} (hs : Sts st) {lk : Nat → Option Nat} (hI : Inv st lk) {D : Nat → List Nd} (hD : IsD st lk D) : Sat (Qeq Classical.propDecidable Classical.epsilon st D) st lk := by
  intro i j hl
  rw [Qyo hs hI hD, Qyo hs hI hD, hD.link hl]
theorem Jdz {st : List SK} {lk : Nat → Option Nat} {r : Nat → Nat} (hr : Ranked st lk r) {D : Nat → List Nd} (hD : IsD st lk D) : ∀ i, One (D i) := by
  intro i
  induction hn : r i using Nat.strongRecOn generalizing i with
  | ind n ih =>
    cases hl : lk i with
    | some j => rw [hD.link hl]; exact ih (r j) (by have := hr.link i j hl; omega) j rfl
    | none =>
      rw [hD.node hl, List.flatMap_def]
      refine One.join ?_ (by simp [SK.node])
      intro x hx
      obtain ⟨k, hk, rfl⟩ := List.mem_map.1 hx
      exact ih (r k) (by have := hr.kid i hl k hk; omega) k rfl
theorem Qmp (n : Nd) (h : n.kids = 0) : One [n] := One.join (A := []) (by simp) (by simp [h])
theorem Qfz {st : List SK} {lk : Nat → Option Nat} {r : Nat → Nat} (hr : Ranked st lk r) {D : Nat → List Nd} (hD : IsD st lk D) (x : Int) : One (Qeq Classical.propDecidable Classical.epsilon st D x) := by
  unfold Qeq
  split
  · exact Jdz hr hD _
  · exact Qmp _ rfl
end Go.Proofs.YtoiiibplkhedcaaGreatDoor

import Derived.Test.YtoiiibplkhedcaaGreatDoorGA
import Derived.Test.YtoiiibplkhedcaaGreatDoorGD
import Derived.BigQuiet
import Derived.Deep.Cut
import Derived.Deep.CutRange
namespace Go.Proofs.YtoiiibplkhedcaaGreatDoor
open Go.RowKit
set_option maxHeartbeats 2000000 in
theorem specSame_any (xs ys : List Nd) (n m : Nat) (HX : Hid (xs.length = n)) (HY : Hid (ys.length = m)) (ao bo : Option Addr) (cap cbp : Nat) (w : World) (hx : Nodes w ao xs) (hy : Nodes w bo ys) (hlx : n ≤ 140737488355328) (hly : m ≤ 140737488355328) :
    Calls Tryz.prog 56 #[.slice ao n cap, .slice bo m cbp] w fun e w' =>
      (∃ r : Bool, e = .returned (.bool r) ∧ (r = true ↔ Alike Nd.sameb xs ys)) ∧ Below w.heap.size w w' := by
  by_cases hl : n = m
  · subst hl
    go_enter Tryz.func56, Tryz.ntmps56
    go_wp2
    go_loopw [5] (fun i wr => ∃ (k : Nat), k ≤ n ∧ i = .int .i64 k ∧ (∀ i (h : i < xs.length) (h' : i < ys.length), i < k → xs[i].sameb ys[i] = true) ∧ Below w.heap.size w wr) (fun i _ => n - (intOf i).toNat)
    case atStart => exact ⟨0, Nat.zero_le _, rfl, fun i _ _ h => absurd h (by omega), Below.refl _ _⟩
    case round =>
      obtain ⟨k, hk, rfl, hall, hb⟩ := hrel
      by_cases hlt : k < n
      · have hltx : k < xs.length := by have := HX.out; omega
        have hlty : k < ys.length := by have := HY.out; omega
        obtain ⟨x, hxk⟩ : ∃ x, xs[k] = x := ⟨_, rfl⟩
        obtain ⟨y, hyk⟩ : ∃ y, ys[k] = y := ⟨_, rfl⟩
        obtain ⟨b, o, rfl, hcx⟩ := hx.below hb k hltx
        obtain ⟨b', o', rfl, hcy⟩ := hy.below hb k hlty
        rw [hxk] at hcx
        rw [hyk] at hcy
        obtain ⟨c0, c1, c2, c3, c4⟩ := hcx
        obtain ⟨e0, e1, e2, e3, e4⟩ := hcy
        have hlb : b < wr.heap.size := lt_of_cell c0
        have hlb' : b' < wr.heap.size := lt_of_cell e0
        clear hx hy
        have hne := neqN x y
        cases hq : x.sameb y
        · rw [hq] at hne
          have HA : Hid (∀ i (h : i < xs.length) (h' : i < ys.length), i < k → xs[i].sameb ys[i] = true) := hall
          have HXK : Hid (xs[k] = x) := hxk
          have HYK : Hid (ys[k] = y) := hyk
          clear hall hxk hyk
          go_wp2_with fail
          go_region_with (first | (go_at_call_of 91 (x.text); refine (bare_any x _).mono ?_; rintro e w1 ⟨rfl, hb1⟩; first | have hc1 := bcell_drew hb1 | skip) | (go_at_call_of 91 (y.text); refine (bare_any y _).mono ?_; rintro e w2 ⟨rfl, hb2⟩; first | have hc1 := bcell_drew hb2 | skip))
          all_goals
            first | have hbb := Below.step (Below.step hb (undrew hb1)) hb2 | have hbb := Below.step (Below.step hb (undrew hb2)) hb1
            clear hb hb1 hb2 hc1 c0 c1 c2 c3 c4 e0 e1 e2 e3 e4 hne
            go_wp2
            go_ret
            exact ⟨⟨false, rfl, by simp only [Bool.false_eq_true, false_iff]; intro ha; have := ha.2 k hltx hlty; rw [HXK.out, HYK.out, hq] at this; cases this⟩, hbb⟩
        · rw [hq] at hne
          have HA : Hid (∀ i (h : i < xs.length) (h' : i < ys.length), i < k + 1 → xs[i].sameb ys[i] = true) := by
            intro i h h' hi
            by_cases e : i = k
            · subst e; rw [hxk, hyk]; exact hq
            · exact hall i h h' (by omega)
          have HXK : Hid (xs[k] = x) := hxk
          have HYK : Hid (ys[k] = y) := hyk
          clear hall hxk hyk
          go_wp2_with fail
          go_region_with (first | (go_at_call_of 91 (x.text); refine (bare_any x _).mono ?_; rintro e w1 ⟨rfl, hb1⟩; first | have hc1 := bcell_drew hb1 | skip) | (go_at_call_of 91 (y.text); refine (bare_any y _).mono ?_; rintro e w2 ⟨rfl, hb2⟩; first | have hc1 := bcell_drew hb2 | skip))
          all_goals
            first | have hbb := Below.step (Below.step hb (undrew hb1)) hb2 | have hbb := Below.step (Below.step hb (undrew hb2)) hb1
            clear hb hb1 hb2 hc1 c0 c1 c2 c3 c4 e0 e1 e2 e3 e4 hne
            go_wp2
            go_roundw
            case rel => exact ⟨k + 1, by omega, by go_num, HA.out, hbb⟩
            case measure => simp [intOf]; omega
      · have HA : Hid (Alike Nd.sameb xs ys) := ⟨HX.out.trans HY.out.symm, fun i h h' => hall i h h' (by have := HX.out; omega)⟩
        clear hall hx hy
        go_wp2
        go_ret
        exact ⟨⟨true, rfl, by simp only [true_iff]; exact HA.out⟩, hb⟩
  · have hne : ((n : Int) != (m : Int)) = true := by simp; omega
    clear hx hy
    go_enter Tryz.func56, Tryz.ntmps56
    go_wp2
    go_ret
    exact ⟨⟨false, rfl, by simp only [Bool.false_eq_true, false_iff]; intro ha; exact hl (HX.out.symm.trans (ha.1.trans HY.out))⟩, Below.refl _ _⟩
end Go.Proofs.YtoiiibplkhedcaaGreatDoor

namespace Go.Proofs.YtoiiibplkhedcaaGreatDoor
open Go.RowKit
structure Bst (w : World) (B q c l : Nat) (rs : List (Nat × Nat)) (bs : List (Int × List Nd)) : Prop where
  own : OwnBs w B q c l (leadR rs bs)
  two : TwoR w q rs bs
  far : ∀ r ∈ rs, B ≤ r.1
theorem Bst.len {w : World} {B q c l : Nat} {rs : List (Nat × Nat)} {bs : List (Int × List Nd)} (h : Bst w B q c l rs bs) : bs.length = l := by
  have := h.own.1
  rw [leadR_length _ _ h.two.len] at this
  exact this
theorem Bst.below {w w' : World} {B q c l : Nat} {rs : List (Nat × Nat)} {bs : List (Int × List Nd)} (h : Bst w B q c l rs bs) (hb : Below w.heap.size w w') : Bst w' B q c l rs bs :=
  ⟨h.own.below hb, h.two.below hb, h.far⟩
theorem Bst.block {w : World} {B q c l : Nat} {rs : List (Nat × Nat)} {bs : List (Int × List Nd)} (h : Bst w B q c l rs bs) : B ≤ q ∧ q < w.heap.size := owns_block h.own.2
def PB (bs : List (Int × List Nd)) : Prop := ∀ p ∈ bs, p.2.length ≤ 300 ∧ p.2.all Nd.plainb = true
def MRes (B q : Nat) (w : World) (bs : List (Int × List Nd)) (G T : List Nd) (v : Value) (b : Bool) (w' : World) : Prop :=
  But (· = q) w w' ∧ (b = true → ∃ q' c' l' rs' bs', v = .slice (some ⟨q', 0, none⟩) l' c' ∧ Bst w' B q' c' l' rs' bs' ∧ MatchOk bs G T bs' ∧ PB bs' ∧ (q' = q ∨ w.heap.size ≤ q')) ∧ (b = false → MatchNo bs G T)
structure Side (t : List Nd) (m : Nat) (S ys : List Sp) : Prop where
  len : t.length = m
  m300 : m ≤ 300
  run : after t m = some (S, ys)
  plain : t.all Nd.plainb = true
theorem plain_place {n : Nd} (h : n.plainb = true) : n.place = 0 := by
  unfold Nd.plainb at h
  simp only [Bool.and_eq_true, beq_iff_eq] at h
  exact h.1
theorem alike_eq {xs ys : List Nd} (h : Alike Nd.sameb xs ys) (hx : xs.all Nd.plainb = true) (hy : ys.all Nd.plainb = true) : xs = ys := by
  apply List.ext_getElem h.1
  intro i h1 h2
  have h3 := h.2 i h1 h2
  have p1 := plain_place (List.all_eq_true.1 hx _ (List.getElem_mem h1))
  have p2 := plain_place (List.all_eq_true.1 hy _ (List.getElem_mem h2))
  generalize xs[i] = x at *
  generalize ys[i] = y at *
  obtain ⟨a1, a2, a3, a4, a5⟩ := x
  obtain ⟨b1, b2, b3, b4, b5⟩ := y
  simp only [Nd.sameb, Bool.and_eq_true, beq_iff_eq] at h3 p1 p2
  obtain ⟨⟨⟨e1, e2⟩, e3⟩, e4⟩ := h3
  have e5 : a3 = b3 := by
    rw [ByteArray.toList_eq, ByteArray.toList_eq] at e3
    cases a3; cases b3
    simp only [ByteArray.mk.injEq]
    exact Array.toList_inj.1 e3
  subst e1 e2 e4 e5 p1 p2
  rfl
theorem alike_self {xs : List Nd} : Alike Nd.sameb xs xs := ⟨rfl, fun _ _ _ => by simp [Nd.sameb]⟩
theorem plain_sub {t : List Nd} (h : t.all Nd.plainb = true) (f i : Nat) : (span t f i).all Nd.plainb = true := by
  rw [List.all_eq_true] at h ⊢
  intro n hn
  exact h n (List.mem_of_mem_take (List.mem_of_mem_drop hn))
theorem Bst.snoc {w2 w3 : World} {B q c l q3 c3 g1 k1 lt : Nat} {rs : List (Nat × Nat)} {bs : List (Int × List Nd)} {nm : Int} {T : List Nd} (h : Bst w2 B q c l rs bs) (hrow : Row w2 g1 T) (hlt : T.length = lt) (hg1 : B ≤ g1) (hne : g1 ≠ q) (hfr : ∀ r ∈ rs, r.1 ≠ g1)
    (hown : w3.ownsRow B 54 2 (.slice (some ⟨q3, 0, none⟩) (l + 1) c3) (l + 1) (cells2 (leadR rs bs) ++ [.int .i64 nm, .slice (some ⟨g1, 0, none⟩) lt k1])) (hgrow : (w2.alloc (.cells #[.int .i64 nm, .slice (some ⟨g1, 0, none⟩) lt k1] 54)).grownBy w3 (some q)) :
    Bst w3 B q3 c3 (l + 1) (rs ++ [(g1, k1)]) (bs ++ [(nm, T)]) := by
  have hO := OwnBs.push (x := (.int .i64 nm, .slice (some ⟨g1, 0, none⟩) lt k1)) hown h.own.1 rfl
  have hal : Below w2.heap.size w2 (w2.alloc (.cells #[.int .i64 nm, .slice (some ⟨g1, 0, none⟩) lt k1] 54)) := (Below.refl _ w2).alloc (Nat.le_refl _) _
  refine ⟨?_, ?_, ?_⟩
  · have e : leadR (rs ++ [(g1, k1)]) (bs ++ [(nm, T)]) = leadR rs bs ++ [(.int .i64 nm, .slice (some ⟨g1, 0, none⟩) lt k1)] := by
      unfold leadR
      rw [List.zipWith_append h.two.len, ← hlt]
      rfl
    rw [e]
    exact hO
  · refine TwoR.snoc h.two (by rw [hlt]; exact hO.row.2) ?_ ((hrow.below hal).kept hgrow hne) hfr
    intro i h1 h2
    exact ((h.two.rows i h1 h2).below hal).kept hgrow (h.two.mem_lt _ (List.getElem_mem h1)).2
  · intro r hr
    rcases List.mem_append.1 hr with h9 | h9
    · exact h.far r h9
    · simp at h9
      subst h9
      exact hg1
end Go.Proofs.YtoiiibplkhedcaaGreatDoor

namespace Go.Proofs.YtoiiibplkhedcaaGreatDoor
open Go.RowKit
theorem neqF (x y : Nd) (w : World) :
    (binOp .neq 43 (.agg #[.int .i64 x.kind, .int .i64 x.num, .string x.text, .int .i64 x.kids, .int .i64 x.place]) (.agg #[.int .i64 y.kind, .int .i64 y.num, .string y.text, .int .i64 y.kids, .int .i64 y.place])).run Tryz.prog w =
      .ok (.bool (!(x.eqb y))) w := by
  unfold Nd.eqb
  go_simp
  repeat' split
  all_goals simp_all
theorem eqb_eq {x y : Nd} (h : x.eqb y = true) : x = y := by
  obtain ⟨a1, a2, a3, a4, a5⟩ := x
  obtain ⟨b1, b2, b3, b4, b5⟩ := y
  simp only [Nd.eqb, Bool.and_eq_true, beq_iff_eq] at h
  obtain ⟨⟨⟨⟨e1, e2⟩, e3⟩, e4⟩, e5⟩ := h
  have e6 : a3 = b3 := by
    rw [ByteArray.toList_eq, ByteArray.toList_eq] at e3
    cases a3; cases b3
    simp only [ByteArray.mk.injEq]
    exact Array.toList_inj.1 e3
  subst e1 e2 e4 e5 e6
  rfl
theorem nodup_len {xs ys : List Int} (hd : xs.Nodup) (h : ∀ x ∈ xs, x ∈ ys) : xs.length ≤ ys.length := by
  induction xs generalizing ys with
  | nil => simp
  | cons x xs ih =>
    rw [List.nodup_cons] at hd
    have hx := h x (by simp)
    have h1 := ih (ys := ys.erase x) hd.2 (fun z hz => (List.mem_erase_of_ne (fun e => hd.1 (by rw [← e]; exact hz))).2 (h z (by simp [hz])))
    have h2 := List.length_erase_of_mem hx
    have h3 := List.length_pos_of_mem hx
    simp only [List.length_cons]
    omega
theorem metas_len (g : List Nd) : (metas g).length ≤ g.length := by
  unfold metas
  rw [List.length_map]
  exact List.length_filter_le _ _
theorem metas_sub {g : List Nd} {f i : Nat} {x : Int} (h : x ∈ metas (span g f i)) : x ∈ metas g := by
  unfold metas at *
  obtain ⟨n, hn, rfl⟩ := List.mem_map.1 h
  rw [List.mem_filter] at hn
  exact List.mem_map.2 ⟨n, List.mem_filter.2 ⟨List.mem_of_mem_take (List.mem_of_mem_drop hn.1), hn.2⟩, rfl⟩
theorem plain_leafy {t : List Nd} (h : t.all Nd.plainb = true) : Leafy t := by
  intro n hn h61
  have := List.all_eq_true.1 h n hn
  unfold Nd.plainb at this
  simp [h61] at this
  exact this.2.1.1
theorem MRes.back {B q : Nat} {w W w' : World} {bs : List (Int × List Nd)} {G T : List Nd} {v : Value} {b : Bool} (h : MRes B q W bs G T v b w') (hb : Below w.heap.size w W) : MRes B q w bs G T v b w' := by
  obtain ⟨h1, h2, h3⟩ := h
  refine ⟨(But.ofBelow hb).trans h1, ?_, h3⟩
  intro e
  obtain ⟨q', c', l', rs', bs', a1, a2, a3, a4, a5⟩ := h2 e
  exact ⟨q', c', l', rs', bs', a1, a2, a3, a4, by have := hb.size; omega⟩
theorem Ints.but {S : Nat → Prop} {w w' : World} {B g cap n : Nat} {xs : List Int} (h : Ints w B g cap n xs) (hb : But S w w') (hn : ¬ S g) : Ints w' B g cap n xs := ⟨h.1, owns_but h.2 hb hn⟩
theorem kidsIn_get (t : List Nd) (K : List Sp) (k : Nat) (h : k < K.length) : (kidsIn t K)[k]'(by simpa [kidsIn] using h) = span t K[k].fr K[k].rt := by simp [kidsIn]
theorem take_flat (A : List (List Nd)) (k : Nat) (h : k < A.length) : (A.take (k + 1)).flatten = (A.take k).flatten ++ A[k] := by
  rw [List.take_succ_eq_append_getElem h, flatten_snoc]
end Go.Proofs.YtoiiibplkhedcaaGreatDoor

namespace Go.Proofs.YtoiiibplkhedcaaGreatDoor
open Go.RowKit
abbrev It := Int × ((Nat × Nat) × List Nd)
def It.cells (p : It) : Value × Value := (.int .i64 p.1, .slice (some ⟨p.2.1.1, 0, none⟩) p.2.2.length p.2.1.2)
def It.bind (p : It) : Int × List Nd := (p.1, p.2.2)
def insA (x : It) : List It → List It
  | [] => [x]
  | y :: ys => if x.1 < y.1 then y :: insA x ys else x :: y :: ys
def insB (out : List It) (x : It) : List It := (insA x out.reverse).reverse
def sortA (ms : List It) : List It := ms.foldl insB []
theorem insA_perm (x : It) (l : List It) : (insA x l).Perm (x :: l) := by
  induction l with
  | nil => exact List.Perm.refl _
  | cons y ys ih =>
    unfold insA
    split
    · exact (List.Perm.cons y ih).trans (List.Perm.swap x y ys)
    · exact List.Perm.refl _
theorem insB_perm (out : List It) (x : It) : (insB out x).Perm (x :: out) :=
  (List.reverse_perm _).trans ((insA_perm x _).trans (List.Perm.cons x (List.reverse_perm _)))
theorem sortA_perm (ms : List It) : (sortA ms).Perm ms := by
  have key : ∀ (ms out : List It), (ms.foldl insB out).Perm (ms ++ out) := by
    intro ms
    induction ms with
    | nil => intro out; exact List.Perm.refl _
    | cons m ms ih =>
      intro out
      rw [List.foldl_cons]
      exact (ih (insB out m)).trans ((List.Perm.append_left ms (insB_perm out m)).trans List.perm_middle)
  have h := key ms []
  rw [List.append_nil] at h
  exact h
theorem insA_down (x : It) (l : List It) (h : l.Pairwise (fun a b => b.1 < a.1)) (hx : ∀ y ∈ l, y.1 ≠ x.1) : (insA x l).Pairwise (fun a b => b.1 < a.1) := by
  induction l with
  | nil => simp [insA]
  | cons y ys ih =>
    rw [List.pairwise_cons] at h
    unfold insA
    split
    · rename_i hlt
      rw [List.pairwise_cons]
      refine ⟨?_, ih h.2 (fun z hz => hx z (by simp [hz]))⟩
      intro z hz
      rcases List.mem_cons.1 ((insA_perm x ys).mem_iff.1 hz) with rfl | hz
      · exact hlt
      · exact h.1 z hz
    · rename_i hlt
      have h1 := hx y (by simp)
      rw [List.pairwise_cons]
      refine ⟨?_, by rw [List.pairwise_cons]; exact h⟩
      intro z hz
      rcases List.mem_cons.1 hz with rfl | hz
      · omega
      · have := h.1 z hz; omega
theorem insB_up (out : List It) (x : It) (h : out.Pairwise (fun a b => a.1 < b.1)) (hx : ∀ y ∈ out, y.1 ≠ x.1) : (insB out x).Pairwise (fun a b => a.1 < b.1) := by
  unfold insB
  rw [List.pairwise_reverse]
  exact insA_down x _ (List.pairwise_reverse.2 h) (fun y hy => hx y (List.mem_reverse.1 hy))
theorem sortA_up (ms : List It) (hd : (ms.map Prod.fst).Nodup) : (sortA ms).Pairwise (fun a b => a.1 < b.1) := by
  have key : ∀ (ms out : List It), out.Pairwise (fun a b => a.1 < b.1) → (ms.map Prod.fst).Nodup → (∀ y ∈ out, ∀ m ∈ ms, y.1 ≠ m.1) → (ms.foldl insB out).Pairwise (fun a b => a.1 < b.1) := by
    intro ms
    induction ms with
    | nil => intro out h _ _; exact h
    | cons m ms ih =>
      intro out h hn hx
      rw [List.map_cons, List.nodup_cons] at hn
      rw [List.foldl_cons]
      refine ih (insB out m) (insB_up out m h (fun y hy => hx y hy m (by simp))) hn.2 ?_
      intro y hy z hz
      rcases List.mem_cons.1 ((insB_perm out m).mem_iff.1 hy) with rfl | hy
      · intro e
        exact hn.1 (by rw [e]; exact List.mem_map.2 ⟨z, hz, rfl⟩)
      · exact hx y hy z (by simp [hz])
  exact key ms [] List.Pairwise.nil hd (fun y hy => by simp at hy)
theorem sortA_take (ms : List It) (k : Nat) (h : k < ms.length) : sortA (ms.take (k + 1)) = insB (sortA (ms.take k)) ms[k] := by
  unfold sortA
  rw [List.take_succ_eq_append_getElem h, List.foldl_append]
  rfl
theorem insB_step (A : List It) (y x : It) (B : List It) (h : x.1 < y.1) : (insA x (A ++ [y]).reverse).reverse ++ B = (insA x A.reverse).reverse ++ (y :: B) := by
  rw [List.reverse_append]
  simp only [List.reverse_cons, List.reverse_nil, List.nil_append, List.cons_append]
  rw [insA, if_pos h]
  simp
theorem insB_stop (A : List It) (x : It) (h : ∀ y, A.getLast? = some y → ¬ x.1 < y.1) : (insA x A.reverse).reverse = A ++ [x] := by
  rcases List.eq_nil_or_concat A with rfl | ⟨A', y, rfl⟩
  · rfl
  · simp only [List.concat_eq_append] at h ⊢
    rw [List.reverse_append]
    simp only [List.reverse_cons, List.reverse_nil, List.nil_append, List.cons_append]
    rw [insA, if_neg (h y (by simp))]
    simp
theorem swapI (A B : List It) (x y : It) : (((A ++ [y]) ++ x :: B).set (A.length + 1) y).set A.length x = A ++ x :: (y :: B) := by
  induction A with
  | nil => rfl
  | cons a A ih => simp
def itsOf (rs : List (Nat × Nat)) (bs : List (Int × List Nd)) : List It := List.zipWith (fun r b => (b.1, (r, b.2))) rs bs
theorem itsOf_lead (rs : List (Nat × Nat)) (bs : List (Int × List Nd)) : (itsOf rs bs).map It.cells = leadR rs bs := by
  unfold itsOf leadR
  rw [List.map_zipWith]
  rfl
theorem itsOf_binds {rs : List (Nat × Nat)} {bs : List (Int × List Nd)} (h : rs.length = bs.length) : (itsOf rs bs).map It.bind = bs := by
  unfold itsOf
  rw [List.map_zipWith]
  induction rs generalizing bs with
  | nil => cases bs with
    | nil => rfl
    | cons b bs => simp at h
  | cons r rs ih => cases bs with
    | nil => simp at h
    | cons b bs => simp [It.bind] at h ⊢; exact ih h
theorem itsOf_rows {rs : List (Nat × Nat)} {bs : List (Int × List Nd)} (h : rs.length = bs.length) : (itsOf rs bs).map (fun p => p.2.1) = rs := by
  unfold itsOf
  rw [List.map_zipWith]
  induction rs generalizing bs with
  | nil => cases bs with
    | nil => rfl
    | cons b bs => simp at h
  | cons r rs ih => cases bs with
    | nil => simp at h
    | cons b bs => simp at h ⊢; exact ih h
theorem its_lead (its : List It) : its.map It.cells = leadR (its.map (fun p => p.2.1)) (its.map It.bind) := by
  unfold leadR
  induction its with
  | nil => rfl
  | cons p its ih => simp only [List.map_cons, List.zipWith_cons_cons, ← ih]; rfl
theorem TwoR.perm {w w' : World} {q q' : Nat} {rs : List (Nat × Nat)} {bs : List (Int × List Nd)} {its : List It} (h : TwoR w q rs bs) (hp : its.Perm (itsOf rs bs)) (hr : ∀ r g, r ∈ rs → Row w r.1 g → Row w' r.1 g) (ho : OwnB w' q' (its.map It.cells)) :
    TwoR w' q' (its.map (fun p => p.2.1)) (its.map It.bind) := by
  have hl := h.len
  refine ⟨by simp, by rw [← its_lead]; exact ho, ?_, ?_⟩
  · intro i h1 h2
    have hi : i < its.length := by simpa using h1
    simp only [List.getElem_map]
    have hm := hp.mem_iff.1 (List.getElem_mem hi)
    obtain ⟨k, hk, he⟩ := List.getElem_of_mem hm
    have hk2 : k < rs.length ∧ k < bs.length := by simp [itsOf] at hk; omega
    rw [← he]
    have e : (itsOf rs bs)[k] = (bs[k].1, (rs[k], bs[k].2)) := by simp [itsOf]
    rw [e]
    exact hr _ _ (List.getElem_mem hk2.1) (h.rows k hk2.1 hk2.2)
  · have e1 : (its.map (fun p => p.2.1)).Perm rs := by
      have := hp.map (fun p : It => p.2.1)
      rw [itsOf_rows hl] at this
      exact this
    exact (e1.map Prod.fst).nodup_iff.2 h.nodup
theorem OwnBs.put {w : World} {B g c l : Nat} {ps : List (Value × Value)} (h : OwnBs w B g c l ps) (j : Nat) (a b : Value) : OwnBs ((w.setCell ⟨g, j * 2, none⟩ a).setCell ⟨g, j * 2 + 1, none⟩ b) B g c l (ps.set j (a, b)) := by
  refine ⟨by simp [h.1], ?_⟩
  have h9 := owns_setOne (v := b) (owns_setOne (v := a) h.2 (i := j * 2)) (i := j * 2 + 1)
  rw [cells2_set ps j (a, b)] at h9
  exact h9
end Go.Proofs.YtoiiibplkhedcaaGreatDoor

namespace Go.Proofs.YtoiiibplkhedcaaGreatDoor
open Go.RowKit
def InstRes (g t : List Nd) (bs : List (Int × List Nd)) (b : Bool) : Prop :=
  (b = true → typeb g = true ∧ typeb t = true ∧ InstOk g t bs) ∧ (b = false → bs = [] ∧ (typeb g = false ∨ typeb t = false ∨ InstNo g t))
theorem type_side {t : List Nd} {m : Nat} (hm : t.length = m) (h : typeb t = true) : ∃ S ys s, Side t m S ys ∧ 0 < m ∧ ys[m - 1]? = some s ∧ s.fr = 0 ∧ span t s.fr (m - 1) = t ∧ sizesOf t = ys.map szOf := by
  unfold typeb at h
  simp only [Bool.and_eq_true, decide_eq_true_eq] at h
  obtain ⟨⟨h1, h2⟩, h3⟩ := h
  obtain ⟨h0, h6, S, ys, hA, hyl⟩ := deep_after hm h2
  obtain ⟨s, hs, hd, hr, _⟩ := deepOf_some hm h6 h0 hA
  have hf : s.fr = 0 := by
    by_cases hc : s.fr = 0 ∧ s.dp ≤ 300
    · exact hc.1
    · rw [if_neg hc] at hd; omega
  refine ⟨S, ys, s, ⟨hm, by omega, hA, h3⟩, h0, hs, hf, ?_, ?_⟩
  · unfold span
    rw [hf, List.drop_zero, List.take_of_length_le (by omega)]
  · unfold sizesOf
    rw [hm, hA]
end Go.Proofs.YtoiiibplkhedcaaGreatDoor

import Derived.Test.YtoiiibplkhedcaaGreatDoorWAX
import Derived.Shelf.RegionOpen
import Derived.TacticsInMore
import Derived.LoopNIn
import Derived.LoopIn
set_option maxRecDepth 100000
set_option maxHeartbeats 2000000
namespace Go.Proofs.YtoiiibplkhedcaaGreatDoor
open Go.RowKit Go.Shelf
attribute [local go_sem] Oper.semAt_some
def Sp.row (s : Sp) : List Value := [.int .i64 (s.fr : Int), .int .i64 (s.rt : Int), .int .i64 (s.dp : Int)]
def Qgj (ss : List Sp) : List Value := ss.flatMap Sp.row
theorem Qig (y : Sp) (ys : List Sp) : Qgj (y :: ys) = y.row ++ Qgj ys := rfl
theorem Qir (xs ys : List Sp) : Qgj (xs ++ ys) = Qgj xs ++ Qgj ys := by simp [Qgj]
theorem Qxl (ys : List Sp) (i t : Nat) (hi : i < ys.length) (ht : t < 3) : (Qgj ys)[i * 3 + t]? = (ys[i].row)[t]? := by
  induction ys generalizing i with
  | nil => simp at hi
  | cons y ys ih =>
    rw [Qig]
    cases i with
    | zero => rw [List.getElem?_append_left (by simp [Sp.row]; omega)]; simp
    | succ i =>
      rw [List.getElem?_append_right (by simp [Sp.row]; omega)]
      have e : (i + 1) * 3 + t - y.row.length = i * 3 + t := by simp [Sp.row]; omega
      rw [e, ih i (by simpa using hi)]
      simp
theorem Qtx (ys : List Sp) (m : Nat) : (Qgj ys).take (m * 3) = Qgj (ys.take m) := by
  induction ys generalizing m with
  | nil => simp [Qgj]
  | cons y ys ih =>
    cases m with
    | zero => simp [Qgj]
    | succ m =>
      rw [Qig, List.take_succ_cons, Qig, ← ih m, List.take_append]
      have e1 : y.row.take ((m + 1) * 3) = y.row := List.take_of_length_le (by simp [Sp.row]; omega)
      have e2 : (m + 1) * 3 - y.row.length = m * 3 := by simp [Sp.row]; omega
      rw [e1, e2]
def Free (w : World) (B g l cap : Nat) (S : List Sp) : Prop := S.length = l ∧ w.ownsRow B 199 3 (.slice (some ⟨g, 0, none⟩) l cap) l (Qgj S)
theorem Free.at {w : World} {B g l cap : Nat} {S : List Sp} (h : Free w B g l cap S) (i : Nat) (hi : i < S.length) : SpAt w g (i * 3) S[i] := by
  have hl := h.1
  have c : ∀ t, t < 3 → w.cell? ⟨g, i * 3 + t, none⟩ = (S[i].row)[t]? := fun t ht => (Qdu h.2 (i * 3 + t) (by omega)).trans (Qxl S i t hi ht)
  exact ⟨c 0 (by omega), c 1 (by omega), c 2 (by omega)⟩
theorem Free.drop {w : World} {B g l cap : Nat} {S : List Sp} (h : Free w B g l cap S) (m : Nat) : Sps w (some ⟨g, m * 3, none⟩) (S.drop m) := by
  intro i hi
  have hi' : m + i < S.length := by simp at hi; omega
  refine ⟨g, m * 3, rfl, ?_⟩
  have := h.at (m + i) hi'
  rw [List.getElem_drop]
  have e : (m + i) * 3 = m * 3 + i * 3 := by omega
  rw [e] at this
  exact this
theorem Free.cap {w : World} {B g l cap : Nat} {S : List Sp} (h : Free w B g l cap S) : l ≤ cap ∧ B ≤ g ∧ g < w.heap.size := by
  rcases h.2.2 with ⟨h', _⟩ | ⟨g2, cap2, cur, he, hb, hh, hnc, r⟩
  · cases h'
  · simp only [Value.slice.injEq, Option.some.injEq, Addr.mk.injEq, and_true, true_and] at he
    obtain ⟨rfl, rfl⟩ := he
    exact ⟨hnc, hb, (Array.getElem?_eq_some_iff.1 hh).1⟩
theorem Free.take {w : World} {B g l cap : Nat} {S : List Sp} (h : Free w B g l cap S) (m : Nat) (hm : m ≤ l) : Free w B g m cap (S.take m) := by
  refine ⟨by have := h.1; simp; omega, ?_⟩
  rw [← Qtx]
  exact Qdt h.2 m hm
theorem Free.but {P : Nat → Prop} {w w' : World} {B g l cap : Nat} {S : List Sp} (h : Free w B g l cap S) (hb : But P w w') (hne : ¬ P g) : Free w' B g l cap S := ⟨h.1, Qah h.2 hb hne⟩
theorem Free.below {w w' : World} {B g l cap : Nat} {S : List Sp} (h : Free w B g l cap S) (hb : Below w.heap.size w w') : Free w' B g l cap S := h.but (P := fun _ => False) (But.ofBelow hb) (fun h => h)
theorem Qpp {S : List Sp} {k : Nat} (h : Jcq S k) : S.length ≤ k := by
  have key : ∀ j (hj : j < S.length), j ≤ S[j].rt := by
    intro j
    induction j with
    | zero => intro _; omega
    | succ j ih =>
      intro hj
      have h1 := ih (by omega)
      have h2 := h.2.1 j hj
      have h3 := (h.1 (j + 1) hj).1
      omega
  by_cases h0 : S.length = 0
  · omega
  · have h1 := key (S.length - 1) (by omega)
    have h2 := (h.1 (S.length - 1) (by omega)).2
    omega
theorem Qto (w : World) (s : Sp) : ∀ j u, s.row[j]? = some u →
    (w.alloc (.cells #[.int .i64 (s.fr : Int), .int .i64 (s.rt : Int), .int .i64 (s.dp : Int)] 199)).cell? (Addr.add ⟨w.heap.size, 0, none⟩ j) = some u := by
  intro j u hj
  have ad : Addr.add ⟨w.heap.size, 0, none⟩ j = ⟨w.heap.size, j, none⟩ := by
    unfold Addr.add
    split
    · simp_all
    · simp
  rw [ad, cell_of_row _ w.heap.size j _ 199 (0, 0) (heap_alloc_new _ _), ← hj]
  simp [Sp.row]
theorem Qok (w : World) (s : Sp) : ∀ j u, s.row[j]? = some u →
    ((w.alloc (.cells #[.int .i64 (s.fr : Int), .int .i64 (s.rt : Int), .int .i64 (s.dp : Int)] 199)).drew).cell? (Addr.add ⟨w.heap.size, 0, none⟩ j) = some u := Qto w s
theorem Qrw (s : Sp) : ∀ u ∈ s.row, u.oneCell' = true := by
  intro u hu
  simp [Sp.row] at hu
  rcases hu with rfl | rfl | rfl <;> rfl
theorem Qvf (ao : Option Addr) (n cap : Nat) (w : World) :
    Calls Tryz.prog 111 #[.slice ao n cap] w fun e w' => e = .returned (.func (.func 124) #[] #[.pointer (some ⟨w.heap.size, 0, none⟩)]) ∧ w' = w.alloc (.cells #[.slice ao n cap] 23) := by
  go_enter Tryz.func111, Tryz.ntmps111
  go_wp2
  go_ret
  exact ⟨rfl, rfl⟩
theorem Tryz.infoSp : (Tryz.prog.info? 199).map (fun i => (i.zero, i.size, i.bytes)) = some (some (.agg #[.int .i64 0, .int .i64 0, .int .i64 0]), 3, 24) := by kernel_rfl
def Came (t : List Nd) (xs : List Sp) : Prop := ∃ k S, Qag t k = some (S, xs) ∧ (k = t.length ∨ Qag t (k + 1) = none)
def Part (t : List Nd) (xs : List Sp) : Prop := ∃ k S, Qag t k = some (S, xs)
def Qua (s : Sp) : Array Value := #[.agg #[.int .i64 (s.fr : Int), .int .i64 (s.rt : Int), .int .i64 (s.dp : Int)]]
theorem Qpb {U : Nat → Prop} {B g : Nat} {W w4 : World} {o : Obj} (hgrow : (W.alloc o).drew.grownBy w4 (some g)) (hg : B ≤ g) (hu : ¬ U g) : But (fun k => B ≤ k ∧ ¬ U k) W w4 := by
  have hA : Below W.heap.size W (W.alloc o).drew := ((Below.refl _ W).alloc (Nat.le_refl _) o).drew
  refine ⟨hgrow.os.trans hA.os, hgrow.tape.trans hA.tape, hgrow.output.trans hA.output, Nat.le_trans hA.size hgrow.size, ?_⟩
  intro k hk hn
  refine (hgrow.block k (Nat.lt_of_lt_of_le hk hA.size) ?_).trans (hA.block k hk)
  intro e
  cases e
  exact hn ⟨hg, hu⟩
theorem Qqf (t : List Nd) (m : Nat) (HM : Hid (t.length = m)) (hm : m ≤ 60000) (ao : Option Addr) (cap Bn n₀ n : Nat) (w : World) (hn₀ : n₀ ≤ w.heap.size) (hBn : Bn < w.heap.size) (hbox : w.cell? ⟨Bn, 0, none⟩ = some (.slice ao m cap))
    (w00 : World) (hsz : w00.heap.size = n₀) (hx : Nodes w00 ao t) (hw00 : Below n₀ w00 w) :
    Iter2 Fence.wide n Tryz.prog 124 #[.pointer (some ⟨Bn, 0, none⟩)] Qua (Came t) (Part t) (fun pre x => Part t (pre ++ [x])) (fun _ => True) m n₀ w := by
  intro J Jx hJ hJU hY W hW hWs h0
  obtain ⟨i0, hi, hz0, hz1, hz2⟩ := info_parts Tryz.infoSp
  have hbox1 : W.cell? ⟨Bn, 0, none⟩ = some (.slice ao m cap) := (hW.cell (p := ⟨Bn, 0, none⟩) hBn).trans hbox
  have hb0 : Below n₀ w00 W := hw00.trans (hW.mono hn₀)
  clear hbox
  refine callsIn_of_wp Tryz.func124 rfl trivial ?_
  simp only [Tryz.ntmps124, List.size_toArray, List.length_cons, List.length_nil, Nat.reduceAdd, Nat.reduceSub, Array.replicate_succ, Array.replicate_zero, List.push_toArray, List.append_toArray, List.nil_append, List.cons_append]
  have hBW : Bn < w.heap.size + 2 := by omega
  have HSZ : Hid (w00.heap.size = n₀) := hsz
  clear hsz
  gi_wp2
  gi_loopw [3, 11] (fun v p wr => ∃ (k g l c : Nat) (S ys : List Sp) (U : Nat → Prop), k ≤ m ∧ p = .int .i64 k ∧ Qag t k = some (S, ys) ∧ v = .slice (some ⟨g, 0, none⟩) l c ∧ Free wr (w.heap.size + 2) g l c S ∧ J ys U wr ∧ (¬ U g) ∧ Below n₀ w00 wr ∧ w.heap.size + 2 ≤ wr.heap.size)
    (fun _ p _ => m - (intOf p).toNat)
  case atStart =>
    refine ⟨0, w.heap.size + 2, 0, 0, [], [], fun _ => False, Nat.zero_le _, rfl, rfl, rfl, ⟨rfl, ⟨rfl, Or.inr ⟨_, 0, #[], rfl, Nat.le_refl _, ?_, Nat.le_refl _, by simp [maxLen], rfl, rfl⟩⟩⟩, hJ _ _ _ _ h0 (But.ofBelow ((Below.refl _ _).alloc (Nat.le_refl _) _)), fun h => h, hb0.alloc (by omega) _, by simp; omega⟩
    have := heap_alloc_new W (.cells #[] 199)
    rw [hWs] at this
    exact this
  case round =>
    obtain ⟨k, g, l, c, S, ys, U, hk, rfl, hst, rfl, hfree, hj, hUg, hb, hsize⟩ := hrel
    have hUl := (hJU _ _ _ hj).1
    clear hb0 h0 hbox1 hW hWs
    by_cases hlt : k < m
    · have hltk : k < t.length := by have := HM.out; omega
      obtain ⟨b, o, rfl, hn⟩ := (hx.below (hb.mono (by have := HSZ.out; omega))) k hltk
      obtain ⟨x, hxk⟩ : ∃ x, t[k] = x := ⟨_, rfl⟩
      rw [hxk] at hn
      obtain ⟨c0, c1, c2, c3, c4⟩ := hn
      have hblt : b < wr.heap.size := Qaa c0
      have HXK : Hid (t[k] = x) := hxk
      have hfine := Qaf hst
      have hSl := Qpp hfine.chain
      have HST : Hid (Qag t k = some (S, ys)) := hst
      have HF : Hid (Fine k S ys) := hfine
      have HSL : Hid (S.length = l) := hfree.1
      have hlk : l ≤ k := by have := hfree.1; omega
      clear hx hxk hfine hst hSl
      by_cases hbad : x.kids < 0 ∨ (l : Int) < x.kids
      · have HE : Hid (Came t ys) := by
          refine ⟨k, S, HST.out, Or.inr (Qlz HST.out hltk ?_)⟩
          rw [HXK.out]
          exact Qno (by have := HSL.out; rw [this]; exact hbad)
        have hj2 := hJ _ _ _ _ hj (But.ofBelow ((Below.refl _ wr).alloc (Nat.le_refl _) (.cells #[.int .i64 x.kind, .int .i64 x.num, .string x.text, .int .i64 x.kids, .int .i64 x.place] 43)))
        by_cases hneg : x.kids < 0
        · gi_wp2
          refine bodyPost_ret (results_none rfl _ _ _) rfl ?_
          first | exact ⟨⟨_, rfl⟩, .inl ⟨ys, HE.out, U, hj2⟩⟩ | exact ⟨⟨_, rfl⟩, .inl ⟨ys, U, HE.out, hj2⟩⟩
        · have hgt : (l : Int) < x.kids := by omega
          gi_wp2
          refine bodyPost_ret (results_none rfl _ _ _) rfl ?_
          first | exact ⟨⟨_, rfl⟩, .inl ⟨ys, HE.out, U, hj2⟩⟩ | exact ⟨⟨_, rfl⟩, .inl ⟨ys, U, HE.out, hj2⟩⟩
      · obtain ⟨q, hq⟩ : ∃ q : Nat, x.kids = (q : Int) := ⟨x.kids.toNat, by omega⟩
        have HQ : Hid (x.kids = (q : Int)) := hq
        rw [hq] at c3 hbad
        have hqS : q ≤ l := by omega
        obtain ⟨f, rfl⟩ : ∃ f, l = f + q := ⟨l - q, by omega⟩
        clear hq hbad
        have hcap := hfree.cap
        have hff : f < c ∨ (c = f ∧ q = 0) := by omega
        have HDL : Hid ((S.drop f).length = q) := by have := HSL.out; show (S.drop f).length = q; simp; omega
        have HDD : Hid (∀ y ∈ S.drop f, y.dp ≤ 60000) := by
          intro y hy
          obtain ⟨j, hj, rfl⟩ := List.getElem_of_mem (List.mem_of_mem_drop hy)
          have h2 := HF.out.mem j hj
          obtain ⟨hlt2, he⟩ := List.getElem?_eq_some_iff.1 h2
          have h3 := HF.out.root _ hlt2
          rw [he] at h3
          have := HF.out.len
          omega
        have hA : Below wr.heap.size wr (wr.alloc (.cells #[.int .i64 x.kind, .int .i64 x.num, .string x.text, .int .i64 (q : Int), .int .i64 x.place] 43)) := (Below.refl _ wr).alloc (Nat.le_refl _) _
        have hfreeA := hfree.below hA
        have hsps := hfreeA.drop f
        have HSPS : Hid (q = 0 → S.drop f = []) := by
          intro h0
          exact List.eq_nil_of_length_eq_zero (by have := HDL.out; omega)
        obtain ⟨s, hs⟩ : ∃ s, over (S.drop f) k = s := ⟨_, rfl⟩
        have HS : Hid (over (S.drop f) k = s) := hs
        have HST2 : Hid (Qag t (k + 1) = some (S.take f ++ [s], ys ++ [s])) := by
          refine Qdm HST.out hltk ?_
          rw [HXK.out, HQ.out, Qhs (by omega) (by have := HSL.out; omega)]
          have e : S.length - ((q : Int)).toNat = f := by have := HSL.out; simp; omega
          rw [e, HS.out]
        have hyk : ys.length < m := by have := HF.out.len; omega
        clear hs
        rcases hff with hff | ⟨rfl, rfl⟩
        · gi_wp2_with fail
          refine ⟨trivial, fun h => (by cases h), callsIn_wide.2 ((Qio (S.drop f) q k HDL _ _ _ hsps (by omega) (by omega) HDD.out).mono ?_)⟩
          rintro e w1 ⟨rfl, hb1⟩
          rw [HS.out]
          have hB1 := hA.trans (hb1.mono hA.size)
          have hbx := Box3.new w1 (.int .i64 (s.fr : Int)) (.int .i64 (s.rt : Int)) (.int .i64 (s.dp : Int))
          have hB2 : Below wr.heap.size wr (w1.alloc (.cells #[.int .i64 (s.fr : Int), .int .i64 (s.rt : Int), .int .i64 (s.dp : Int)] 199)) := hB1.alloc hB1.size _
          have hf2 := hfree.below hB2
          obtain ⟨fn, tmps, assign, body, hy, hR⟩ := hY ys U s _ (hJ _ _ _ _ hj (But.ofBelow hB2)) hyk ⟨_, _, HST2.out⟩
          simp only [Qua] at hy
          have s1 : wr.heap.size ≤ w1.heap.size := hB1.size
          have hb2 := hb.trans (hB2.mono (by have := hb.size; have := HSZ.out; omega))
          clear hj hb hb1 hB1 hfree hfreeA hsps hA c0 c1 c2 c3 c4
          gi_wp2
          refine ⟨fun h => (by cases h), hR.mono ?_⟩
          rintro e W3 (⟨rfl, ⟨U', hJ3, hU3⟩, hk3⟩ | ⟨rfl, hJx3⟩)
          · have hnm : ¬ Qyh n₀ (w.heap.size + 2) U w1.heap.size := fun h => h.2.elim (fun h => by omega) (fun h => by have := hUl _ h; omega)
            have hng : ¬ Qyh n₀ (w.heap.size + 2) U g := fun h => h.2.elim (fun h => by omega) hUg
            have hUg3 : ¬ U' g := fun h => (hU3 g h).elim hUg (fun h => by have := hcap.2.2; have := hB2.size; omega)
            have hUl3 := (hJU _ _ _ hJ3).1
            have hbx3 : Box3 W3 w1.heap.size (.int .i64 (s.fr : Int)) (.int .i64 (s.rt : Int)) (.int .i64 (s.dp : Int)) := (hk3.block _ hbx.lt hnm).trans hbx
            have hf3 := (hf2.but hk3 hng).take f (by omega)
            have hb3 : Below n₀ w00 W3 := hb2.trans (hk3.below (by have := hB2.size; have := hb2.size; have := HSZ.out; omega) (fun q hq => hq.1))
            have hs3 : w.heap.size + 2 ≤ W3.heap.size := by have := hk3.size; have := hB2.size; omega
            obtain ⟨q0, q1, q2⟩ := hbx3.cells
            have hown := hf3.2
            have hfc : f ≤ c := by omega
            clear hk3 hbx hB2 hf2 hb2 hbx3 hnm hng hy hR
            gi_wp2
            refine wpIn_wide.2 ?_
            go_region_law (refine Qfl _ rfl (.tmp 42) (.tmp 44) 221 rfl (w.heap.size + 2) 199 i0 _ 3 24 Tryz.underlying221 hi hz0 hz1 hz2 rfl (by decide) g f c _ rfl ((hown.alloc _).drew) ⟨_, 0, none⟩ 1 1 s.row rfl rfl ?_ (Qrw s) ?_ ?_ ?_ ?_; exact Qok _ s; (unfold maxLen; omega); omega; (simp; omega); intro g' c' w4 hown4 hgrow4 hwh)
            have hAllB : But (fun k => w.heap.size + 2 ≤ k ∧ ¬ U' k) W3 w4 := Qpb hgrow4 hcap.2.1 hUg3
            have hUg4 : ¬ U' g' := fun h => hwh.elim (fun e => hUg3 (e ▸ h)) (fun e => by have h9 := hUl3 _ h; rw [e] at h9; simp at h9; omega)
            have hAll : Below (w.heap.size + 2) W3 w4 := (((Below.refl _ W3).alloc hs3 _).drew).grown hgrow4 (by simp; omega) (fun q hq => by cases hq; exact hcap.2.1)
            have F4 : Free w4 (w.heap.size + 2) g' (f + 1) c' (S.take f ++ [s]) := by
              refine ⟨by have := HSL.out; simp; omega, ?_⟩
              rw [Qir]
              have e : Qgj [s] = s.row := by simp [Qgj]
              rw [e]
              exact hown4
            have J4 := hJ _ _ _ _ hJ3 hAllB
            have B4 := hb3.trans (hAll.mono (by omega))
            have S4 : w.heap.size + 2 ≤ w4.heap.size := by have := hAll.size; omega
            clear hown4 hgrow4 hwh hown hAll hAllB hUl3 hUg3 hf3 hb3 hJ3 q0 q1 q2
            gi_wp2
            go_roundw
            case rel => exact ⟨k + 1, g', f + 1, c', _, _, U', by omega, by go_num, HST2.out, rfl, F4, J4, hUg4, B4, S4⟩
            case measure => simp [intOf]; omega
          · gi_wp2
            refine bodyPost_ret (results_none rfl _ _ _) rfl ?_
            exact ⟨⟨_, rfl⟩, .inr ⟨ys ++ [s], ⟨_, _, HST2.out⟩, hJx3⟩⟩
        · gi_wp2_with fail
          refine ⟨trivial, fun h => (by cases h), callsIn_wide.2 ((Qio (S.drop c) 0 k HDL _ _ _ (by have h9 : S.drop c = [] := List.eq_nil_of_length_eq_zero HDL.out; rw [h9]; intro i hi; simp at hi) (by omega) (by omega) HDD.out).mono ?_)⟩
          rintro e w1 ⟨rfl, hb1⟩
          rw [HS.out]
          have hB1 := hA.trans (hb1.mono hA.size)
          have hbx := Box3.new w1 (.int .i64 (s.fr : Int)) (.int .i64 (s.rt : Int)) (.int .i64 (s.dp : Int))
          have hB2 : Below wr.heap.size wr (w1.alloc (.cells #[.int .i64 (s.fr : Int), .int .i64 (s.rt : Int), .int .i64 (s.dp : Int)] 199)) := hB1.alloc hB1.size _
          have hf2 := hfree.below hB2
          obtain ⟨fn, tmps, assign, body, hy, hR⟩ := hY ys U s _ (hJ _ _ _ _ hj (But.ofBelow hB2)) hyk ⟨_, _, HST2.out⟩
          simp only [Qua] at hy
          have s1 : wr.heap.size ≤ w1.heap.size := hB1.size
          have hb2 := hb.trans (hB2.mono (by have := hb.size; have := HSZ.out; omega))
          clear hj hb hb1 hB1 hfree hfreeA hsps hA c0 c1 c2 c3 c4
          gi_wp2
          refine ⟨fun h => (by cases h), hR.mono ?_⟩
          rintro e W3 (⟨rfl, ⟨U', hJ3, hU3⟩, hk3⟩ | ⟨rfl, hJx3⟩)
          · have hnm : ¬ Qyh n₀ (w.heap.size + 2) U w1.heap.size := fun h => h.2.elim (fun h => by omega) (fun h => by have := hUl _ h; omega)
            have hng : ¬ Qyh n₀ (w.heap.size + 2) U g := fun h => h.2.elim (fun h => by omega) hUg
            have hUg3 : ¬ U' g := fun h => (hU3 g h).elim hUg (fun h => by have := hcap.2.2; have := hB2.size; omega)
            have hUl3 := (hJU _ _ _ hJ3).1
            have hbx3 : Box3 W3 w1.heap.size (.int .i64 (s.fr : Int)) (.int .i64 (s.rt : Int)) (.int .i64 (s.dp : Int)) := (hk3.block _ hbx.lt hnm).trans hbx
            have hf3 := (hf2.but hk3 hng).take c (by omega)
            have hb3 : Below n₀ w00 W3 := hb2.trans (hk3.below (by have := hB2.size; have := hb2.size; have := HSZ.out; omega) (fun q hq => hq.1))
            have hs3 : w.heap.size + 2 ≤ W3.heap.size := by have := hk3.size; have := hB2.size; omega
            obtain ⟨q0, q1, q2⟩ := hbx3.cells
            have hown := hf3.2
            have hfc : c ≤ c := by omega
            clear hk3 hbx hB2 hf2 hb2 hbx3 hnm hng hy hR
            gi_wp2
            refine wpIn_wide.2 ?_
            go_region_law (refine Qfl _ rfl (.tmp 42) (.tmp 44) 221 rfl (w.heap.size + 2) 199 i0 _ 3 24 Tryz.underlying221 hi hz0 hz1 hz2 rfl (by decide) g c c _ rfl ((hown.alloc _).drew) ⟨_, 0, none⟩ 1 1 s.row rfl rfl ?_ (Qrw s) ?_ ?_ ?_ ?_; exact Qok _ s; (unfold maxLen; omega); omega; (simp; omega); intro g' c' w4 hown4 hgrow4 hwh)
            have hAllB : But (fun k => w.heap.size + 2 ≤ k ∧ ¬ U' k) W3 w4 := Qpb hgrow4 hcap.2.1 hUg3
            have hUg4 : ¬ U' g' := fun h => hwh.elim (fun e => hUg3 (e ▸ h)) (fun e => by have h9 := hUl3 _ h; rw [e] at h9; simp at h9; omega)
            have hAll : Below (w.heap.size + 2) W3 w4 := (((Below.refl _ W3).alloc hs3 _).drew).grown hgrow4 (by simp; omega) (fun q hq => by cases hq; exact hcap.2.1)
            have F4 : Free w4 (w.heap.size + 2) g' (c + 1) c' (S.take c ++ [s]) := by
              refine ⟨by have := HSL.out; simp; omega, ?_⟩
              rw [Qir]
              have e : Qgj [s] = s.row := by simp [Qgj]
              rw [e]
              exact hown4
            have J4 := hJ _ _ _ _ hJ3 hAllB
            have B4 := hb3.trans (hAll.mono (by omega))
            have S4 : w.heap.size + 2 ≤ w4.heap.size := by have := hAll.size; omega
            clear hown4 hgrow4 hwh hown hAll hAllB hUl3 hUg3 hf3 hb3 hJ3 q0 q1 q2
            gi_wp2
            go_roundw
            case rel => exact ⟨k + 1, g', c + 1, c', _, _, U', by omega, by go_num, HST2.out, rfl, F4, J4, hUg4, B4, S4⟩
            case measure => simp [intOf]; omega
          · gi_wp2
            refine bodyPost_ret (results_none rfl _ _ _) rfl ?_
            exact ⟨⟨_, rfl⟩, .inr ⟨ys ++ [s], ⟨_, _, HST2.out⟩, hJx3⟩⟩
    · have HE : Hid (Came t ys) := ⟨k, S, hst, Or.inl (by have := HM.out; omega)⟩
      clear hx hfree
      gi_wp2
      go_end0
      exact ⟨⟨_, rfl⟩, .inl ⟨ys, U, HE.out, hj⟩⟩
theorem Qsv (t : List Nd) (m : Nat) (HM : Hid (t.length = m)) (hm : m ≤ 60000) (ao : Option Addr) (cap Bn n₀ n : Nat) (w : World) (hn₀ : n₀ ≤ w.heap.size) (hBn : Bn < w.heap.size) (hbox : w.cell? ⟨Bn, 0, none⟩ = some (.slice ao m cap))
    (w00 : World) (hsz : w00.heap.size = n₀) (hx : Nodes w00 ao t) (hw00 : Below n₀ w00 w) :
    Iter Fence.wide n Tryz.prog 124 #[.pointer (some ⟨Bn, 0, none⟩)] Qua (Came t) (Part t) (fun pre x => Part t (pre ++ [x])) (fun _ => True) m n₀ w :=
  (Qqf t m HM hm ao cap Bn n₀ n w hn₀ hBn hbox w00 hsz hx hw00).iter
end Go.Proofs.YtoiiibplkhedcaaGreatDoor
namespace Go.Proofs.YtoiiibplkhedcaaGreatDoor
open Go.RowKit Go.Shelf
attribute [local go_sem] Oper.semAt_some
def Qdv (xs : List Sp) : Sp := xs.getLast?.getD ⟨0, 0, 0⟩
theorem Qrd (xs : List Sp) (s : Sp) : Qdv (xs ++ [s]) = s := by simp [Qdv]
def rawDeep (t : List Nd) : Nat :=
  match Qag t t.length with
  | none => 0
  | some (_, ys) => match ys.getLast? with
    | none => 0
    | some s => if s.fr = 0 then s.dp else 0
theorem Quc (t : List Nd) : deepOf t = if 6000 < t.length ∨ 300 < rawDeep t then 0 else rawDeep t := by
  unfold deepOf rawDeep
  by_cases h : 6000 < t.length
  · rw [if_pos h, if_pos (.inl h)]
  · rw [if_neg h]
    cases Qag t t.length with
    | none => simp
    | some p =>
      obtain ⟨S, ys⟩ := p
      simp only
      cases ys.getLast? with
      | none => simp
      | some s =>
        simp only
        by_cases h1 : s.fr = 0
        · by_cases h2 : s.dp ≤ 300
          · rw [if_pos ⟨h1, h2⟩, if_pos h1, if_neg (by omega)]
          · rw [if_neg (by omega), if_pos h1, if_pos (by omega)]
        · rw [if_neg (by omega), if_neg h1]; simp
theorem Qxt {t : List Nd} {xs : List Sp} (h : Came t xs) :
    rawDeep t = if (Qdv xs).fr ≠ 0 ∨ ((Qdv xs).rt : Int) ≠ (t.length : Int) - 1 then 0 else (Qdv xs).dp := by
  obtain ⟨k, S, ha, hk⟩ := h
  have hf := Qaf ha
  have hle := Qee ha
  unfold rawDeep
  by_cases hkl : k = t.length
  · subst hkl
    rw [ha]
    simp only
    cases hx : xs.getLast? with
    | none =>
      have hx0 : xs = [] := List.getLast?_eq_none_iff.1 hx
      subst hx0
      have h0 : t.length = 0 := by have := hf.len; simpa using this.symm
      simp [Qdv, h0]
    | some s =>
      have hls : Qdv xs = s := by simp [Qdv, hx]
      rw [hls]
      have hne : xs ≠ [] := by intro e; rw [e] at hx; simp at hx
      have hlen : 0 < xs.length := List.length_pos_iff.2 hne
      have hs : xs[xs.length - 1]'(by omega) = s := by
        rw [List.getLast?_eq_getElem?, List.getElem?_eq_getElem (by omega)] at hx
        simpa using hx
      have hr := (hf.root (xs.length - 1) (by omega)).1
      rw [hs] at hr
      have hl2 := hf.len
      have hrt : ¬ ((s.rt : Int) ≠ (t.length : Int) - 1) := by omega
      simp only
      by_cases h1 : s.fr = 0
      · rw [if_pos h1, if_neg (by omega)]
      · rw [if_neg h1, if_pos (by omega)]
  · have hk : Qag t (k + 1) = none := by
      rcases hk with h | h
      · exact absurd h hkl
      · exact h
    have hn := Qlx hk t.length
    rw [hn (by omega)]
    simp only
    by_cases hk0 : k = 0
    · subst hk0
      have hx0 : xs = [] := List.eq_nil_of_length_eq_zero hf.len
      subst hx0
      simp [Qdv]
    · have hlen := hf.len
      have hx : xs.getLast? = some (xs[xs.length - 1]'(by omega)) := by
        rw [List.getLast?_eq_getElem?, List.getElem?_eq_getElem (by omega)]
      have hls : Qdv xs = xs[xs.length - 1]'(by omega) := by simp [Qdv, hx]
      have hr := (hf.root (xs.length - 1) (by omega)).1
      rw [← hls] at hr
      rw [if_pos (by right; omega)]
theorem Qkv (t : List Nd) (m : Nat) (HM : Hid (t.length = m)) (hm : m ≤ 60000) (ao : Option Addr) (cap : Nat) (w : World) (hx : Nodes w ao t) :
    Calls Tryz.prog 98 #[.slice ao m cap] w fun e w' => e = .returned (.int .i64 (rawDeep t : Int)) ∧ Below w.heap.size w w' := by
  obtain ⟨n, hn⟩ : ∃ n : Nat, 6 ≤ n := ⟨6, Nat.le_refl _⟩
  refine (callsIn_wide (n := n)).1 ?_
  refine callsIn_of_wp_marks Tryz.func98 rfl trivial ?_
  simp only [Tryz.ntmps98, List.size_toArray, List.length_cons, List.length_nil, Nat.reduceAdd, Nat.reduceSub, Array.replicate_succ, Array.replicate_zero, List.push_toArray, List.append_toArray, List.nil_append, List.cons_append]
  gi_wp2_with fail
  refine ⟨trivial, fun h => (by cases h), callsIn_wide.2 ((Qvf ao m cap _).mono ?_)⟩
  rintro e w1 ⟨rfl, rfl⟩
  gi_wp2
  obtain ⟨W1, hW1⟩ : ∃ W1, ((w.alloc (Obj.cells #[Value.int IntKind.i64 0, Value.int IntKind.i64 0, Value.int IntKind.i64 0] 199)).alloc (.cells #[.slice ao m cap] 23)) = W1 := ⟨_, rfl⟩
  have hB1 : Below w.heap.size w W1 := by rw [← hW1]; exact ((Below.refl _ w).alloc (Nat.le_refl _) _).alloc (by simp) _
  have hs1 : W1.heap.size = w.heap.size + 2 := by rw [← hW1]; simp
  have bL : Box3 W1 w.heap.size (.int .i64 0) (.int .i64 0) (.int .i64 0) := by rw [← hW1]; exact (Box3.new w _ _ _).alloc _
  have bT : W1.cell? ⟨w.heap.size + 1, 0, none⟩ = some (.slice ao m cap) := by
    rw [← hW1]
    have := cell_of_row ((w.alloc (Obj.cells #[Value.int IntKind.i64 0, Value.int IntKind.i64 0, Value.int IntKind.i64 0] 199)).alloc (.cells #[.slice ao m cap] 23)) (w.heap.size + 1) 0 #[.slice ao m cap] 23 (0, 0) (by have := heap_alloc_new (w.alloc (Obj.cells #[Value.int IntKind.i64 0, Value.int IntKind.i64 0, Value.int IntKind.i64 0] 199)) (.cells #[.slice ao m cap] 23); rw [World.size_alloc] at this; exact this)
    rw [this]; rfl
  try rw [hW1]
  clear hW1
  refine Qlc (α := Sp) rfl (by omega) (gf := 124) (lb := #[.pointer (some ⟨w.heap.size + 1, 0, none⟩)]) rfl trivial (enters_of Tryz.func124 (by kernel_rfl) rfl)
    (encs := Qua) w.heap.size hB1.size (Qsv t m HM hm ao cap (w.heap.size + 1) w.heap.size (n - 1) W1 hB1.size (by omega) bT w rfl hx hB1) (fun _ => rfl)
    (fun pre W => Box3 W w.heap.size (.int .i64 ((Qdv pre).fr : Int)) (.int .i64 ((Qdv pre).rt : Int)) (.int .i64 ((Qdv pre).dp : Int)) ∧ Below w.heap.size w W)
    (fun _ _ _ => False) ?hI (fun _ _ _ _ h _ => h) (fun _ _ _ => trivial) ⟨bL, hB1⟩ ?round ?done (fun _ _ _ _ h _ => h.elim)
  case hI =>
    rintro s A C ⟨h1, h2⟩ hb
    exact ⟨(hb.block _ (by omega)).trans h1, h2.trans (hb.mono (by omega))⟩
  case round =>
    rintro pre s W ⟨hbx, hb⟩ hlen _ hsz
    simp only [Qua]
    gi_wp2
    refine ⟨But.ofBelow ((Below.refl _ W).alloc (Nat.le_refl _) _), ?_⟩
    intro Wb hWb
    have bs : Box3 Wb W.heap.size (.int .i64 (s.fr : Int)) (.int .i64 (s.rt : Int)) (.int .i64 (s.dp : Int)) := (hWb.block W.heap.size (by simp) (by omega)).trans (Box3.new W _ _ _)
    have bl := (hWb.block w.heap.size (by have := hbx.lt; simp; omega) (by omega)).trans (hbx.alloc (Obj.cells #[Value.int IntKind.i64 ↑s.fr, Value.int IntKind.i64 ↑s.rt, Value.int IntKind.i64 ↑s.dp] 199))
    have hbb : Below w.heap.size w Wb := (hb.alloc hb.size _).trans (hWb.below (by have := hb.size; simp; omega) (fun k hk => by omega))
    have bl' : Box3 Wb w.heap.size _ _ _ := bl
    obtain ⟨p0, p1, p2⟩ := bs.cells
    obtain ⟨q0, q1, q2⟩ := bl'.cells
    have f0 := bl'.frozen 0
    have f1 := bl'.frozen 1
    have f2 := bl'.frozen 2
    have hfin : Box3 (((Wb.setCell ⟨w.heap.size, 0, none⟩ (.int .i64 (s.fr : Int))).setCell ⟨w.heap.size, 1, none⟩ (.int .i64 (s.rt : Int))).setCell ⟨w.heap.size, 2, none⟩ (.int .i64 (s.dp : Int))) w.heap.size (.int .i64 (s.fr : Int)) (.int .i64 (s.rt : Int)) (.int .i64 (s.dp : Int)) := ((bl'.set0 _).set1 _).set2 _
    have hmine : Mine w.heap.size W1.heap.size w.heap.size := ⟨Nat.le_refl _, by omega⟩
    have hbut : But (Mine w.heap.size W1.heap.size) Wb (((Wb.setCell ⟨w.heap.size, 0, none⟩ (.int .i64 (s.fr : Int))).setCell ⟨w.heap.size, 1, none⟩ (.int .i64 (s.rt : Int))).setCell ⟨w.heap.size, 2, none⟩ (.int .i64 (s.dp : Int))) :=
      (((But.refl _ Wb).setCell (p := ⟨w.heap.size, 0, none⟩) hmine _).setCell (p := ⟨w.heap.size, 1, none⟩) hmine _).setCell (p := ⟨w.heap.size, 2, none⟩) hmine _
    have hbel : Below w.heap.size w (((Wb.setCell ⟨w.heap.size, 0, none⟩ (.int .i64 (s.fr : Int))).setCell ⟨w.heap.size, 1, none⟩ (.int .i64 (s.rt : Int))).setCell ⟨w.heap.size, 2, none⟩ (.int .i64 (s.dp : Int))) :=
      ((hbb.setCell (p := ⟨w.heap.size, 0, none⟩) (Nat.le_refl _) _).setCell (p := ⟨w.heap.size, 1, none⟩) (Nat.le_refl _) _).setCell (p := ⟨w.heap.size, 2, none⟩) (Nat.le_refl _) _
    clear hbx hb bl bl' bs hbb hmine hWb
    gi_wp2
    exact ⟨hbut, by rw [Qrd]; exact hfin, hbel⟩
  case done =>
    rintro xs W hcame ⟨hbx, hb⟩ hK
    have HD := Qxt hcame
    obtain ⟨L, hL⟩ : ∃ L, Qdv xs = L := ⟨_, rfl⟩
    rw [hL] at hbx HD
    rw [HM.out] at HD
    have HDD : Hid (rawDeep t = if L.fr ≠ 0 ∨ (L.rt : Int) ≠ (m : Int) - 1 then 0 else L.dp) := HD
    obtain ⟨q0, q1, q2⟩ := hbx.cells
    clear HD hcame hL
    have hput : Below w.heap.size w (W.putObj W1.heap.size (.deferred none)) := hb.trans ((But.putObj (S := (· = W1.heap.size)) W _ _ rfl).below hb.size (fun k hk => by omega))
    clear hs1 hB1 bL bT
    by_cases h1 : L.fr = 0
    · by_cases h2 : (L.rt : Int) = (m : Int) - 1
      · have HV : Hid (rawDeep t = L.dp) := by rw [HDD.out, if_neg (by omega)]; rfl
        clear hbx hb
        gi_wp2
        refine ⟨by simp, .inl ⟨_, _, rfl, run_takeDeferred hK, ?_⟩⟩
        exact ⟨_, results_tmp rfl _ _ _, by rw [HV.out]; rfl, hput⟩
      · have HV : Hid (rawDeep t = 0) := by rw [HDD.out, if_pos (by omega)]; rfl
        clear hbx hb
        gi_wp2
        refine ⟨by simp, .inl ⟨_, _, rfl, run_takeDeferred hK, ?_⟩⟩
        exact ⟨_, results_tmp rfl _ _ _, by rw [HV.out]; rfl, hput⟩
    · have HV : Hid (rawDeep t = 0) := by rw [HDD.out, if_pos (by omega)]; rfl
      have h1' : ¬ ((L.fr : Int) = 0) := by omega
      clear hbx hb
      gi_wp2
      refine ⟨by simp, .inl ⟨_, _, rfl, run_takeDeferred hK, ?_⟩⟩
      exact ⟨_, results_tmp rfl _ _ _, by rw [HV.out]; rfl, hput⟩
theorem Qoy (t : List Nd) (m : Nat) (HM : Hid (t.length = m)) (hm : m ≤ 1048576) (ao : Option Addr) (cap : Nat) (w : World) (hx : Nodes w ao t) :
    Calls Tryz.prog 75 #[.slice ao m cap] w fun e w' => e = .returned (.int .i64 (deepOf t : Int)) ∧ Below w.heap.size w w' := by
  by_cases h : m ≤ 6000
  · have HV : Hid (deepOf t = if 300 < rawDeep t then 0 else rawDeep t) := by
      show deepOf t = _
      rw [Quc]
      have := HM.out
      by_cases h3 : 300 < rawDeep t
      · rw [if_pos (.inr h3), if_pos h3]
      · rw [if_neg (by omega), if_neg h3]
    go_enter Tryz.func75, Tryz.ntmps75
    go_wp2_with fail
    refine (Qkv t m HM (by omega) ao cap w hx).mono ?_
    rintro e w1 ⟨rfl, hb⟩
    obtain ⟨d, hd⟩ : ∃ d, rawDeep t = d := ⟨_, rfl⟩
    rw [hd] at HV ⊢
    clear hx hd
    by_cases h3 : 300 < d
    · rw [if_pos h3] at HV
      go_wp2
      go_ret
      exact ⟨by rw [HV.out]; rfl, hb⟩
    · rw [if_neg h3] at HV
      go_wp2
      go_ret
      exact ⟨by rw [HV.out]; rfl, hb⟩
  · have HV : Hid (deepOf t = 0) := by
      show deepOf t = 0
      unfold deepOf
      rw [if_pos (by have := HM.out; omega)]
    clear hx
    go_enter Tryz.func75, Tryz.ntmps75
    go_wp2
    go_ret
    exact ⟨by rw [HV.out]; rfl, Below.refl _ _⟩
theorem Qox (t : List Nd) (m : Nat) (HM : Hid (t.length = m)) (hm : m ≤ 1048576) (ao : Option Addr) (cap : Nat) (w : World) (hx : Nodes w ao t) :
    Calls Tryz.prog 42 #[.slice ao m cap] w fun e w' => e = .returned (.bool (decide (0 < deepOf t))) ∧ Below w.heap.size w w' := by
  go_enter Tryz.func42, Tryz.ntmps42
  go_wp2_with fail
  refine (Qoy t m HM hm ao cap w hx).mono ?_
  rintro e w1 ⟨rfl, hb⟩
  obtain ⟨d, hd⟩ : ∃ d, deepOf t = d := ⟨_, rfl⟩
  rw [hd]
  have HD : Hid (deepOf t = d) := hd
  clear hx hd
  go_wp2
  go_ret
  exact ⟨by rw [HD.out]; simp, hb⟩
end Go.Proofs.YtoiiibplkhedcaaGreatDoor

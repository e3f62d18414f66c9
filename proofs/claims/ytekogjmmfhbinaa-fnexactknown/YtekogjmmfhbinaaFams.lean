import Derived.Test.YtekogjmmfhbinaaWAO
import Derived.Test.YtekogjmmfhbinaaLoopW
import Derived.Stop.RegionWithIn
namespace Go.Proofs.Ytekogjmmfhbinaa

open Go.RowKit Go.Shelf

theorem Try.infoNd : (Try.prog.info? 39).map (fun i => (i.zero, i.size, i.bytes)) = some (some (.agg #[.int .i64 0, .int .i64 0, .string ByteArray.empty, .int .i64 0, .int .i64 0]), 5, 48) := by kernel_rfl

theorem flat_take (ys : List Nd) (m : Nat) : (flat ys).take (m * 5) = flat (ys.take m) := by
  induction ys generalizing m with
  | nil => simp [flat]
  | cons y ys ih =>
    cases m with
    | zero => simp [flat]
    | succ m =>
      rw [flat_cons, List.take_succ_cons, flat_cons, ← ih m, List.take_append]
      have e1 : y.row.take ((m + 1) * 5) = y.row := List.take_of_length_le (by simp [Nd.row]; omega)
      have e2 : (m + 1) * 5 - y.row.length = m * 5 := by simp [Nd.row]; omega
      rw [e1, e2]

/-- A slice of the iterator's own that holds the roots that are free. -/
def FreeN (w : World) (B g l cap : Nat) (S : List Nd) : Prop := S.length = l ∧ w.ownsRow B 39 5 (.slice (some ⟨g, 0, none⟩) l cap) l (flat S)

theorem FreeN.at {w : World} {B g l cap : Nat} {S : List Nd} (h : FreeN w B g l cap S) (i : Nat) (hi : i < S.length) : NodeAt w g (i * 5) S[i] := by
  have hl := h.1
  have c : ∀ t, t < 5 → w.cell? ⟨g, i * 5 + t, none⟩ = (S[i].row)[t]? := fun t ht => (owns_at h.2 (i * 5 + t) (by omega)).trans (flat_get S i t hi ht)
  exact ⟨c 0 (by omega), c 1 (by omega), c 2 (by omega), c 3 (by omega), c 4 (by omega)⟩

theorem FreeN.drop {w : World} {B g l cap : Nat} {S : List Nd} (h : FreeN w B g l cap S) (m : Nat) : Nodes w (some ⟨g, m * 5, none⟩) (S.drop m) := by
  intro i hi
  have hi' : m + i < S.length := by simp at hi; omega
  refine ⟨g, m * 5, rfl, ?_⟩
  have := h.at (m + i) hi'
  rw [List.getElem_drop]
  have e : (m + i) * 5 = m * 5 + i * 5 := by omega
  rw [e] at this
  exact this

theorem FreeN.cap {w : World} {B g l cap : Nat} {S : List Nd} (h : FreeN w B g l cap S) : l ≤ cap ∧ B ≤ g ∧ g < w.heap.size := by
  rcases h.2.2 with ⟨h', _⟩ | ⟨g2, cap2, cur, he, hb, hh, hnc, r⟩
  · cases h'
  · simp only [Value.slice.injEq, Option.some.injEq, Addr.mk.injEq, and_true, true_and] at he
    obtain ⟨rfl, rfl⟩ := he
    exact ⟨hnc, hb, (Array.getElem?_eq_some_iff.1 hh).1⟩

theorem FreeN.take {w : World} {B g l cap : Nat} {S : List Nd} (h : FreeN w B g l cap S) (m : Nat) (hm : m ≤ l) : FreeN w B g m cap (S.take m) := by
  refine ⟨by have := h.1; simp; omega, ?_⟩
  rw [← flat_take]
  exact owns_take h.2 m hm

theorem FreeN.but {P : Nat → Prop} {w w' : World} {B g l cap : Nat} {S : List Nd} (h : FreeN w B g l cap S) (hb : But P w w') (hne : ¬ P g) : FreeN w' B g l cap S := ⟨h.1, owns_but h.2 hb hne⟩

theorem FreeN.below {w w' : World} {B g l cap : Nat} {S : List Nd} (h : FreeN w B g l cap S) (hb : Below w.heap.size w w') : FreeN w' B g l cap S := h.but (P := fun _ => False) (But.ofBelow hb) (fun h => h)

theorem new5_cells (w : World) (s : Nd) : ∀ j u, s.row[j]? = some u →
    (w.alloc (.cells #[.int .i64 s.kind, .int .i64 s.num, .string s.text, .int .i64 s.kids, .int .i64 s.place] 39)).cell? (Addr.add ⟨w.heap.size, 0, none⟩ j) = some u := by
  intro j u hj
  have ad : Addr.add ⟨w.heap.size, 0, none⟩ j = ⟨w.heap.size, j, none⟩ := by
    unfold Addr.add
    split
    · simp_all
    · simp
  rw [ad, cell_of_row _ w.heap.size j _ 39 (0, 0) (heap_alloc_new _ _), ← hj]
  simp [Nd.row]

theorem new5_drew (w : World) (s : Nd) : ∀ j u, s.row[j]? = some u →
    ((w.alloc (.cells #[.int .i64 s.kind, .int .i64 s.num, .string s.text, .int .i64 s.kids, .int .i64 s.place] 39)).drew).cell? (Addr.add ⟨w.heap.size, 0, none⟩ j) = some u := new5_cells w s

theorem row5_one (s : Nd) : ∀ u ∈ s.row, u.oneCell' = true := by
  intro u hu
  simp [Nd.row] at hu
  rcases hu with rfl | rfl | rfl | rfl | rfl <;> rfl

theorem families_any (ao : Option Addr) (n cap : Nat) (w : World) :
    Calls Try.prog 48 #[.slice ao n cap] w fun e w' =>
      e = .returned (.func (.func 59) #[] #[.pointer (some ⟨w.heap.size, 0, none⟩)]) ∧ w' = w.alloc (.cells #[.slice ao n cap] 28) := by
  go_enter Try.func48, Try.ntmps48
  go_wp2
  go_ret
  exact ⟨rfl, rfl⟩

/-- What comes: a node, the roots of its kids, and where these lie. -/
structure Fm where
  n : Nd
  ks : List Nd
  ao : Option Addr
  q : Nat
  c : Nat

def encFm (x : Fm) : Array Value := #[.agg #[.int .i64 x.n.kind, .int .i64 x.n.num, .string x.n.text, .int .i64 x.n.kids, .int .i64 x.n.place], .slice x.ao x.q x.c]

/-- What is told of the next one. -/
def FamFit (t : List Nd) (B : Nat) (pre : List Fm) (x : Fm) (W : World) : Prop := x.n = ndAt t pre.length ∧ x.ks = kidsN t pre.length ∧ x.ks.length = x.q ∧ x.q ≤ 60000 ∧ x.q ≤ x.c ∧ (∀ a, x.ao = some a → B ≤ a.block) ∧ Nodes W x.ao x.ks

theorem grownN {B g : Nat} {W w4 : World} {o : Obj} (hgrow : (W.alloc o).drew.grownBy w4 (some g)) (hB : B ≤ W.heap.size) (hg : B ≤ g) : Below B W w4 :=
  (((Below.refl _ W).alloc hB _).drew).grown hgrow (by simp; omega) (fun q hq => by cases hq; exact hg)

set_option maxRecDepth 100000 in
set_option maxHeartbeats 2000000 in
theorem fams_any (t : List Nd) (m : Nat) (HM : Hid (t.length = m)) (hm : m ≤ 60000) (HA : Hid (∃ S ys, after t m = some (S, ys))) (ao : Option Addr) (cap Bn n₀ n : Nat) (w : World) (hn₀ : n₀ ≤ w.heap.size) (hBn : Bn < w.heap.size) (hbox : w.cell? ⟨Bn, 0, none⟩ = some (.slice ao m cap))
    (w00 : World) (hsz : w00.heap.size = n₀) (hx : Nodes w00 ao t) (hw00 : Below n₀ w00 w) :
    IterW Fence.wide n Try.prog 59 #[.pointer (some ⟨Bn, 0, none⟩)] encFm (fun xs => xs.length = m) (fun pre => pre.length ≤ m) (FamFit t (w.heap.size + 2)) (fun _ => True) m n₀ w := by
  intro J Jx hJ hJU hY W hW hWs h0
  obtain ⟨i0, hi, hz0, hz1, hz2⟩ := info_parts Try.infoNd
  have hbox1 : W.cell? ⟨Bn, 0, none⟩ = some (.slice ao m cap) := (hW.cell (p := ⟨Bn, 0, none⟩) hBn).trans hbox
  have hb0 : Below n₀ w00 W := hw00.trans (hW.mono hn₀)
  clear hbox
  refine callsIn_of_wp Try.func59 rfl trivial ?_
  simp only [Try.ntmps59, List.size_toArray, List.length_cons, List.length_nil, Nat.reduceAdd, Nat.reduceSub, Array.replicate_succ, Array.replicate_zero, List.push_toArray, List.append_toArray, List.nil_append, List.cons_append]
  have hBW : Bn < w.heap.size + 2 := by omega
  have HSZ : Hid (w00.heap.size = n₀) := hsz
  clear hsz
  gi_wp2
  gi_loopw [3, 10] (fun v p wr => ∃ (k g l c : Nat) (F : List Nd) (xs : List Fm), k ≤ m ∧ p = .int .i64 k ∧ fam t k = F ∧ xs.length = k ∧ v = .slice (some ⟨g, 0, none⟩) l c ∧ FreeN wr (w.heap.size + 2) g l c F ∧ J xs wr ∧ Below n₀ w00 wr ∧ w.heap.size + 2 ≤ wr.heap.size)
    (fun _ p _ => m - (intOf p).toNat)
  case atStart =>
    refine ⟨0, w.heap.size + 2, 0, 0, [], [], Nat.zero_le _, rfl, rfl, rfl, rfl, ⟨rfl, ⟨rfl, Or.inr ⟨_, 0, #[], rfl, Nat.le_refl _, ?_, Nat.le_refl _, by simp [maxLen], rfl, rfl⟩⟩⟩, hJ _ _ _ h0 ((Below.refl _ _).alloc (by omega) _), hb0.alloc (by omega) _, by simp; omega⟩
    have := heap_alloc_new W (.cells #[] 39)
    rw [hWs] at this
    exact this
  case round =>
    obtain ⟨k, g, l, c, F, xs, hk, rfl, hF, hxl, rfl, hfree, hj, hb, hsize⟩ := hrel
    clear hb0 h0 hbox1 hW hWs hJU
    by_cases hlt : k < m
    · have hltk : k < t.length := by have := HM.out; omega
      obtain ⟨b, o, rfl, hn⟩ := (hx.below (hb.mono (by have := HSZ.out; omega))) k hltk
      obtain ⟨x, hxk⟩ : ∃ x, ndAt t k = x := ⟨_, rfl⟩
      rw [← ndAt_get hltk, hxk] at hn
      obtain ⟨c0, c1, c2, c3, c4⟩ := hn
      have hblt : b < wr.heap.size := lt_of_cell c0
      have HXK : Hid (ndAt t k = x) := hxk
      have HFK : Hid (fam t k = F) := hF
      have HLF : Hid (F.length = l) := hfree.1
      have HXL : Hid (xs.length = k) := hxl
      have HR : Hid (0 ≤ x.kids ∧ x.kids ≤ l ∧ l ≤ k) := by
        obtain ⟨S, ys, hA⟩ := HA.out
        obtain ⟨Si, hSi⟩ := after_part hA k (by omega)
        obtain ⟨Sj, hSj⟩ := after_part hA (k + 1) (by omega)
        obtain ⟨S0, ys0, s, hk0, ha, hs, he⟩ := after_inv hSj
        rw [hSi] at ha
        simp only [Option.some.injEq, Prod.mk.injEq] at ha
        obtain ⟨rfl, rfl⟩ := ha
        obtain ⟨q0, q1, _, _⟩ := step_some hs
        have hl : Si.length = l := by rw [← fam_len hSi, HFK.out]; exact HLF.out
        rw [← ndAt_get hk0, HXK.out] at q0 q1
        exact ⟨q0, by omega, by rw [← hl]; exact chain_length (after_fine hSi).chain⟩
      obtain ⟨r0, r1, r2⟩ := HR.out
      obtain ⟨q, hq⟩ : ∃ q : Nat, x.kids = (q : Int) := ⟨x.kids.toNat, by omega⟩
      have HQ : Hid (x.kids = (q : Int)) := hq
      rw [hq] at c3
      have hql : q ≤ l := by omega
      obtain ⟨f, rfl⟩ : ∃ f, l = f + q := ⟨l - q, by omega⟩
      have hcap := hfree.cap
      have hff : f < c ∨ (c = f ∧ q = 0) := by omega
      have hA : Below wr.heap.size wr (wr.alloc (.cells #[.int .i64 x.kind, .int .i64 x.num, .string x.text, .int .i64 (q : Int), .int .i64 x.place] 39)) := (Below.refl _ wr).alloc (Nat.le_refl _) _
      have hfreeA := hfree.below hA.drew
      have hnd := hfreeA.drop f
      have HKN : Hid (kidsN t k = F.drop f) := by
        show kidsN t k = _
        unfold kidsN
        rw [HFK.out, HXK.out, HQ.out, HLF.out]
        congr 1
        omega
      have HDL : Hid ((F.drop f).length = q) := by have := HLF.out; show (F.drop f).length = q; simp; omega
      have HF2 : Hid (fam t (k + 1) = F.take f ++ [x]) := by
        show fam t (k + 1) = _
        unfold fam
        rw [HFK.out, HXK.out, HQ.out, HLF.out]
        congr 2
        omega
      clear hx hxk hF hxl hq r0 r1
      have hj1 := hJ _ _ _ hj (hA.drew.mono (by omega))
      have hkl : xs.length < m := by have := HXL.out; omega
      rcases hff with hff | ⟨hcf, hq0⟩
      · obtain ⟨fn, tmps, assign, body, hy, hR⟩ := hY xs ⟨x, F.drop f, some ⟨g, f * 5, none⟩, q, c - f⟩ _ hj1 hkl ⟨by rw [HXL.out]; exact HXK.out.symm, by rw [HXL.out]; exact HKN.out.symm, HDL.out, (by show q ≤ 60000; omega), (by show q ≤ c - f; omega), (fun a ha => by cases ha; exact hcap.2.1), hnd⟩
        simp only [encFm] at hy
        rw [HQ.out] at hy
        have hb2 := hb.trans (hA.drew.mono (by have := hb.size; have := HSZ.out; omega))
        clear hj hj1 hb hfree hnd
        have hR := hR.mono (fun e W' h => (show ∃ z, e = .returned (.bool z) ∧ ((z = true ∧ J _ W' ∧ But (Mine n₀ (w.heap.size + 2)) _ W') ∨ (z = false ∧ Jx _ W')) from h.elim (fun h => ⟨true, h.1, .inl ⟨rfl, h.2⟩⟩) (fun h => ⟨false, h.1, .inr ⟨rfl, h.2⟩⟩)))
        gi_wp2
        gi_region_with (refine ⟨fun h => (by cases h), hR.mono ?_⟩; rintro e W3 ⟨z, rfl, hz⟩)
        all_goals
          clear hy hR c0 c1 c2 c3 c4
          rcases hz with (⟨rfl, hJ3, hk3⟩ | ⟨rfl, hJx3⟩)
          · have hnm : ¬ Mine n₀ (w.heap.size + 2) wr.heap.size := fun h => by have := h.2; omega
            have hng : ¬ Mine n₀ (w.heap.size + 2) g := fun h => by have := h.2; omega
            have hblk : W3.heap[wr.heap.size]? = some (.cells #[.int .i64 x.kind, .int .i64 x.num, .string x.text, .int .i64 (q : Int), .int .i64 x.place] 39 (0, 0)) := (hk3.block _ (by simp) hnm).trans (heap_alloc_new _ _)
            have d0 : W3.cell? ⟨wr.heap.size, 0, none⟩ = some (.int .i64 x.kind) := by rw [cell_of_row _ _ _ _ _ _ hblk]; rfl
            have d1 : W3.cell? ⟨wr.heap.size, 1, none⟩ = some (.int .i64 x.num) := by rw [cell_of_row _ _ _ _ _ _ hblk]; rfl
            have d2 : W3.cell? ⟨wr.heap.size, 2, none⟩ = some (.string x.text) := by rw [cell_of_row _ _ _ _ _ _ hblk]; rfl
            have d3 : W3.cell? ⟨wr.heap.size, 3, none⟩ = some (.int .i64 (q : Int)) := by rw [cell_of_row _ _ _ _ _ _ hblk]; rfl
            have d4 : W3.cell? ⟨wr.heap.size, 4, none⟩ = some (.int .i64 x.place) := by rw [cell_of_row _ _ _ _ _ _ hblk]; rfl
            have hf3 := (hfreeA.but hk3 hng).take f (by omega)
            have hb3 : Below n₀ w00 W3 := hb2.trans (hk3.below (by have := hb2.size; have := HSZ.out; omega) (fun q hq => hq.1))
            have hs3 : w.heap.size + 2 ≤ W3.heap.size := by have := hk3.size; simp at this; omega
            have hown := hf3.2
            have hfc : f ≤ c := by omega
            have hsw : wr.heap.size < W3.heap.size := by have := hk3.size; simp at this; omega
            clear hk3 hb2 hnm hng hblk hfreeA hA
            gi_wp2
            refine wpIn_wide.2 ?_
            go_region_law (refine step_append2 _ rfl (.tmp 28) (.tmp 30) 28 rfl (w.heap.size + 2) 39 i0 _ 5 48 Try.underlying28 hi hz0 hz1 hz2 rfl (by decide) g f c _ rfl ((hown.alloc _).drew) ⟨_, 0, none⟩ 1 1 (Nd.row ⟨x.kind, x.num, x.text, q, x.place⟩) rfl rfl ?_ (row5_one _) ?_ ?_ ?_ ?_; exact new5_drew _ ⟨x.kind, x.num, x.text, q, x.place⟩; (unfold maxLen; omega); omega; (simp; omega); intro g' c' w4 hown4 hgrow4 hwh)
            have hAll : Below (w.heap.size + 2) W3 w4 := grownN hgrow4 hs3 hcap.2.1
            have F4 : FreeN w4 (w.heap.size + 2) g' (f + 1) c' (F.take f ++ [x]) := by
              refine ⟨by have := HLF.out; simp; omega, ?_⟩
              rw [flat_append]
              have e : flat [x] = Nd.row ⟨x.kind, x.num, x.text, q, x.place⟩ := by simp [flat, Nd.row, HQ.out]
              rw [e]
              exact hown4
            have J4 := hJ _ _ _ hJ3 hAll
            have B4 := hb3.trans (hAll.mono (by omega))
            have S4 : w.heap.size + 2 ≤ w4.heap.size := by have := hAll.size; omega
            clear hown4 hgrow4 hwh hown hAll hf3 hb3 hJ3 d0 d1 d2 d3 d4
            gi_wp2
            go_roundw
            case rel => exact ⟨k + 1, g', f + 1, c', _, _, by omega, by go_num, HF2.out, by rw [List.length_append, HXL.out]; rfl, rfl, F4, J4, B4, S4⟩
            case measure => simp [intOf]; omega
          · gi_wp2
            refine bodyPost_ret (results_none rfl _ _ _) rfl ?_
            exact ⟨⟨_, rfl⟩, .inr ⟨_, by rw [List.length_append, HXL.out]; simp; omega, hJx3⟩⟩
      · have hcf' := hcf.symm
        clear hcf
        subst hcf' hq0
        simp only [Int.natCast_zero] at c3 hA hfreeA hj1 HQ
        obtain ⟨fn, tmps, assign, body, hy, hR⟩ := hY xs ⟨x, F.drop f, some ⟨g, 0, none⟩, 0, 0⟩ _ hj1 hkl ⟨by rw [HXL.out]; exact HXK.out.symm, by rw [HXL.out]; exact HKN.out.symm, HDL.out, (by show 0 ≤ 60000; omega), Nat.le_refl 0, (fun a ha => by cases ha; exact hcap.2.1), (by have h9 : F.drop f = [] := List.eq_nil_of_length_eq_zero (HDL.out); rw [h9]; intro i hi; simp at hi)⟩
        simp only [encFm] at hy
        rw [HQ.out] at hy
        have hb2 := hb.trans (hA.drew.mono (by have := hb.size; have := HSZ.out; omega))
        clear hj hj1 hb hfree hnd
        have hR := hR.mono (fun e W' h => (show ∃ z, e = .returned (.bool z) ∧ ((z = true ∧ J _ W' ∧ But (Mine n₀ (w.heap.size + 2)) _ W') ∨ (z = false ∧ Jx _ W')) from h.elim (fun h => ⟨true, h.1, .inl ⟨rfl, h.2⟩⟩) (fun h => ⟨false, h.1, .inr ⟨rfl, h.2⟩⟩)))
        gi_wp2
        gi_region_with (refine ⟨fun h => (by cases h), hR.mono ?_⟩; rintro e W3 ⟨z, rfl, hz⟩)
        all_goals
          clear hy hR c0 c1 c2 c3 c4
          rcases hz with (⟨rfl, hJ3, hk3⟩ | ⟨rfl, hJx3⟩)
          · have hnm : ¬ Mine n₀ (w.heap.size + 2) wr.heap.size := fun h => by have := h.2; omega
            have hng : ¬ Mine n₀ (w.heap.size + 2) g := fun h => by have := h.2; omega
            have hblk : W3.heap[wr.heap.size]? = some (.cells #[.int .i64 x.kind, .int .i64 x.num, .string x.text, .int .i64 0, .int .i64 x.place] 39 (0, 0)) := (hk3.block _ (by simp) hnm).trans (heap_alloc_new _ _)
            have d0 : W3.cell? ⟨wr.heap.size, 0, none⟩ = some (.int .i64 x.kind) := by rw [cell_of_row _ _ _ _ _ _ hblk]; rfl
            have d1 : W3.cell? ⟨wr.heap.size, 1, none⟩ = some (.int .i64 x.num) := by rw [cell_of_row _ _ _ _ _ _ hblk]; rfl
            have d2 : W3.cell? ⟨wr.heap.size, 2, none⟩ = some (.string x.text) := by rw [cell_of_row _ _ _ _ _ _ hblk]; rfl
            have d3 : W3.cell? ⟨wr.heap.size, 3, none⟩ = some (.int .i64 0) := by rw [cell_of_row _ _ _ _ _ _ hblk]; rfl
            have d4 : W3.cell? ⟨wr.heap.size, 4, none⟩ = some (.int .i64 x.place) := by rw [cell_of_row _ _ _ _ _ _ hblk]; rfl
            have hf3 := (hfreeA.but hk3 hng).take f (by omega)
            have hb3 : Below n₀ w00 W3 := hb2.trans (hk3.below (by have := hb2.size; have := HSZ.out; omega) (fun q hq => hq.1))
            have hs3 : w.heap.size + 2 ≤ W3.heap.size := by have := hk3.size; simp at this; omega
            have hown := hf3.2
            have hsw : wr.heap.size < W3.heap.size := by have := hk3.size; simp at this; omega
            clear hk3 hb2 hnm hng hblk hfreeA hA
            gi_wp2
            refine wpIn_wide.2 ?_
            go_region_law (refine step_append2 _ rfl (.tmp 28) (.tmp 30) 28 rfl (w.heap.size + 2) 39 i0 _ 5 48 Try.underlying28 hi hz0 hz1 hz2 rfl (by decide) g f f _ rfl ((hown.alloc _).drew) ⟨_, 0, none⟩ 1 1 (Nd.row ⟨x.kind, x.num, x.text, 0, x.place⟩) rfl rfl ?_ (row5_one _) ?_ ?_ ?_ ?_; exact new5_drew _ ⟨x.kind, x.num, x.text, 0, x.place⟩; (unfold maxLen; omega); omega; (simp; omega); intro g' c' w4 hown4 hgrow4 hwh)
            have hAll : Below (w.heap.size + 2) W3 w4 := grownN hgrow4 hs3 hcap.2.1
            have F4 : FreeN w4 (w.heap.size + 2) g' (f + 1) c' (F.take f ++ [x]) := by
              refine ⟨by have := HLF.out; simp; omega, ?_⟩
              rw [flat_append]
              have e : flat [x] = Nd.row ⟨x.kind, x.num, x.text, 0, x.place⟩ := by simp [flat, Nd.row, HQ.out]
              rw [e]
              exact hown4
            have J4 := hJ _ _ _ hJ3 hAll
            have B4 := hb3.trans (hAll.mono (by omega))
            have S4 : w.heap.size + 2 ≤ w4.heap.size := by have := hAll.size; omega
            clear hown4 hgrow4 hwh hown hAll hf3 hb3 hJ3 d0 d1 d2 d3 d4
            gi_wp2
            go_roundw
            case rel => exact ⟨k + 1, g', f + 1, c', _, _, by omega, by go_num, HF2.out, by rw [List.length_append, HXL.out]; rfl, rfl, F4, J4, B4, S4⟩
            case measure => simp [intOf]; omega
          · gi_wp2
            refine bodyPost_ret (results_none rfl _ _ _) rfl ?_
            exact ⟨⟨_, rfl⟩, .inr ⟨_, by rw [List.length_append, HXL.out]; simp; omega, hJx3⟩⟩
    · have HE : Hid (xs.length = m) := by rw [hxl]; show k = m; omega
      clear hx hfree
      gi_wp2
      go_end0
      exact ⟨⟨_, rfl⟩, .inl ⟨xs, HE.out, hj⟩⟩

end Go.Proofs.Ytekogjmmfhbinaa

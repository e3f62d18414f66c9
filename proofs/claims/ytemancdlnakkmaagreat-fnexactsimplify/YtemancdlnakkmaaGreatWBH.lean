import Derived.Test.YtemancdlnakkmaaGreatWAB
import Derived.Test.YtemancdlnakkmaaGreatWAA
import Derived.Test.YtemancdlnakkmaaGreatWAD
import Derived.Test.YtemancdlnakkmaaGreatWAO
import Derived.Test.YtemancdlnakkmaaGreatWAG
import Derived.Test.YtemancdlnakkmaaGreatWBG
namespace Go.Proofs.YtemancdlnakkmaaGreat
open Go.RowKit
theorem nd_new_cells (w : World) (n : Nd) : ∀ j u, n.row[j]? = some u →
    (w.alloc (.cells #[.int .i64 n.kind, .int .i64 n.num, .string n.text, .int .i64 n.kids, .int .i64 n.place] 34)).cell? (Addr.add ⟨w.heap.size, 0, none⟩ j) = some u := by
  intro j u hj
  have ad : Addr.add ⟨w.heap.size, 0, none⟩ j = ⟨w.heap.size, j, none⟩ := by
    unfold Addr.add
    split
    · simp_all
    · simp
  rw [ad, cell_of_row _ w.heap.size j _ 34 (0, 0) (heap_alloc_new _ _), ← hj]
  simp [Nd.row]
theorem nd_row_one (n : Nd) : ∀ u ∈ n.row, u.oneCell' = true := by
  intro u hu
  simp [Nd.row] at hu
  rcases hu with rfl | rfl | rfl | rfl | rfl <;> rfl
theorem nd_flat_one (ks : List Nd) : ∀ u ∈ flat ks, u.oneCell' = true := by
  intro u hu
  unfold flat at hu
  obtain ⟨n, _, hn⟩ := List.mem_flatMap.1 hu
  exact nd_row_one n u hn
def OwnN (w : World) (B g c l : Nat) (zs : List Nd) : Prop := zs.length = l ∧ w.ownsRow B 34 5 (.slice (some ⟨g, 0, none⟩) l c) l (flat zs)
theorem OwnN.row {w : World} {B g c l : Nat} {zs : List Nd} (h : OwnN w B g c l zs) : B ≤ g ∧ Row w g zs := by
  obtain ⟨hl, ho⟩ := h
  rcases ho.2 with ⟨h', _⟩ | ⟨g2, cap2, cur, he, hb, hh, _, _, _, htake⟩
  · cases h'
  · simp only [Value.slice.injEq, Option.some.injEq, Addr.mk.injEq, and_true, true_and] at he
    obtain ⟨rfl, rfl⟩ := he
    exact ⟨hb, cur, cur.toList.drop (l * 5), hh, by rw [← htake, List.take_append_drop]⟩
theorem OwnN.empty {w : World} {B : Nat} (hB : B ≤ w.heap.size) : OwnN (w.alloc (.cells #[] 34)) B w.heap.size 0 0 [] :=
  ⟨rfl, rfl, Or.inr ⟨_, 0, #[], rfl, hB, heap_alloc_new _ _, Nat.le_refl _, by simp [maxLen], rfl, rfl⟩⟩
theorem OwnN.alloc {w : World} {B g c l : Nat} {zs : List Nd} (h : OwnN w B g c l zs) (o : Obj) : OwnN (w.alloc o) B g c l zs := ⟨h.1, h.2.alloc o⟩
theorem OwnN.below {w w' : World} {B g c l : Nat} {zs : List Nd} (h : OwnN w B g c l zs) (hb : Below w.heap.size w w') : OwnN w' B g c l zs :=
  ⟨h.1, owns_but (S := fun _ => False) h.2 (But.ofBelow hb) (fun h => h)⟩
theorem OwnN.push {w : World} {B g c l m : Nat} {zs : List Nd} {x : Nd} (h : w.ownsRow B 34 5 (.slice (some ⟨g, 0, none⟩) m c) m (flat zs ++ x.row)) (hl : zs.length = l) (hm : m = l + 1) : OwnN w B g c (l + 1) (zs ++ [x]) := by
  subst hm
  refine ⟨by simp [hl], ?_⟩
  rw [flat_append]
  have e : flat [x] = x.row := by simp [flat]
  rw [e]
  exact h
set_option maxHeartbeats 1000000 in
theorem copy_any (xs : List Nd) (m : Nat) (HM : Hid (xs.length = m)) (hm : m ≤ 1048576) (ao : Option Addr) (cap : Nat) (w : World) (hx : Nodes w ao xs) :
    Calls Tryz.prog 13 #[.slice ao m cap] w fun e w' => ∃ g c, e = .returned (.slice (some ⟨g, 0, none⟩) m c) ∧ w.heap.size ≤ g ∧ Row w' g xs ∧ Below w.heap.size w w' := by
  obtain ⟨i0, hi, hz0, hz1, hz2⟩ := info_parts Tryz.infoN
  go_enter Tryz.func13, Tryz.ntmps13
  go_wp2
  go_loopw [3, 4] (fun v p wr => ∃ (k g c : Nat), k ≤ m ∧ p = .int .i64 k ∧ v = .slice (some ⟨g, 0, none⟩) k c ∧ OwnN wr w.heap.size g c k (xs.take k) ∧ Below w.heap.size w wr) (fun _ p _ => m - (intOf p).toNat)
  case atStart => exact ⟨0, w.heap.size, 0, Nat.zero_le _, rfl, rfl, OwnN.empty (Nat.le_refl _), (Below.refl _ w).alloc (Nat.le_refl _) _⟩
  case round =>
    obtain ⟨k, g, c, hk, rfl, rfl, hown, hb⟩ := hrel
    by_cases hlt : k < m
    · have hltk : k < xs.length := by have := HM.out; omega
      obtain ⟨b, o, rfl, hn⟩ := hx.below hb k hltk
      obtain ⟨x, hxk⟩ : ∃ x, xs[k] = x := ⟨_, rfl⟩
      rw [hxk] at hn
      obtain ⟨c0, c1, c2, c3, c4⟩ := hn
      have HT : Hid (xs.take (k + 1) = xs.take k ++ [x]) := by show xs.take (k + 1) = _; rw [List.take_succ_eq_append_getElem hltk, hxk]
      have hob := owns_block hown.2
      clear hx hxk
      go_wp2_with (at_builtin; refine wpList_append2 _ rfl (.tmp 12) (.tmp 17) 24 rfl w.heap.size 34 i0 _ 5 48 Tryz.underlying24 hi hz0 hz1 hz2 rfl (by decide) g k c _ rfl (hown.alloc _).2 ⟨_, 0, none⟩ 1 1 x.row rfl rfl (nd_new_cells _ x) (nd_row_one x) ?a3 ?a4 ?a5 ?_)
      case a3 => unfold maxLen; omega
      case a4 => omega
      case a5 => have := hb.size; simp; omega
      intro g2 c2' w2 hown2 hgrow2 hwh
      have hO := OwnN.push hown2 hown.1 rfl
      rw [← HT.out] at hO
      have hbb : Below w.heap.size w w2 := (hb.alloc hb.size _).grown hgrow2 (by have := hb.size; simp; omega) (fun q hq => by cases hq; exact hob.1)
      clear hown2 hgrow2 hwh hown hb c0 c1 c2 c3 c4
      go_wp2
      go_roundw
      case rel => exact ⟨k + 1, g2, c2', by omega, by go_num, rfl, hO, hbb⟩
      case measure => simp [intOf]; omega
    · have hke : k = m := by omega
      subst hke
      rw [List.take_of_length_le (by have := HM.out; omega)] at hown
      obtain ⟨hg, hr⟩ := hown.row
      clear hx hown
      go_wp2
      go_ret
      exact ⟨_, _, rfl, hg, hr, hb⟩
theorem SRep.wide {w : World} {A A' : Nat → Prop} {T : Tre} {s : Sl3} (h : SRep w A T s) (hA : ∀ q, A q → q < w.heap.size → A' q) : SRep w A' T s :=
  h.but (But.ofBelow (S := fun _ => False) (Below.refl _ _)) (fun _ _ h => h) hA
set_option maxRecDepth 20000 in
set_option maxHeartbeats 4000000 in
theorem out_any : ∀ (T : Tre) (B g c l : Nat) (zs : List Nd) (s : Sl3) (A : Nat → Prop) (w : World), SRep w A T s → (∀ q, A q → q ≠ g) → OwnN w B g c l zs → B ≤ w.heap.size → l + (outT T).length ≤ 100000 →
    Calls Tryz.prog 29 #[.agg (sv T s).toArray, .slice (some ⟨g, 0, none⟩) l c] w fun e w' => ∃ g' c', e = .returned (.slice (some ⟨g', 0, none⟩) (l + (outT T).length) c') ∧ OwnN w' B g' c' (l + (outT T).length) (zs ++ outT T) ∧ But (· = g) w w' ∧ (g' = g ∨ w.heap.size ≤ g') := by
  intro T
  refine Tre.ind (p := fun T => ∀ (B g c l : Nat) (zs : List Nd) (s : Sl3) (A : Nat → Prop) (w : World), SRep w A T s → (∀ q, A q → q ≠ g) → OwnN w B g c l zs → B ≤ w.heap.size → l + (outT T).length ≤ 100000 →
    Calls Tryz.prog 29 #[.agg (sv T s).toArray, .slice (some ⟨g, 0, none⟩) l c] w fun e w' => ∃ g' c', e = .returned (.slice (some ⟨g', 0, none⟩) (l + (outT T).length) c') ∧ OwnN w' B g' c' (l + (outT T).length) (zs ++ outT T) ∧ But (· = g) w w' ∧ (g' = g ∨ w.heap.size ≤ g')) ?_ T
  intro n ks ih B g c l zs s A w hR hA hO hBw hlen
  obtain ⟨i0, hi, hz0, hz1, hz2⟩ := info_parts Tryz.infoN
  have hK := (hR.wide (A' := fun q => q ≠ g ∧ q < w.heap.size) (fun q h1 h2 => ⟨hA q h1, h2⟩)).skids
  obtain ⟨so, sl, sc⟩ := s
  obtain ⟨h1, h2, h3, h4⟩ := hK
  simp only [Tre.ks] at h1 h2 h3 h4
  subst h1
  have hob := owns_block hO.2
  have HIH : Hid (∀ k ∈ ks, ∀ (B g c l : Nat) (zs : List Nd) (s : Sl3) (A : Nat → Prop) (w : World), SRep w A k s → (∀ q, A q → q ≠ g) → OwnN w B g c l zs → B ≤ w.heap.size → l + (outT k).length ≤ 100000 →
    Calls Tryz.prog 29 #[.agg (sv k s).toArray, .slice (some ⟨g, 0, none⟩) l c] w fun e w' => ∃ g' c', e = .returned (.slice (some ⟨g', 0, none⟩) (l + (outT k).length) c') ∧ OwnN w' B g' c' (l + (outT k).length) (zs ++ outT k) ∧ But (· = g) w w' ∧ (g' = g ∨ w.heap.size ≤ g')) := ih
  have HO : Hid (outT (.mk n ks) = (ks.map outT).flatten ++ [n]) := outT_eq n ks
  have HKS : Hid (∀ j (h : j < ks.length), ∃ g' sj, so = some ⟨g', 0, none⟩ ∧ (g' ≠ g ∧ g' < w.heap.size) ∧ Row7 w g' (j * 7) ks[j] sj ∧ SRep w (fun q => q ≠ g ∧ q < w.heap.size) ks[j] sj) := h4
  have HLEN : Hid (l + ((ks.map outT).flatten ++ [n]).length ≤ 100000) := by show _ ≤ _; rw [← HO.out]; exact hlen
  rw [HO.out]
  obtain ⟨q, hq⟩ : ∃ q, ks.length = q := ⟨_, rfl⟩
  have HQ : Hid (ks.length = q) := hq
  obtain ⟨kb, hkb⟩ : ∃ kb, knT (.mk n ks) = kb := ⟨_, rfl⟩
  have hsv : (sv (.mk n ks) (so, ks.length, sc)).toArray = #[.int .i64 n.kind, .int .i64 n.num, .string n.text, .int .i64 n.kids, .int .i64 n.place, .slice so q sc, .bool kb] := by
    simp [sv, Tre.nd, hkb, hq]
  rw [hsv]
  rw [hq] at h2 h3
  clear ih hR hA h4 hlen hq hkb hsv
  obtain ⟨kd, nm, tx, kk, pl⟩ := n
  simp only at HO HLEN ⊢
  have hW0 : (w.alloc (.cells #[.int .i64 kd, .int .i64 nm, .string tx, .int .i64 kk, .int .i64 pl, .slice so q sc, .bool kb] 51)).heap[w.heap.size]? = some (.cells #[.int .i64 kd, .int .i64 nm, .string tx, .int .i64 kk, .int .i64 pl, .slice so q sc, .bool kb] 51 (0, 0)) := heap_alloc_new _ _
  have bW := (Below.refl w.heap.size w).alloc (Nat.le_refl _) (.cells #[.int .i64 kd, .int .i64 nm, .string tx, .int .i64 kk, .int .i64 pl, .slice so q sc, .bool kb] 51)
  have hO0 := hO.alloc (.cells #[.int .i64 kd, .int .i64 nm, .string tx, .int .i64 kk, .int .i64 pl, .slice so q sc, .bool kb] 51)
  have hsz : (w.alloc (.cells #[.int .i64 kd, .int .i64 nm, .string tx, .int .i64 kk, .int .i64 pl, .slice so q sc, .bool kb] 51)).heap.size = w.heap.size + 1 := by simp
  go_enter Tryz.func29, Tryz.ntmps29
  go_wp2
  generalize w.alloc (.cells #[.int .i64 kd, .int .i64 nm, .string tx, .int .i64 kk, .int .i64 pl, .slice so q sc, .bool kb] 51) = W0 at hW0 bW hO0 hsz ⊢
  go_loopw [1, 5] (fun vo vk wr => ∃ (k gk ck : Nat), k ≤ q ∧ vk = .int .i64 (k : Int) ∧ vo = .slice (some ⟨gk, 0, none⟩) (l + ((ks.take k).map outT).flatten.length) ck ∧ OwnN wr B gk ck (l + ((ks.take k).map outT).flatten.length) (zs ++ ((ks.take k).map outT).flatten) ∧ But (· = g) W0 wr ∧ (gk = g ∨ w.heap.size + 1 ≤ gk)) (fun _ vk _ => q - (intOf vk).toNat)
  case atStart => exact ⟨0, g, c, Nat.zero_le _, rfl, by simp, by simpa using hO0, But.refl _ _, .inl rfl⟩
  case round =>
    obtain ⟨k, gk, ck, hk, rfl, rfl, hown, hbut, hgk⟩ := hrel
    have hzg : w.heap.size ≠ g := by omega
    have hblk : wr.heap[w.heap.size]? = some (.cells #[.int .i64 kd, .int .i64 nm, .string tx, .int .i64 kk, .int .i64 pl, .slice so q sc, .bool kb] 51 (0, 0)) := (hbut.block _ (by omega) (by omega)).trans hW0
    have c5 : wr.cell? ⟨w.heap.size, 5, none⟩ = some (.slice so q sc) := by rw [cell_of_row _ _ _ _ _ _ hblk]; rfl
    have lz : w.heap.size < wr.heap.size := lt_of_cell c5
    by_cases hkq : k < q
    · have hkl : k < ks.length := by have := HQ.out; omega
      obtain ⟨gj, sj, hso, ⟨hj1, hj2⟩, hrow, hrep⟩ := HKS.out k hkl
      subst hso
      have HS : Hid (((ks.take (k + 1)).map outT).flatten = ((ks.take k).map outT).flatten ++ outT ks[k]) := by
        show _ = _
        rw [List.take_succ_eq_append_getElem hkl, List.map_append, List.flatten_append]
        simp
      have HL2 : Hid (l + ((ks.take k).map outT).flatten.length + (outT ks[k]).length ≤ 100000) := by
        show _ ≤ _
        have h9 := HLEN.out
        have h8 : ((ks.map outT).flatten).length = ((ks.take (k + 1)).map outT).flatten.length + ((ks.drop (k + 1)).map outT).flatten.length := by
          rw [← List.length_append, ← List.flatten_append, ← List.map_append, List.take_append_drop]
        rw [HS.out, List.length_append] at h8
        rw [List.length_append] at h9
        omega
      have hbw : But (· = g) w wr := (But.ofBelow bW).trans hbut
      have r7 := hrow.but hbw hj1
      have rep7 := hrep.but (A' := fun q => q ≠ g ∧ q < w.heap.size) hbw (fun q hq => hq.1) (fun q hq _ => hq)
      have hCL := HIH.out ks[k] (List.getElem_mem hkl) B gk ck _ _ sj _ wr rep7 (fun q hq => by rcases hgk with e | e <;> (have := hq.1; have := hq.2; omega)) hown (by have := hbut.size; omega) HL2.out
      obtain ⟨L, hL⟩ : ∃ L, l + ((ks.take k).map outT).flatten.length = L := ⟨_, rfl⟩
      rw [hL] at hCL hown ⊢
      obtain ⟨d0, d1, d2, d3, d4, d5, d6⟩ := r7
      have lgj : gj < wr.heap.size := lt_of_cell d0
      obtain ⟨T, hT⟩ : ∃ T, ks[k] = T := ⟨_, rfl⟩
      rw [hT] at hCL d0 d1 d2 d3 d4 d6 HS
      simp only [sv] at hCL
      have HLL : Hid (l + ((ks.take k).map outT).flatten.length = L) := hL
      have HW0 : Hid (W0.heap[w.heap.size]? = _) := hW0
      clear hrow hrep rep7 hblk hown hL hT hW0 HL2
      go_wp2_with fail
      refine hCL.mono ?_
      rintro e w2 ⟨g2, c2, rfl, hO2, hb2, hg2⟩
      have hb02 : But (· = g) W0 w2 :=
        ⟨hb2.os.trans hbut.os, hb2.tape.trans hbut.tape, hb2.output.trans hbut.output, Nat.le_trans hbut.size hb2.size, fun i hi hne => (hb2.block i (Nat.lt_of_lt_of_le hi hbut.size) (by rcases hgk with e | e <;> omega)).trans (hbut.block i hi hne)⟩
      have hg02 : g2 = g ∨ w.heap.size + 1 ≤ g2 := by
        have := hbut.size
        rcases hg2 with e | e
        · rcases hgk with e' | e'
          · exact .inl (e.trans e')
          · exact .inr (by omega)
        · exact .inr (by omega)
      have HE : Hid (l + ((ks.take (k + 1)).map outT).flatten.length = L + (outT T).length ∧ zs ++ ((ks.take (k + 1)).map outT).flatten = (zs ++ ((ks.take k).map outT).flatten) ++ outT T) := by
        show _ ∧ _
        rw [HS.out, List.length_append, ← HLL.out]
        exact ⟨by omega, by simp⟩
      clear hCL hb2 hg2 hbut hgk c5 d0 d1 d2 d3 d4 d5 d6
      go_wp2
      go_roundw
      case rel => exact ⟨k + 1, g2, c2, by omega, by go_num, by rw [HE.out.1], by rw [HE.out.1, HE.out.2]; exact hO2, hb02, hg02⟩
      case measure => simp [intOf]; omega
    · obtain rfl : k = q := by omega
      have hfull : ks.take k = ks := List.take_of_length_le (by have := HQ.out; omega)
      rw [hfull] at hown ⊢
      obtain ⟨L, hL⟩ : ∃ L, l + ((ks.map outT).flatten).length = L := ⟨_, rfl⟩
      have HL9 : Hid (L + 1 ≤ 100000) := by
        show _ ≤ _
        have h9 := HLEN.out
        rw [List.length_append, List.length_singleton] at h9
        omega
      have HE : Hid (l + ((ks.map outT).flatten ++ [(⟨kd, nm, tx, kk, pl⟩ : Nd)]).length = L + 1 ∧ zs ++ ((ks.map outT).flatten ++ [(⟨kd, nm, tx, kk, pl⟩ : Nd)]) = (zs ++ (ks.map outT).flatten) ++ [⟨kd, nm, tx, kk, pl⟩]) := by
        show _ ∧ _
        rw [List.length_append, List.length_singleton]
        exact ⟨by omega, by simp⟩
      rw [hL] at hown ⊢
      have e0 : wr.cell? ⟨w.heap.size, 0, none⟩ = some (.int .i64 kd) := by rw [cell_of_row _ _ _ _ _ _ hblk]; rfl
      have e1 : wr.cell? ⟨w.heap.size, 1, none⟩ = some (.int .i64 nm) := by rw [cell_of_row _ _ _ _ _ _ hblk]; rfl
      have e2 : wr.cell? ⟨w.heap.size, 2, none⟩ = some (.string tx) := by rw [cell_of_row _ _ _ _ _ _ hblk]; rfl
      have e3 : wr.cell? ⟨w.heap.size, 3, none⟩ = some (.int .i64 kk) := by rw [cell_of_row _ _ _ _ _ _ hblk]; rfl
      have e4 : wr.cell? ⟨w.heap.size, 4, none⟩ = some (.int .i64 pl) := by rw [cell_of_row _ _ _ _ _ _ hblk]; rfl
      have hL100 : L + 1 ≤ 100000 := HL9.out
      have hs0 := hbut.size
      have hobk := owns_block hown.2
      clear hfull hblk HL9 hL hW0
      go_wp2_with (at_builtin; refine wpList_append2 _ rfl (.tmp 20) (.tmp 23) 24 rfl B 34 i0 _ 5 48 Tryz.underlying24 hi hz0 hz1 hz2 rfl (by decide) gk L ck _ rfl (hown.alloc _).2 ⟨_, 0, none⟩ 1 1 (Nd.row ⟨kd, nm, tx, kk, pl⟩) rfl rfl (nd_new_cells _ ⟨kd, nm, tx, kk, pl⟩) (nd_row_one _) ?a3 ?a4 ?a5 ?_)
      case a3 => unfold maxLen; omega
      case a4 => omega
      case a5 => first | omega | (simp; omega)
      intro g3 c3 w3 hown3 hgrow3 hwh3
      have hO3 := OwnN.push hown3 hown.1 rfl
      have hb3 : But (· = g) w w3 := by
        refine ⟨hgrow3.os.trans (hbut.os.trans bW.os), hgrow3.tape.trans (hbut.tape.trans bW.tape), hgrow3.output.trans (hbut.output.trans bW.output), ?_, ?_⟩
        · have := hgrow3.size; simp at this; omega
        · intro i hi9 hne
          have h1 := bW.block i hi9
          have h2 := hbut.block i (by omega) hne
          have h3 : (wr.alloc (.cells #[.int .i64 kd, .int .i64 nm, .string tx, .int .i64 kk, .int .i64 pl] 34)).heap[i]? = wr.heap[i]? := Below.heap_alloc _ _ _ (by omega)
          have h4 := hgrow3.block i (by simp; omega) (by simp; rcases hgk with e | e <;> omega)
          exact h4.trans (h3.trans (h2.trans h1))
      have hg3 : g3 = g ∨ w.heap.size ≤ g3 := by
        rcases hwh3 with e | e
        · rcases hgk with e' | e'
          · exact .inl (e.trans e')
          · exact .inr (by omega)
        · exact .inr (by (try simp at e); omega)
      have HO3 : Hid (OwnN w3 B g3 c3 (L + 1) ((zs ++ (ks.map outT).flatten) ++ [⟨kd, nm, tx, kk, pl⟩])) := hO3
      clear hown3 hgrow3 hwh3 hown hbut hgk hO3 e0 e1 e2 e3 e4 c5
      go_wp2
      go_ret
      exact ⟨g3, c3, by rw [HE.out.1]; rfl, by rw [HE.out.1, HE.out.2]; exact HO3.out, hb3, hg3⟩
theorem Tryz.infoT14 : (Tryz.prog.info? 51).map (fun i => (i.zero, i.size, i.bytes)) = some (some (.agg #[.int .i64 0, .int .i64 0, .string ByteArray.empty, .int .i64 0, .int .i64 0, .slice none 0 0, .bool false]), 7, 80) := by kernel_rfl
theorem flat7 {α : Type} (f : α → List Value) (hf : ∀ a, (f a).length = 7) : ∀ (xs : List α) (j r : Nat) (hj : j < xs.length), r < 7 → ((xs.map f).flatten)[j * 7 + r]? = (f xs[j])[r]?
  | [], _, _, hj, _ => by simp at hj
  | x :: xs, 0, r, _, hr => by
    simp only [List.map_cons, List.flatten_cons, List.getElem_cons_zero, Nat.zero_mul, Nat.zero_add]
    rw [List.getElem?_append_left (by rw [hf]; exact hr)]
  | x :: xs, j + 1, r, hj, hr => by
    simp only [List.map_cons, List.flatten_cons, List.getElem_cons_succ]
    rw [List.getElem?_append_right (by rw [hf]; omega), hf, show (j + 1) * 7 + r - 7 = j * 7 + r by omega]
    exact flat7 f hf xs j r (by simpa using hj) hr
def rows7 (xs : List (Tre × Sl3)) : List Value := (xs.map fun p => sv p.1 p.2).flatten
theorem rows7_push (xs : List (Tre × Sl3)) (T : Tre) (s : Sl3) : rows7 (xs ++ [(T, s)]) = rows7 xs ++ sv T s := by simp [rows7]
def Own7 (w : World) (B g c n : Nat) (xs : List (Tre × Sl3)) : Prop := xs.length = n ∧ w.ownsRow B 51 7 (.slice (some ⟨g, 0, none⟩) n c) n (rows7 xs)
theorem Own7.row {w : World} {B g c n : Nat} {xs : List (Tre × Sl3)} (h : Own7 w B g c n xs) (j : Nat) (hj : j < xs.length) : Row7 w g (j * 7) xs[j].1 xs[j].2 := by
  have hc : ∀ r, r < 7 → w.cell? ⟨g, j * 7 + r, none⟩ = (sv xs[j].1 xs[j].2)[r]? := by
    intro r hr
    rw [owns_at h.2 _ (by have := h.1; omega)]
    exact flat7 (fun p : Tre × Sl3 => sv p.1 p.2) (fun _ => rfl) xs j r hj hr
  exact ⟨hc 0 (by omega), hc 1 (by omega), hc 2 (by omega), hc 3 (by omega), hc 4 (by omega), hc 5 (by omega), hc 6 (by omega)⟩
theorem Own7.cap {w : World} {B g c n : Nat} {xs : List (Tre × Sl3)} (h : Own7 w B g c n xs) : n ≤ c := by
  rcases h.2.2 with ⟨h', _⟩ | ⟨g2, cap2, cur, he, _, _, hnc, _⟩
  · cases h'
  · simp only [Value.slice.injEq, Option.some.injEq, Addr.mk.injEq, and_true, true_and] at he
    omega
theorem Own7.block {w : World} {B g c n : Nat} {xs : List (Tre × Sl3)} (h : Own7 w B g c n xs) : B ≤ g ∧ g < w.heap.size := owns_block h.2
theorem Own7.but {S : Nat → Prop} {w w' : World} {B g c n : Nat} {xs : List (Tre × Sl3)} (h : Own7 w B g c n xs) (hb : But S w w') (hg : ¬ S g) : Own7 w' B g c n xs := ⟨h.1, owns_but h.2 hb hg⟩
theorem Own7.skids {w : World} {B g c n : Nat} {xs : List (Tre × Sl3)} {A : Nat → Prop} (h : Own7 w B g c n xs) (hn : n ≤ 60000) (hA : A g) (hx : ∀ p ∈ xs, SRep w A p.1 p.2) : SKids w A (some ⟨g, 0, none⟩, n, c) (xs.map Prod.fst) := by
  have hl := h.1
  refine ⟨by simp [hl], by simp [hl]; exact h.cap, by simp [hl]; exact hn, fun j hj => ?_⟩
  have hj' : j < xs.length := by simpa using hj
  refine ⟨g, xs[j].2, rfl, hA, ?_, ?_⟩
  · have := h.row j hj'
    simpa using this
  · have := hx xs[j] (List.getElem_mem hj')
    simpa using this
theorem sv_one (T : Tre) (s : Sl3) : ∀ u ∈ sv T s, u.oneCell' = true := by
  intro u hu
  simp only [sv, List.mem_cons, List.not_mem_nil, or_false] at hu
  rcases hu with rfl | rfl | rfl | rfl | rfl | rfl | rfl <;> rfl
theorem sv_cells {w : World} {g : Nat} {T : Tre} {s : Sl3} (h : Row7 w g 0 T s) : ∀ j u, (sv T s)[j]? = some u → w.cell? (Addr.add ⟨g, 0, none⟩ j) = some u := by
  intro j u hj
  have e : Addr.add ⟨g, 0, none⟩ j = ⟨g, j, none⟩ := by
    unfold Addr.add
    split
    · simp_all
    · simp
  rw [e]
  obtain ⟨c0, c1, c2, c3, c4, c5, c6⟩ := h
  simp only [Nat.zero_add] at c0 c1 c2 c3 c4 c5 c6
  have hj7 : j < 7 := by
    have := (List.getElem?_eq_some_iff.1 hj).1
    simpa [sv] using this
  rcases (by omega : j = 0 ∨ j = 1 ∨ j = 2 ∨ j = 3 ∨ j = 4 ∨ j = 5 ∨ j = 6) with rfl | rfl | rfl | rfl | rfl | rfl | rfl <;> (simp [sv] at hj; subst hj; assumption)
theorem seqF_push (fs : List ((Int → Option Tre) → Tre × (Int → Option Tre))) (g : (Int → Option Tre) → Tre × (Int → Option Tre)) : ∀ P, seqF (fs ++ [g]) P = ((seqF fs P).1 ++ [(g (seqF fs P).2).1], (g (seqF fs P).2).2) := by
  induction fs with
  | nil => intro P; rfl
  | cons f fs ih =>
    intro P
    simp only [List.cons_append, seqF, ih]
theorem But.shrink {S T : Nat → Prop} {w w' : World} (h : But S w w') (hs : ∀ q, q < w.heap.size → S q → T q) : But T w w' :=
  ⟨h.os, h.tape, h.output, h.size, fun i hi ht => h.block i hi fun hk => ht (hs i hi hk)⟩
theorem grown_butL {w w' : World} {g : Nat} (h : w.grownBy w' (some g)) : But (· = g) w w' :=
  ⟨h.os, h.tape, h.output, h.size, fun i hi hn => h.block i hi (by intro e; simp only [Option.some.injEq] at e; exact hn e)⟩
theorem But.trans2 {S : Nat → Prop} {a b c : World} {g : Nat} (h : But S a b) (k : But (· = g) b c) (hg : a.heap.size ≤ g) : But S a c :=
  ⟨k.os.trans h.os, k.tape.trans h.tape, k.output.trans h.output, Nat.le_trans h.size k.size, fun i hi hs => (k.block i (Nat.lt_of_lt_of_le hi h.size) (by omega)).trans (h.block i hi hs)⟩
theorem owns_fresh7 (w : World) : (w.alloc (.cells #[] 51)).ownsRow w.heap.size 51 7 (.slice (some ⟨w.heap.size, 0, none⟩) 0 0) 0 [] :=
  ⟨rfl, Or.inr ⟨w.heap.size, 0, #[], rfl, Nat.le_refl _, heap_alloc_new _ _, Nat.le_refl _, by decide, rfl, rfl⟩⟩
theorem pas_lt {k : PasAt} {t : List Nd} {m : Nat} {ys : List Sp} {bd us : Int → Nat} {w : World} {A : Nat → Prop} {P : Int → Option Tre} (h : Pas k t m ys bd us w A P) {g : Nat} (hg : w.heap.size ≤ g) (h0 : 0 < t.length) : ¬ k.b0 = g ∧ ¬ k.gz = g ∧ ¬ k.b2 = g ∧ ¬ k.b3 = g ∧ ¬ k.g4 = g ∧ ¬ k.g5 = g := by
  obtain ⟨l4, l5⟩ := h.lt4
  obtain ⟨b, o, e, hn⟩ := h.nodes 0 h0
  simp only [Option.some.injEq, Addr.mk.injEq, and_true] at e
  obtain ⟨rfl, rfl⟩ := e
  have l0 : k.b0 < w.heap.size := lt_of_cell hn.1
  have lz := h.ints.block.2
  obtain ⟨b2, e2, -, h2⟩ := h.cb
  obtain ⟨b3, e3, -, h3⟩ := h.cu
  simp only [Option.some.injEq, Addr.mk.injEq, and_true] at e2 e3
  subst e2
  subst e3
  have l2 : k.b2 < w.heap.size := lt_of_cell (h2 0 (by omega))
  have l3 : k.b3 < w.heap.size := lt_of_cell (h3 0 (by omega))
  omega
theorem atom_cls {bd : Int → Nat} {n : Nd} (h : atomT bd n = true) : cls n = 1 := by
  have := atom_kinds h
  refine cls_code.2 ?_
  simp [pCode]
  omega
end Go.Proofs.YtemancdlnakkmaaGreat


import Derived.Test.YtocidoamfofefaaEMath
import Derived.Test.YtocidoamfofefaaPDem
import Derived.Test.YtocidoamfofefaaCopy
namespace Go.Proofs.Ytocidoamfofefaa
open Go.RowKit

set_option maxHeartbeats 2000000 in
set_option maxRecDepth 20000 in
theorem isTypingI_any (k : Int) (w : World) :
    Calls Try.prog 66 #[.int .i64 k] w fun e w' => e = .returned (.bool (typI k)) ∧ w' = w := by
  by_cases h : k = 12 ∨ k = 13 ∨ k = 14 ∨ k = 60 ∨ k = 62 ∨ k = 78 ∨ k = 79
  · rcases h with rfl | rfl | rfl | rfl | rfl | rfl | rfl
    all_goals
      go_enter Try.func66, Try.ntmps66
      go_wp2
      go_ret
      exact ⟨rfl, rfl⟩
  · have HV : Hid (typI k = false) := by
      show typI k = false
      unfold typI
      simp
      omega
    have u1 : (k == 12) = false := by simp; omega
    have u2 : (k == 13) = false := by simp; omega
    have u3 : (k == 14) = false := by simp; omega
    have u4 : (k == 60) = false := by simp; omega
    have u5 : (k == 62) = false := by simp; omega
    have u6 : (k == 78) = false := by simp; omega
    have u7 : (k == 79) = false := by simp; omega
    clear h
    go_enter Try.func66, Try.ntmps66
    go_wp2
    go_ret
    exact ⟨by rw [HV.out]; rfl, rfl⟩

theorem OwnN.but9 {S : Nat → Prop} {w w' : World} {B g c l : Nat} {zs : List Nd} (h : OwnN w B g c l zs) (hb : But S w w') (hn : ¬ S g) : OwnN w' B g c l zs := ⟨h.1, owns_but h.2 hb hn⟩

theorem OwnN.one9 {w : World} {B : Nat} (hB : B ≤ w.heap.size) (n : Nd) : OwnN (w.alloc (.cells #[.int .i64 n.kind, .int .i64 n.num, .string n.text, .int .i64 n.kids, .int .i64 n.place] 39)) B w.heap.size 1 1 [n] :=
  ⟨rfl, rfl, Or.inr ⟨_, 1, _, rfl, hB, heap_alloc_new _ _, Nat.le_refl _, by simp [maxLen], rfl, by simp [flat, Nd.row]⟩⟩

/-- The node's kids are written, and it is laid for the append. -/
theorem set_push9 {w W : World} {g c k z : Nat} {out : List Nd} (ho : OwnN W w.heap.size g c k out) (hb : Below w.heap.size w W) (hz : w.heap.size ≤ z) (hg : g ≠ z) (kd nm : Int) (tx : ByteArray) (v pl : Int) :
    OwnN ((W.setCell ⟨z, 3, none⟩ (.int .i64 v)).alloc (.cells #[.int .i64 kd, .int .i64 nm, .string tx, .int .i64 v, .int .i64 pl] 39)) w.heap.size g c k out ∧
      Below w.heap.size w ((W.setCell ⟨z, 3, none⟩ (.int .i64 v)).alloc (.cells #[.int .i64 kd, .int .i64 nm, .string tx, .int .i64 v, .int .i64 pl] 39)) ∧
      ∀ j u, (Nd.row ⟨kd, nm, tx, v, pl⟩)[j]? = some u → ((W.setCell ⟨z, 3, none⟩ (.int .i64 v)).alloc (.cells #[.int .i64 kd, .int .i64 nm, .string tx, .int .i64 v, .int .i64 pl] 39)).cell? (Addr.add ⟨W.heap.size, 0, none⟩ j) = some u := by
  have b3 : But (· = z) W (W.setCell ⟨z, 3, none⟩ (.int .i64 v)) := (But.refl (· = z) W).setCell (p := ⟨z, 3, none⟩) rfl _
  have hs : (W.setCell ⟨z, 3, none⟩ (.int .i64 v)).heap.size = W.heap.size := by simp
  have h1 := (ho.but9 b3 hg).alloc (.cells #[.int .i64 kd, .int .i64 nm, .string tx, .int .i64 v, .int .i64 pl] 39)
  have h3 : Below w.heap.size w (W.setCell ⟨z, 3, none⟩ (.int .i64 v)) := hb.trans (b3.below hb.size (fun k hk => by omega))
  have h4 := nd_new_cells (W.setCell ⟨z, 3, none⟩ (.int .i64 v)) ⟨kd, nm, tx, v, pl⟩
  rw [hs] at h4
  exact ⟨h1, h3.alloc h3.size _, h4⟩

theorem OwnN.made0 {w : World} {B n : Nat} (hB : B ≤ w.heap.size) (hn : n ≤ 1048576) : OwnN (w.alloc (.cells (madeCells #[.int .i64 0, .int .i64 0, .string ByteArray.empty, .int .i64 0, .int .i64 0] (n * 5)) 39)) B w.heap.size n 0 [] := by
  refine ⟨rfl, rfl, Or.inr ⟨_, n, _, rfl, hB, heap_alloc_new _ _, Nat.zero_le _, by unfold maxLen; omega, ?_, ?_⟩⟩
  · simp [madeCells]
  · simp [flat]

theorem make_nodes0 (n : Nat) (h : n ≤ 1048576) (w : World) :
    (Instr.makeSlice 25 (.int .i64 0) (.int .i64 (n : Int))).run Try.prog w = .ok (.slice (some ⟨w.heap.size, 0, none⟩) 0 n) (w.alloc (.cells (madeCells #[.int .i64 0, .int .i64 0, .string ByteArray.empty, .int .i64 0, .int .i64 0] (n * 5)) 39)) := by
  obtain ⟨i, hi, hzz⟩ := Option.map_eq_some_iff.1 Try.infoN
  simp only [Prod.mk.injEq] at hzz
  obtain ⟨hz, hs, hb⟩ := hzz
  have hr := run_make (P := Try.prog) w 25 39 i _ Try.underlying25 hi hz .i64 .i64 0 n (by omega) (by omega) (by rw [hb]; omega) (by omega)
  simp only [Int.toNat_natCast, Int.toNat_zero, hs] at hr
  exact hr

set_option maxHeartbeats 2000000 in
set_option maxRecDepth 20000 in
theorem withoutTypes_any (t : List Nd) (m : Nat) (HM : Hid (t.length = m)) (hm : m ≤ 1048576) (ao : Option Addr) (cap : Nat) (w : World) (hx : Nodes w ao t) :
    Calls Try.prog 34 #[.slice ao m cap] w fun e w' => ∃ g c l, e = .returned (.slice (some ⟨g, 0, none⟩) l c) ∧ OwnN w' w.heap.size g c l (outTo t m) ∧ Below w.heap.size w w' := by
  obtain ⟨i0, hi, hz0, hz1, hz2⟩ := info_parts Try.infoN
  go_enter Try.func34, Try.ntmps34
  go_wp2
  rw [make_nodes0 m hm w]
  simp only [Result.andThen]
  rw [Oper.upon_value]
  have hO := OwnN.made0 (w := w) (B := w.heap.size) (Nat.le_refl _) hm
  have hA := (Below.refl w.heap.size w).alloc (Nat.le_refl _) (.cells (madeCells #[.int .i64 0, .int .i64 0, .string ByteArray.empty, .int .i64 0, .int .i64 0] (m * 5)) 39)
  generalize w.alloc (.cells (madeCells #[.int .i64 0, .int .i64 0, .string ByteArray.empty, .int .i64 0, .int .i64 0] (m * 5)) 39) = W0 at hO hA ⊢
  go_wp2
  go_loopw [3, 11] (fun vo vi wr => ∃ (k g c l : Nat), k ≤ m ∧ vi = .int .i64 (k : Int) ∧ vo = .slice (some ⟨g, 0, none⟩) l c ∧ OwnN wr w.heap.size g c l (outTo t k) ∧ Below w.heap.size w wr) (fun _ vi _ => m - (intOf vi).toNat)
  case atStart => exact ⟨0, w.heap.size, m, 0, Nat.zero_le _, rfl, rfl, hO, hA⟩
  case round =>
    clear hO hA
    obtain ⟨k, g, c, l, hk, rfl, rfl, hown, hb⟩ := hrel
    by_cases hlt : k < m
    rotate_left
    · obtain rfl : k = m := by omega
      clear hx
      go_wp2
      go_ret
      exact ⟨g, c, l, rfl, hown, hb⟩
    have hltx : k < t.length := by have := HM.out; omega
    obtain ⟨x, hxk⟩ : ∃ x, t[k] = x := ⟨_, rfl⟩
    obtain ⟨b, o, rfl, hn⟩ := hx.below hb k hltx
    rw [hxk] at hn
    have HX : Hid (ndAt t k = x) := by show ndAt t k = x; rw [ndAt_get hltx, hxk]
    obtain ⟨kd, nm, tx, ks, pl⟩ := x
    obtain ⟨c0, c1, c2, c3, c4⟩ := hn
    simp only at c0 c1 c2 c3 c4
    have HS : Hid (outTo t (k + 1) = if typI kd then outTo t k else outTo t k ++ [eraI ⟨kd, nm, tx, ks, pl⟩]) := by
      show outTo t (k + 1) = _
      rw [outTo, HX.out]
    have hll : l ≤ k := by have h9 := outTo_len t k; have := hown.1; omega
    have hob := owns_block hown.2
    have hlb : b < wr.heap.size := lt_of_cell c0
    obtain ⟨out, hout⟩ : ∃ out, outTo t k = out := ⟨_, rfl⟩
    rw [hout] at hown HS
    clear hxk hx HX hout
    have TI := isTypingI_any kd
    have nW : NodeAt (wr.alloc (.cells #[.int .i64 kd, .int .i64 nm, .string tx, .int .i64 ks, .int .i64 pl] 39)) wr.heap.size 0 ⟨kd, nm, tx, ks, pl⟩ := by
      refine ⟨?_, ?_, ?_, ?_, ?_⟩ <;> (rw [cell_of_row _ _ _ _ _ _ (heap_alloc_new _ _)]; rfl)
    by_cases h0 : kd = 71 ∨ kd = 74 ∨ kd = 90
    · rcases h0 with rfl | rfl | rfl
      · have HT : Hid (outTo t (k + 1) = out ++ [⟨71, nm, tx, 0, pl⟩]) := HS.out
        rw [show typI 71 = false from rfl] at TI
        have nW : NodeAt (wr.alloc (.cells #[.int .i64 71, .int .i64 nm, .string tx, .int .i64 0, .int .i64 pl] 39)) wr.heap.size 0 ⟨71, nm, tx, 0, pl⟩ := by
          refine ⟨?_, ?_, ?_, ?_, ?_⟩ <;> (rw [cell_of_row _ _ _ _ _ _ (heap_alloc_new _ _)]; rfl)
        have hbW := hb.alloc hb.size (.cells #[.int .i64 71, .int .i64 nm, .string tx, .int .i64 0, .int .i64 pl] 39)
        have hoW := hown.alloc (.cells #[.int .i64 71, .int .i64 nm, .string tx, .int .i64 0, .int .i64 pl] 39)
        go_wp2_with fail
        refine (TI _).mono ?_
        rintro e w3 ⟨rfl, rfl⟩
        have hsz : (wr.alloc (.cells #[.int .i64 71, .int .i64 nm, .string tx, .int .i64 0, .int .i64 pl] 39)).heap.size = wr.heap.size + 1 := by simp
        generalize wr.alloc (.cells #[.int .i64 71, .int .i64 nm, .string tx, .int .i64 0, .int .i64 pl] 39) = W0 at hoW hbW nW hsz ⊢
        have hzb := hb.size
        generalize wr.heap.size = z at nW hsz hzb hob ⊢
        obtain ⟨d0, d1, d2, d3, d4⟩ := nW
        simp only [Nat.zero_add] at d0 d1 d2 d3 d4
        have lz : z < W0.heap.size := by omega
        have hown3 := hoW.alloc (.cells #[.int .i64 71, .int .i64 nm, .string tx, .int .i64 0, .int .i64 pl] 39)
        have hb3 := hbW.alloc hbW.size (.cells #[.int .i64 71, .int .i64 nm, .string tx, .int .i64 0, .int .i64 pl] 39)
        have hcells := nd_new_cells W0 ⟨71, nm, tx, 0, pl⟩
        have hzW : w.heap.size ≤ W0.heap.size := by omega
        have hgW : g < W0.heap.size := by omega
        clear hsz
        clear hoW hbW TI c0 c1 c2 c3 c4 HS hb hown
        go_wp2_with (at_builtin; refine wpList_append2 _ rfl (.tmp 35) (.tmp 37) 25 rfl w.heap.size 39 i0 _ 5 48 Try.underlying25 hi hz0 hz1 hz2 rfl (by decide) g l c _ rfl hown3.2 ⟨_, 0, none⟩ 1 1 (Nd.row ⟨71, nm, tx, 0, pl⟩) rfl rfl hcells (nd_row_one _) ?a3 ?a4 ?a5 ?_)
        case a3 => unfold maxLen; omega
        case a4 => omega
        case a5 => simp; omega
        intro g2 c2' w2 hown4 hgrow2 hwh
        have hO4 := OwnN.push hown4 hown3.1 rfl
        have hbb : Below w.heap.size w w2 := hb3.grown hgrow2 (by simp; omega) (fun q hq => by cases hq; exact hob.1)
        clear hown4 hgrow2 hwh hown3 hb3 hcells
        go_wp2
        go_roundw
        case rel => exact ⟨k + 1, g2, c2', l + 1, by omega, by go_num, rfl, by rw [HT.out]; exact hO4, hbb⟩
        case measure => simp [intOf]; omega
      · have HT : Hid (outTo t (k + 1) = out ++ [⟨74, nm, tx, 0, pl⟩]) := HS.out
        rw [show typI 74 = false from rfl] at TI
        have nW : NodeAt (wr.alloc (.cells #[.int .i64 74, .int .i64 nm, .string tx, .int .i64 0, .int .i64 pl] 39)) wr.heap.size 0 ⟨74, nm, tx, 0, pl⟩ := by
          refine ⟨?_, ?_, ?_, ?_, ?_⟩ <;> (rw [cell_of_row _ _ _ _ _ _ (heap_alloc_new _ _)]; rfl)
        have hbW := hb.alloc hb.size (.cells #[.int .i64 74, .int .i64 nm, .string tx, .int .i64 0, .int .i64 pl] 39)
        have hoW := hown.alloc (.cells #[.int .i64 74, .int .i64 nm, .string tx, .int .i64 0, .int .i64 pl] 39)
        go_wp2_with fail
        refine (TI _).mono ?_
        rintro e w3 ⟨rfl, rfl⟩
        have hsz : (wr.alloc (.cells #[.int .i64 74, .int .i64 nm, .string tx, .int .i64 0, .int .i64 pl] 39)).heap.size = wr.heap.size + 1 := by simp
        generalize wr.alloc (.cells #[.int .i64 74, .int .i64 nm, .string tx, .int .i64 0, .int .i64 pl] 39) = W0 at hoW hbW nW hsz ⊢
        have hzb := hb.size
        generalize wr.heap.size = z at nW hsz hzb hob ⊢
        obtain ⟨d0, d1, d2, d3, d4⟩ := nW
        simp only [Nat.zero_add] at d0 d1 d2 d3 d4
        have lz : z < W0.heap.size := by omega
        have hown3 := hoW.alloc (.cells #[.int .i64 74, .int .i64 nm, .string tx, .int .i64 0, .int .i64 pl] 39)
        have hb3 := hbW.alloc hbW.size (.cells #[.int .i64 74, .int .i64 nm, .string tx, .int .i64 0, .int .i64 pl] 39)
        have hcells := nd_new_cells W0 ⟨74, nm, tx, 0, pl⟩
        have hzW : w.heap.size ≤ W0.heap.size := by omega
        have hgW : g < W0.heap.size := by omega
        clear hsz
        clear hoW hbW TI c0 c1 c2 c3 c4 HS hb hown
        go_wp2_with (at_builtin; refine wpList_append2 _ rfl (.tmp 35) (.tmp 37) 25 rfl w.heap.size 39 i0 _ 5 48 Try.underlying25 hi hz0 hz1 hz2 rfl (by decide) g l c _ rfl hown3.2 ⟨_, 0, none⟩ 1 1 (Nd.row ⟨74, nm, tx, 0, pl⟩) rfl rfl hcells (nd_row_one _) ?a3 ?a4 ?a5 ?_)
        case a3 => unfold maxLen; omega
        case a4 => omega
        case a5 => simp; omega
        intro g2 c2' w2 hown4 hgrow2 hwh
        have hO4 := OwnN.push hown4 hown3.1 rfl
        have hbb : Below w.heap.size w w2 := hb3.grown hgrow2 (by simp; omega) (fun q hq => by cases hq; exact hob.1)
        clear hown4 hgrow2 hwh hown3 hb3 hcells
        go_wp2
        go_roundw
        case rel => exact ⟨k + 1, g2, c2', l + 1, by omega, by go_num, rfl, by rw [HT.out]; exact hO4, hbb⟩
        case measure => simp [intOf]; omega
      · have HT : Hid (outTo t (k + 1) = out ++ [⟨90, nm, tx, 0, pl⟩]) := HS.out
        rw [show typI 90 = false from rfl] at TI
        have nW : NodeAt (wr.alloc (.cells #[.int .i64 90, .int .i64 nm, .string tx, .int .i64 0, .int .i64 pl] 39)) wr.heap.size 0 ⟨90, nm, tx, 0, pl⟩ := by
          refine ⟨?_, ?_, ?_, ?_, ?_⟩ <;> (rw [cell_of_row _ _ _ _ _ _ (heap_alloc_new _ _)]; rfl)
        have hbW := hb.alloc hb.size (.cells #[.int .i64 90, .int .i64 nm, .string tx, .int .i64 0, .int .i64 pl] 39)
        have hoW := hown.alloc (.cells #[.int .i64 90, .int .i64 nm, .string tx, .int .i64 0, .int .i64 pl] 39)
        go_wp2_with fail
        refine (TI _).mono ?_
        rintro e w3 ⟨rfl, rfl⟩
        have hsz : (wr.alloc (.cells #[.int .i64 90, .int .i64 nm, .string tx, .int .i64 0, .int .i64 pl] 39)).heap.size = wr.heap.size + 1 := by simp
        generalize wr.alloc (.cells #[.int .i64 90, .int .i64 nm, .string tx, .int .i64 0, .int .i64 pl] 39) = W0 at hoW hbW nW hsz ⊢
        have hzb := hb.size
        generalize wr.heap.size = z at nW hsz hzb hob ⊢
        obtain ⟨d0, d1, d2, d3, d4⟩ := nW
        simp only [Nat.zero_add] at d0 d1 d2 d3 d4
        have lz : z < W0.heap.size := by omega
        have hown3 := hoW.alloc (.cells #[.int .i64 90, .int .i64 nm, .string tx, .int .i64 0, .int .i64 pl] 39)
        have hb3 := hbW.alloc hbW.size (.cells #[.int .i64 90, .int .i64 nm, .string tx, .int .i64 0, .int .i64 pl] 39)
        have hcells := nd_new_cells W0 ⟨90, nm, tx, 0, pl⟩
        have hzW : w.heap.size ≤ W0.heap.size := by omega
        have hgW : g < W0.heap.size := by omega
        clear hsz
        clear hoW hbW TI c0 c1 c2 c3 c4 HS hb hown
        go_wp2_with (at_builtin; refine wpList_append2 _ rfl (.tmp 35) (.tmp 37) 25 rfl w.heap.size 39 i0 _ 5 48 Try.underlying25 hi hz0 hz1 hz2 rfl (by decide) g l c _ rfl hown3.2 ⟨_, 0, none⟩ 1 1 (Nd.row ⟨90, nm, tx, 0, pl⟩) rfl rfl hcells (nd_row_one _) ?a3 ?a4 ?a5 ?_)
        case a3 => unfold maxLen; omega
        case a4 => omega
        case a5 => simp; omega
        intro g2 c2' w2 hown4 hgrow2 hwh
        have hO4 := OwnN.push hown4 hown3.1 rfl
        have hbb : Below w.heap.size w w2 := hb3.grown hgrow2 (by simp; omega) (fun q hq => by cases hq; exact hob.1)
        clear hown4 hgrow2 hwh hown3 hb3 hcells
        go_wp2
        go_roundw
        case rel => exact ⟨k + 1, g2, c2', l + 1, by omega, by go_num, rfl, by rw [HT.out]; exact hO4, hbb⟩
        case measure => simp [intOf]; omega
    have u71 : (kd == 71) = false := by simp; omega
    have u74 : (kd == 74) = false := by simp; omega
    have u90 : (kd == 90) = false := by simp; omega
    by_cases h1 : kd = 76 ∨ kd = 82 ∨ kd = 85 ∨ kd = 91
    · rcases h1 with rfl | rfl | rfl | rfl
      · have HT : Hid (outTo t (k + 1) = out ++ [⟨76, nm, tx, 1, pl⟩]) := HS.out
        rw [show typI 76 = false from rfl] at TI
        have nW : NodeAt (wr.alloc (.cells #[.int .i64 76, .int .i64 nm, .string tx, .int .i64 1, .int .i64 pl] 39)) wr.heap.size 0 ⟨76, nm, tx, 1, pl⟩ := by
          refine ⟨?_, ?_, ?_, ?_, ?_⟩ <;> (rw [cell_of_row _ _ _ _ _ _ (heap_alloc_new _ _)]; rfl)
        have hbW := hb.alloc hb.size (.cells #[.int .i64 76, .int .i64 nm, .string tx, .int .i64 1, .int .i64 pl] 39)
        have hoW := hown.alloc (.cells #[.int .i64 76, .int .i64 nm, .string tx, .int .i64 1, .int .i64 pl] 39)
        go_wp2_with fail
        refine (TI _).mono ?_
        rintro e w3 ⟨rfl, rfl⟩
        have hsz : (wr.alloc (.cells #[.int .i64 76, .int .i64 nm, .string tx, .int .i64 1, .int .i64 pl] 39)).heap.size = wr.heap.size + 1 := by simp
        generalize wr.alloc (.cells #[.int .i64 76, .int .i64 nm, .string tx, .int .i64 1, .int .i64 pl] 39) = W0 at hoW hbW nW hsz ⊢
        have hzb := hb.size
        generalize wr.heap.size = z at nW hsz hzb hob ⊢
        obtain ⟨d0, d1, d2, d3, d4⟩ := nW
        simp only [Nat.zero_add] at d0 d1 d2 d3 d4
        have lz : z < W0.heap.size := by omega
        have hown3 := hoW.alloc (.cells #[.int .i64 76, .int .i64 nm, .string tx, .int .i64 1, .int .i64 pl] 39)
        have hb3 := hbW.alloc hbW.size (.cells #[.int .i64 76, .int .i64 nm, .string tx, .int .i64 1, .int .i64 pl] 39)
        have hcells := nd_new_cells W0 ⟨76, nm, tx, 1, pl⟩
        have hzW : w.heap.size ≤ W0.heap.size := by omega
        have hgW : g < W0.heap.size := by omega
        clear hsz
        clear hoW hbW TI c0 c1 c2 c3 c4 HS hb hown
        go_wp2_with (at_builtin; refine wpList_append2 _ rfl (.tmp 35) (.tmp 37) 25 rfl w.heap.size 39 i0 _ 5 48 Try.underlying25 hi hz0 hz1 hz2 rfl (by decide) g l c _ rfl hown3.2 ⟨_, 0, none⟩ 1 1 (Nd.row ⟨76, nm, tx, 1, pl⟩) rfl rfl hcells (nd_row_one _) ?a3 ?a4 ?a5 ?_)
        case a3 => unfold maxLen; omega
        case a4 => omega
        case a5 => simp; omega
        intro g2 c2' w2 hown4 hgrow2 hwh
        have hO4 := OwnN.push hown4 hown3.1 rfl
        have hbb : Below w.heap.size w w2 := hb3.grown hgrow2 (by simp; omega) (fun q hq => by cases hq; exact hob.1)
        clear hown4 hgrow2 hwh hown3 hb3 hcells
        go_wp2
        go_roundw
        case rel => exact ⟨k + 1, g2, c2', l + 1, by omega, by go_num, rfl, by rw [HT.out]; exact hO4, hbb⟩
        case measure => simp [intOf]; omega
      · have HT : Hid (outTo t (k + 1) = out ++ [⟨82, nm, tx, 1, pl⟩]) := HS.out
        rw [show typI 82 = false from rfl] at TI
        have nW : NodeAt (wr.alloc (.cells #[.int .i64 82, .int .i64 nm, .string tx, .int .i64 1, .int .i64 pl] 39)) wr.heap.size 0 ⟨82, nm, tx, 1, pl⟩ := by
          refine ⟨?_, ?_, ?_, ?_, ?_⟩ <;> (rw [cell_of_row _ _ _ _ _ _ (heap_alloc_new _ _)]; rfl)
        have hbW := hb.alloc hb.size (.cells #[.int .i64 82, .int .i64 nm, .string tx, .int .i64 1, .int .i64 pl] 39)
        have hoW := hown.alloc (.cells #[.int .i64 82, .int .i64 nm, .string tx, .int .i64 1, .int .i64 pl] 39)
        go_wp2_with fail
        refine (TI _).mono ?_
        rintro e w3 ⟨rfl, rfl⟩
        have hsz : (wr.alloc (.cells #[.int .i64 82, .int .i64 nm, .string tx, .int .i64 1, .int .i64 pl] 39)).heap.size = wr.heap.size + 1 := by simp
        generalize wr.alloc (.cells #[.int .i64 82, .int .i64 nm, .string tx, .int .i64 1, .int .i64 pl] 39) = W0 at hoW hbW nW hsz ⊢
        have hzb := hb.size
        generalize wr.heap.size = z at nW hsz hzb hob ⊢
        obtain ⟨d0, d1, d2, d3, d4⟩ := nW
        simp only [Nat.zero_add] at d0 d1 d2 d3 d4
        have lz : z < W0.heap.size := by omega
        have hown3 := hoW.alloc (.cells #[.int .i64 82, .int .i64 nm, .string tx, .int .i64 1, .int .i64 pl] 39)
        have hb3 := hbW.alloc hbW.size (.cells #[.int .i64 82, .int .i64 nm, .string tx, .int .i64 1, .int .i64 pl] 39)
        have hcells := nd_new_cells W0 ⟨82, nm, tx, 1, pl⟩
        have hzW : w.heap.size ≤ W0.heap.size := by omega
        have hgW : g < W0.heap.size := by omega
        clear hsz
        clear hoW hbW TI c0 c1 c2 c3 c4 HS hb hown
        go_wp2_with (at_builtin; refine wpList_append2 _ rfl (.tmp 35) (.tmp 37) 25 rfl w.heap.size 39 i0 _ 5 48 Try.underlying25 hi hz0 hz1 hz2 rfl (by decide) g l c _ rfl hown3.2 ⟨_, 0, none⟩ 1 1 (Nd.row ⟨82, nm, tx, 1, pl⟩) rfl rfl hcells (nd_row_one _) ?a3 ?a4 ?a5 ?_)
        case a3 => unfold maxLen; omega
        case a4 => omega
        case a5 => simp; omega
        intro g2 c2' w2 hown4 hgrow2 hwh
        have hO4 := OwnN.push hown4 hown3.1 rfl
        have hbb : Below w.heap.size w w2 := hb3.grown hgrow2 (by simp; omega) (fun q hq => by cases hq; exact hob.1)
        clear hown4 hgrow2 hwh hown3 hb3 hcells
        go_wp2
        go_roundw
        case rel => exact ⟨k + 1, g2, c2', l + 1, by omega, by go_num, rfl, by rw [HT.out]; exact hO4, hbb⟩
        case measure => simp [intOf]; omega
      · have HT : Hid (outTo t (k + 1) = out ++ [⟨85, nm, tx, 1, pl⟩]) := HS.out
        rw [show typI 85 = false from rfl] at TI
        have nW : NodeAt (wr.alloc (.cells #[.int .i64 85, .int .i64 nm, .string tx, .int .i64 1, .int .i64 pl] 39)) wr.heap.size 0 ⟨85, nm, tx, 1, pl⟩ := by
          refine ⟨?_, ?_, ?_, ?_, ?_⟩ <;> (rw [cell_of_row _ _ _ _ _ _ (heap_alloc_new _ _)]; rfl)
        have hbW := hb.alloc hb.size (.cells #[.int .i64 85, .int .i64 nm, .string tx, .int .i64 1, .int .i64 pl] 39)
        have hoW := hown.alloc (.cells #[.int .i64 85, .int .i64 nm, .string tx, .int .i64 1, .int .i64 pl] 39)
        go_wp2_with fail
        refine (TI _).mono ?_
        rintro e w3 ⟨rfl, rfl⟩
        have hsz : (wr.alloc (.cells #[.int .i64 85, .int .i64 nm, .string tx, .int .i64 1, .int .i64 pl] 39)).heap.size = wr.heap.size + 1 := by simp
        generalize wr.alloc (.cells #[.int .i64 85, .int .i64 nm, .string tx, .int .i64 1, .int .i64 pl] 39) = W0 at hoW hbW nW hsz ⊢
        have hzb := hb.size
        generalize wr.heap.size = z at nW hsz hzb hob ⊢
        obtain ⟨d0, d1, d2, d3, d4⟩ := nW
        simp only [Nat.zero_add] at d0 d1 d2 d3 d4
        have lz : z < W0.heap.size := by omega
        have hown3 := hoW.alloc (.cells #[.int .i64 85, .int .i64 nm, .string tx, .int .i64 1, .int .i64 pl] 39)
        have hb3 := hbW.alloc hbW.size (.cells #[.int .i64 85, .int .i64 nm, .string tx, .int .i64 1, .int .i64 pl] 39)
        have hcells := nd_new_cells W0 ⟨85, nm, tx, 1, pl⟩
        have hzW : w.heap.size ≤ W0.heap.size := by omega
        have hgW : g < W0.heap.size := by omega
        clear hsz
        clear hoW hbW TI c0 c1 c2 c3 c4 HS hb hown
        go_wp2_with (at_builtin; refine wpList_append2 _ rfl (.tmp 35) (.tmp 37) 25 rfl w.heap.size 39 i0 _ 5 48 Try.underlying25 hi hz0 hz1 hz2 rfl (by decide) g l c _ rfl hown3.2 ⟨_, 0, none⟩ 1 1 (Nd.row ⟨85, nm, tx, 1, pl⟩) rfl rfl hcells (nd_row_one _) ?a3 ?a4 ?a5 ?_)
        case a3 => unfold maxLen; omega
        case a4 => omega
        case a5 => simp; omega
        intro g2 c2' w2 hown4 hgrow2 hwh
        have hO4 := OwnN.push hown4 hown3.1 rfl
        have hbb : Below w.heap.size w w2 := hb3.grown hgrow2 (by simp; omega) (fun q hq => by cases hq; exact hob.1)
        clear hown4 hgrow2 hwh hown3 hb3 hcells
        go_wp2
        go_roundw
        case rel => exact ⟨k + 1, g2, c2', l + 1, by omega, by go_num, rfl, by rw [HT.out]; exact hO4, hbb⟩
        case measure => simp [intOf]; omega
      · have HT : Hid (outTo t (k + 1) = out ++ [⟨91, nm, tx, 1, pl⟩]) := HS.out
        rw [show typI 91 = false from rfl] at TI
        have nW : NodeAt (wr.alloc (.cells #[.int .i64 91, .int .i64 nm, .string tx, .int .i64 1, .int .i64 pl] 39)) wr.heap.size 0 ⟨91, nm, tx, 1, pl⟩ := by
          refine ⟨?_, ?_, ?_, ?_, ?_⟩ <;> (rw [cell_of_row _ _ _ _ _ _ (heap_alloc_new _ _)]; rfl)
        have hbW := hb.alloc hb.size (.cells #[.int .i64 91, .int .i64 nm, .string tx, .int .i64 1, .int .i64 pl] 39)
        have hoW := hown.alloc (.cells #[.int .i64 91, .int .i64 nm, .string tx, .int .i64 1, .int .i64 pl] 39)
        go_wp2_with fail
        refine (TI _).mono ?_
        rintro e w3 ⟨rfl, rfl⟩
        have hsz : (wr.alloc (.cells #[.int .i64 91, .int .i64 nm, .string tx, .int .i64 1, .int .i64 pl] 39)).heap.size = wr.heap.size + 1 := by simp
        generalize wr.alloc (.cells #[.int .i64 91, .int .i64 nm, .string tx, .int .i64 1, .int .i64 pl] 39) = W0 at hoW hbW nW hsz ⊢
        have hzb := hb.size
        generalize wr.heap.size = z at nW hsz hzb hob ⊢
        obtain ⟨d0, d1, d2, d3, d4⟩ := nW
        simp only [Nat.zero_add] at d0 d1 d2 d3 d4
        have lz : z < W0.heap.size := by omega
        have hown3 := hoW.alloc (.cells #[.int .i64 91, .int .i64 nm, .string tx, .int .i64 1, .int .i64 pl] 39)
        have hb3 := hbW.alloc hbW.size (.cells #[.int .i64 91, .int .i64 nm, .string tx, .int .i64 1, .int .i64 pl] 39)
        have hcells := nd_new_cells W0 ⟨91, nm, tx, 1, pl⟩
        have hzW : w.heap.size ≤ W0.heap.size := by omega
        have hgW : g < W0.heap.size := by omega
        clear hsz
        clear hoW hbW TI c0 c1 c2 c3 c4 HS hb hown
        go_wp2_with (at_builtin; refine wpList_append2 _ rfl (.tmp 35) (.tmp 37) 25 rfl w.heap.size 39 i0 _ 5 48 Try.underlying25 hi hz0 hz1 hz2 rfl (by decide) g l c _ rfl hown3.2 ⟨_, 0, none⟩ 1 1 (Nd.row ⟨91, nm, tx, 1, pl⟩) rfl rfl hcells (nd_row_one _) ?a3 ?a4 ?a5 ?_)
        case a3 => unfold maxLen; omega
        case a4 => omega
        case a5 => simp; omega
        intro g2 c2' w2 hown4 hgrow2 hwh
        have hO4 := OwnN.push hown4 hown3.1 rfl
        have hbb : Below w.heap.size w w2 := hb3.grown hgrow2 (by simp; omega) (fun q hq => by cases hq; exact hob.1)
        clear hown4 hgrow2 hwh hown3 hb3 hcells
        go_wp2
        go_roundw
        case rel => exact ⟨k + 1, g2, c2', l + 1, by omega, by go_num, rfl, by rw [HT.out]; exact hO4, hbb⟩
        case measure => simp [intOf]; omega
    have u76 : (kd == 76) = false := by simp; omega
    have u82 : (kd == 82) = false := by simp; omega
    have u85 : (kd == 85) = false := by simp; omega
    have u91 : (kd == 91) = false := by simp; omega
    by_cases h2 : kd = 80
    · subst h2
      have HT : Hid (outTo t (k + 1) = out ++ [⟨80, nm, tx, 2, pl⟩]) := HS.out
      rw [show typI 80 = false from rfl] at TI
      have nW : NodeAt (wr.alloc (.cells #[.int .i64 80, .int .i64 nm, .string tx, .int .i64 2, .int .i64 pl] 39)) wr.heap.size 0 ⟨80, nm, tx, 2, pl⟩ := by
        refine ⟨?_, ?_, ?_, ?_, ?_⟩ <;> (rw [cell_of_row _ _ _ _ _ _ (heap_alloc_new _ _)]; rfl)
      have hbW := hb.alloc hb.size (.cells #[.int .i64 80, .int .i64 nm, .string tx, .int .i64 2, .int .i64 pl] 39)
      have hoW := hown.alloc (.cells #[.int .i64 80, .int .i64 nm, .string tx, .int .i64 2, .int .i64 pl] 39)
      go_wp2_with fail
      refine (TI _).mono ?_
      rintro e w3 ⟨rfl, rfl⟩
      have hsz : (wr.alloc (.cells #[.int .i64 80, .int .i64 nm, .string tx, .int .i64 2, .int .i64 pl] 39)).heap.size = wr.heap.size + 1 := by simp
      generalize wr.alloc (.cells #[.int .i64 80, .int .i64 nm, .string tx, .int .i64 2, .int .i64 pl] 39) = W0 at hoW hbW nW hsz ⊢
      have hzb := hb.size
      generalize wr.heap.size = z at nW hsz hzb hob ⊢
      obtain ⟨d0, d1, d2, d3, d4⟩ := nW
      simp only [Nat.zero_add] at d0 d1 d2 d3 d4
      have lz : z < W0.heap.size := by omega
      have hown3 := hoW.alloc (.cells #[.int .i64 80, .int .i64 nm, .string tx, .int .i64 2, .int .i64 pl] 39)
      have hb3 := hbW.alloc hbW.size (.cells #[.int .i64 80, .int .i64 nm, .string tx, .int .i64 2, .int .i64 pl] 39)
      have hcells := nd_new_cells W0 ⟨80, nm, tx, 2, pl⟩
      have hzW : w.heap.size ≤ W0.heap.size := by omega
      have hgW : g < W0.heap.size := by omega
      clear hsz
      clear hoW hbW TI c0 c1 c2 c3 c4 HS hb hown
      go_wp2_with (at_builtin; refine wpList_append2 _ rfl (.tmp 35) (.tmp 37) 25 rfl w.heap.size 39 i0 _ 5 48 Try.underlying25 hi hz0 hz1 hz2 rfl (by decide) g l c _ rfl hown3.2 ⟨_, 0, none⟩ 1 1 (Nd.row ⟨80, nm, tx, 2, pl⟩) rfl rfl hcells (nd_row_one _) ?a3 ?a4 ?a5 ?_)
      case a3 => unfold maxLen; omega
      case a4 => omega
      case a5 => simp; omega
      intro g2 c2' w2 hown4 hgrow2 hwh
      have hO4 := OwnN.push hown4 hown3.1 rfl
      have hbb : Below w.heap.size w w2 := hb3.grown hgrow2 (by simp; omega) (fun q hq => by cases hq; exact hob.1)
      clear hown4 hgrow2 hwh hown3 hb3 hcells
      go_wp2
      go_roundw
      case rel => exact ⟨k + 1, g2, c2', l + 1, by omega, by go_num, rfl, by rw [HT.out]; exact hO4, hbb⟩
      case measure => simp [intOf]; omega
    have u80 : (kd == 80) = false := by simp; omega
    have hek : ekids ⟨kd, nm, tx, ks, pl⟩ = ks := by
      unfold ekids
      rw [if_neg h0, if_neg h1, if_neg h2]
    cases hty : typI kd
    · rw [hty] at TI
      have HT : Hid (outTo t (k + 1) = out ++ [⟨kd, nm, tx, ks, pl⟩]) := by
        show outTo t (k + 1) = _
        rw [HS.out, hty]
        simp [eraI, hek]
      have nW : NodeAt (wr.alloc (.cells #[.int .i64 kd, .int .i64 nm, .string tx, .int .i64 ks, .int .i64 pl] 39)) wr.heap.size 0 ⟨kd, nm, tx, ks, pl⟩ := by
        refine ⟨?_, ?_, ?_, ?_, ?_⟩ <;> (rw [cell_of_row _ _ _ _ _ _ (heap_alloc_new _ _)]; rfl)
      have hbW := hb.alloc hb.size (.cells #[.int .i64 kd, .int .i64 nm, .string tx, .int .i64 ks, .int .i64 pl] 39)
      have hoW := hown.alloc (.cells #[.int .i64 kd, .int .i64 nm, .string tx, .int .i64 ks, .int .i64 pl] 39)
      go_wp2_with fail
      refine (TI _).mono ?_
      rintro e w3 ⟨rfl, rfl⟩
      have hsz : (wr.alloc (.cells #[.int .i64 kd, .int .i64 nm, .string tx, .int .i64 ks, .int .i64 pl] 39)).heap.size = wr.heap.size + 1 := by simp
      generalize wr.alloc (.cells #[.int .i64 kd, .int .i64 nm, .string tx, .int .i64 ks, .int .i64 pl] 39) = W0 at hoW hbW nW hsz ⊢
      have hzb := hb.size
      generalize wr.heap.size = z at nW hsz hzb hob ⊢
      obtain ⟨d0, d1, d2, d3, d4⟩ := nW
      simp only [Nat.zero_add] at d0 d1 d2 d3 d4
      have lz : z < W0.heap.size := by omega
      have hown3 := hoW.alloc (.cells #[.int .i64 kd, .int .i64 nm, .string tx, .int .i64 ks, .int .i64 pl] 39)
      have hb3 := hbW.alloc hbW.size (.cells #[.int .i64 kd, .int .i64 nm, .string tx, .int .i64 ks, .int .i64 pl] 39)
      have hcells := nd_new_cells W0 ⟨kd, nm, tx, ks, pl⟩
      have hzW : w.heap.size ≤ W0.heap.size := by omega
      have hgW : g < W0.heap.size := by omega
      clear hsz
      clear hoW hbW TI c0 c1 c2 c3 c4 HS hb hown
      go_wp2_with (at_builtin; refine wpList_append2 _ rfl (.tmp 35) (.tmp 37) 25 rfl w.heap.size 39 i0 _ 5 48 Try.underlying25 hi hz0 hz1 hz2 rfl (by decide) g l c _ rfl hown3.2 ⟨_, 0, none⟩ 1 1 (Nd.row ⟨kd, nm, tx, ks, pl⟩) rfl rfl hcells (nd_row_one _) ?a3 ?a4 ?a5 ?_)
      case a3 => unfold maxLen; omega
      case a4 => omega
      case a5 => simp; omega
      intro g2 c2' w2 hown4 hgrow2 hwh
      have hO4 := OwnN.push hown4 hown3.1 rfl
      have hbb : Below w.heap.size w w2 := hb3.grown hgrow2 (by simp; omega) (fun q hq => by cases hq; exact hob.1)
      clear hown4 hgrow2 hwh hown3 hb3 hcells
      go_wp2
      go_roundw
      case rel => exact ⟨k + 1, g2, c2', l + 1, by omega, by go_num, rfl, by rw [HT.out]; exact hO4, hbb⟩
      case measure => simp [intOf]; omega
    · rw [hty] at TI
      have hbW := hb.alloc hb.size (.cells #[.int .i64 kd, .int .i64 nm, .string tx, .int .i64 ks, .int .i64 pl] 39)
      have hoW := hown.alloc (.cells #[.int .i64 kd, .int .i64 nm, .string tx, .int .i64 ks, .int .i64 pl] 39)
      have HT : Hid (outTo t (k + 1) = out) := by
        show outTo t (k + 1) = _
        rw [HS.out, hty]
        rfl
      go_wp2_with fail
      refine (TI _).mono ?_
      rintro e w3 ⟨rfl, rfl⟩
      go_wp2
      go_roundw
      case rel => exact ⟨k + 1, g, c, l, by omega, by go_num, rfl, by rw [HT.out]; exact hoW, hbW⟩
      case measure => simp [intOf]; omega

end Go.Proofs.Ytocidoamfofefaa

import Derived.Test.YtdcnejhlmdkecaaGreatDoorProg
import Derived.Test.YtdcnejhlmdkecaaGreatDoorWAA
import Derived.ProofKit
import Derived.Deep.Slices
import Derived.Test.YtdcnejhlmdkecaaGreatDoorWAN
import Derived.Test.YtdcnejhlmdkecaaGreatDoorWBV
import Derived.Test.YtdcnejhlmdkecaaGreatDoorWBT
import Derived.Test.YtdcnejhlmdkecaaGreatDoorWBS
import Derived.Test.YtdcnejhlmdkecaaGreatDoorWBL
import Derived.Test.YtdcnejhlmdkecaaGreatDoorWAM
import Derived.Test.YtdcnejhlmdkecaaGreatDoorWBU
import Derived.Test.YtdcnejhlmdkecaaGreatDoorWBB
import Derived.Test.YtdcnejhlmdkecaaGreatDoorWAQ
namespace Go.Proofs.YtdcnejhlmdkecaaGreatDoor

open Go.ChangeShapes Go.WideShapes Go.ChangeAt Go.RowKit Go.Deep

theorem Tryz.cells33 : Tryz.prog.cellsOf 33 = 5 := by kernel_rfl
theorem Tryz.cells3 : Tryz.prog.cellsOf 3 = 1 := by kernel_rfl
theorem Tryz.cells2 : Tryz.prog.cellsOf 2 = 1 := by kernel_rfl
theorem Tryz.cells9 : Tryz.prog.cellsOf 9 = 1 := by kernel_rfl

set_option maxRecDepth 4000 in
/-- One node read out of five cells. -/
theorem open_nodeW {H : Type} {enc : TypeId × Value → H} {W : World} {base : Nat} {spare : Nat → Bool} {held : Bool} {fuel : Nat} {cs : List Value} {x : DataW H × List MemPlace}
    (h : DataW.trod enc Tryz.prog W base spare held fuel 33 cs = some x) :
    ∃ n : Nd, (n.text.size ≤ maxLen ∧ (Lit.int .i64 n.num).wf = true) ∧ cs = [.int .i64 n.kind, .int .i64 n.num, .string n.text, .int .i64 n.kids, .int .i64 n.place] := by
  obtain ⟨ys, k, _, _, hlen, hyl, hf⟩ := DataW.trod_struct Tryz.underlying33 h
  rw [Tryz.cells33] at hlen
  match cs, hlen with
  | [v0, v1, v2, v3, v4], _ =>
    have l0 : ∃ y, ys[0]? = some y := ⟨_, List.getElem?_eq_getElem (by simp at hyl; omega)⟩
    have l1 : ∃ y, ys[1]? = some y := ⟨_, List.getElem?_eq_getElem (by simp at hyl; omega)⟩
    have l2 : ∃ y, ys[2]? = some y := ⟨_, List.getElem?_eq_getElem (by simp at hyl; omega)⟩
    have l3 : ∃ y, ys[3]? = some y := ⟨_, List.getElem?_eq_getElem (by simp at hyl; omega)⟩
    have l4 : ∃ y, ys[4]? = some y := ⟨_, List.getElem?_eq_getElem (by simp at hyl; omega)⟩
    obtain ⟨y0, l0⟩ := l0
    obtain ⟨y1, l1⟩ := l1
    obtain ⟨y2, l2⟩ := l2
    obtain ⟨y3, l3⟩ := l3
    obtain ⟨y4, l4⟩ := l4
    have g0 := (hf 0 { name := "Kind", type := 3, offset := 0, embedded := false, tag := "", pkgPath := "", byteOffset := 0 } rfl).trans l0
    have g1 := (hf 1 { name := "Num", type := 2, offset := 1, embedded := false, tag := "", pkgPath := "", byteOffset := 8 } rfl).trans l1
    have g2 := (hf 2 { name := "Text", type := 9, offset := 2, embedded := false, tag := "", pkgPath := "", byteOffset := 16 } rfl).trans l2
    have g3 := (hf 3 { name := "Kids", type := 3, offset := 3, embedded := false, tag := "", pkgPath := "", byteOffset := 32 } rfl).trans l3
    have g4 := (hf 4 { name := "At", type := 3, offset := 4, embedded := false, tag := "", pkgPath := "", byteOffset := 40 } rfl).trans l4
    simp only [Tryz.cells3, Tryz.cells2, Tryz.cells9, List.drop_zero, List.drop_succ_cons, List.take_succ_cons, List.take_zero] at g0 g1 g2 g3 g4
    obtain ⟨a0, e0, _, _⟩ := DataW.trod_int Tryz.underlying3 g0
    obtain ⟨a1, e1, _, hw⟩ := DataW.trod_int Tryz.underlying2 g1
    obtain ⟨a2, e2, _, hs⟩ := DataW.trod_string Tryz.underlying9 g2
    obtain ⟨a3, e3, _, _⟩ := DataW.trod_int Tryz.underlying3 g3
    obtain ⟨a4, e4, _, _⟩ := DataW.trod_int Tryz.underlying3 g4
    simp at e0 e1 e2 e3 e4
    subst e0 e1 e2 e3 e4
    exact ⟨⟨a0, a1, a2, a3, a4⟩, ⟨hs, hw⟩, rfl⟩

set_option maxRecDepth 4000 in
/-- A slice of nodes that came in. -/
theorem open_nodesW {H : Type} {enc : TypeId × Value → H} {W : World} {base : Nat} {spare : Nat → Bool} {held : Bool} {fuel : Nat} {ao : Option Addr} {len cap : Nat} {x : DataW H × List MemPlace}
    (h : DataW.trod enc Tryz.prog W base spare held fuel 22 [.slice ao len cap] = some x) :
    ∃ xs : List Nd, xs.length = len ∧ len ≤ 9223372036854775807 ∧ Nodes W ao xs ∧ ∀ n ∈ xs, n.text.size ≤ maxLen ∧ (Lit.int .i64 n.num).wf = true := by
  rcases open_slice Tryz.underlying22 h with ⟨hcs, _⟩ | ⟨a, l, c, m, n, D, Pl, hcs, _, hl, hm, hmm, _, hx⟩
  · simp at hcs
    obtain ⟨rfl, rfl, rfl⟩ := hcs
    exact ⟨[], rfl, by omega, fun i hi => by simp at hi, by simp⟩
  · simp at hcs
    obtain ⟨rfl, rfl, rfl⟩ := hcs
    have hlm : len ≤ m := by rw [hmm]; split <;> omega
    unfold maxLen at hm
    have inh : Inhabited Nd := ⟨⟨0, 0, ByteArray.empty, 0, 0⟩⟩
    obtain ⟨F, hF⟩ := choose_lt (α := Nd) (n := len) (p := fun i nd => (nd.text.size ≤ maxLen ∧ (Lit.int .i64 nd.num).wf = true) ∧ ∃ b o, a = ⟨b, o, none⟩ ∧ NodeAt W b (o + i * 5) nd) (fun i hi => by
      obtain ⟨cs', h1, h2⟩ := hx i (by omega)
      obtain ⟨nd, hs, rfl⟩ := open_nodeW h2
      rw [Tryz.cells33] at h1
      obtain ⟨_, _, hc⟩ := World.cells?_some h1
      simp only [add_add] at hc
      have c0 := hc 0 (by omega)
      have c1 := hc 1 (by omega)
      have c2 := hc 2 (by omega)
      have c3 := hc 3 (by omega)
      have c4 := hc 4 (by omega)
      obtain ⟨b, o, sp⟩ := a
      have hsp : sp = none := by
        obtain ⟨cs0, z1, z2⟩ := hx 0 (by omega)
        obtain ⟨nd0, _, rfl⟩ := open_nodeW z2
        rw [Tryz.cells33] at z1
        obtain ⟨_, _, zc⟩ := World.cells?_some z1
        have z0 := zc 0 (by omega)
        simpa [Addr.add] using World.cell?_spot (z0.trans rfl)
      subst hsp
      have ad : ∀ j, Addr.add ⟨b, o, none⟩ j = ⟨b, o + j, none⟩ := by
        intro j
        unfold Addr.add
        split
        · simp_all
        · rfl
      simp [ad, ← Nat.add_assoc] at c0 c1 c2 c3 c4
      exact ⟨nd, hs, b, o, rfl, c0, c1, c2, c3, c4⟩)
    refine ⟨(List.range len).map F, by simp, by omega, ?_, ?_⟩
    · intro i hi
      have hi' : i < len := by simpa using hi
      obtain ⟨_, b, o, rfl, hn⟩ := hF i hi'
      exact ⟨b, o, rfl, by simpa using hn⟩
    · intro nd hnd
      simp at hnd
      obtain ⟨i, hi, rfl⟩ := hnd
      exact (hF i hi).1

end Go.Proofs.YtdcnejhlmdkecaaGreatDoor

namespace Go.Proofs.YtdcnejhlmdkecaaGreatDoor

open Go.RowKit

theorem typeb_span {t : List Nd} (h : typeb t = true) : 0 < t.length ∧ t.length ≤ 300 := by
  simp only [typeb, Bool.and_eq_true, decide_eq_true_eq] at h
  obtain ⟨⟨h1, h2⟩, _⟩ := h
  refine ⟨?_, h1⟩
  obtain ⟨h3, _⟩ := deep_after rfl h2
  exact h3

set_option maxHeartbeats 1000000 in
theorem implCanon_anyM (t : List Nd) (m : Nat) (HM : Hid (t.length = m)) (hm : m ≤ 1048576) (HW : Hid (∀ n ∈ t, n.kind = 61 → (Lit.int .i64 n.num).wf = true)) (ao : Option Addr) (cap : Nat) (w : World) (hx : Nodes w ao t) :
    Calls Tryz.prog 19 #[.slice ao m cap] w fun e w' => ∃ ag cg, e = .returned (.slice ag (canonOf t).length cg) ∧ Ans w' w.heap.size ag (canonOf t) ∧ Below w.heap.size w w' := by
  have HT := iIsType_any t m HM hm ao cap w hx
  cases ht : typeb t
  · rw [ht] at HT
    have HV : Hid (canonOf t = []) := by simp [Hid, canonOf, ht]
    clear hx
    go_enter Tryz.func19, Tryz.ntmps19
    go_wp2_with fail
    refine HT.mono ?_
    rintro e w1 ⟨rfl, hb1⟩
    clear HT
    go_wp2
    go_ret
    rw [HV.out]
    exact ⟨_, _, rfl, Or.inl rfl, hb1.alloc hb1.size _⟩
  · rw [ht] at HT
    obtain ⟨h0, h3⟩ := typeb_span ht
    have h3m : m ≤ 300 := by have := HM.out; omega
    obtain ⟨b, o, rfl, hn0⟩ := hx 0 h0
    have HV : Hid (canonOf t = (nmTo 1 t m).2) := by
      rw [Hid, canonOf, if_pos ht, nmTo_one, HM.out]
    have HL : Hid ((nmTo 1 t m).2.length = m) := (nmTo_len 1 t m (by have := HM.out; omega)).1
    clear hn0 h0 h3
    go_enter Tryz.func19, Tryz.ntmps19
    go_wp2_with fail
    refine HT.mono ?_
    rintro e w1 ⟨rfl, hb1⟩
    have hx1 := hx.below hb1
    clear HT hx
    go_wp2_with fail
    refine (numberedFrom_any 1 (by omega) (by omega) t m HM h3m HW b o cap w1 hx1).mono ?_
    rintro e w2 ⟨g, c, rfl, hg, hr, hb2⟩
    have hs := hb1.size
    have hb := Below.step hb1 hb2
    clear hb1 hb2 hx1
    go_wp2
    go_ret
    rw [HV.out, HL.out]
    exact ⟨_, _, rfl, hr.ans (by omega), hb⟩

/-- What errors.As must find of the program's variables. -/
def ErrT (w : World) : Prop := w.cell? ⟨1, 0, none⟩ = some (.iface 163 (.agg #[.pointer (some ⟨2, 70, none⟩)]))

theorem ErrT.below {w w' : World} {z : Nat} (h : ErrT w) (hb : Below z w w') (hz : 1 < z) : ErrT w' := (hb.cell (p := ⟨1, 0, none⟩) hz).trans h

set_option maxRecDepth 20000 in
set_option maxHeartbeats 2000000 in
theorem isClash_yes (ub : Nat) (v : Addr) (w : World) (hg : ErrT w) (hu : w.cell? ⟨ub, 1, none⟩ = some (.iface 114 (.pointer (some v)))) :
    Calls Tryz.prog 37 #[.iface 73 (.pointer (some ⟨ub, 0, none⟩))] w fun e w' => e = .returned (.bool true) ∧ Below w.heap.size w w' := by
  have hb0 : Below w.heap.size w (w.alloc (.cells #[.pointer none] 114)) := (Below.refl _ w).alloc (Nat.le_refl _) _
  have hlt : 1 < w.heap.size := lt_of_cell hg
  have HC := as_cl ub v ⟨w.heap.size, 0, none⟩ (.pointer none) (w.alloc (.cells #[.pointer none] 114)) (hg.below hb0 hlt) ((hb0.cell (p := ⟨ub, 1, none⟩) (lt_of_cell hu)).trans hu) (by simp) (by simp)
  clear hu
  go_enter Tryz.func37, Tryz.ntmps37
  go_wp2_with fail
  refine HC.mono ?_
  rintro e w' ⟨rfl, hw'⟩
  have hb' : Below w.heap.size w w' := by
    rw [hw']
    exact ((((hb0.alloc (by simp) _).alloc (by simp; omega) _).alloc (by simp; omega) _).alloc (by simp; omega) _).setCell (p := ⟨w.heap.size, 0, none⟩) (Nat.le_refl _) _
  clear HC hw'
  go_wp2
  go_ret
  exact ⟨rfl, hb'⟩

set_option maxRecDepth 20000 in
set_option maxHeartbeats 2000000 in
theorem isClash_no (ub : Nat) (gp : Value) (w : World) (hg : ErrT w) (hu : w.cell? ⟨ub, 1, none⟩ = some (.iface 223 gp)) :
    Calls Tryz.prog 37 #[.iface 73 (.pointer (some ⟨ub, 0, none⟩))] w fun e w' => e = .returned (.bool false) ∧ Below w.heap.size w w' := by
  have hb0 : Below w.heap.size w (w.alloc (.cells #[.pointer none] 114)) := (Below.refl _ w).alloc (Nat.le_refl _) _
  have hlt : 1 < w.heap.size := lt_of_cell hg
  have HC := as_la ub ⟨w.heap.size, 0, none⟩ gp (w.alloc (.cells #[.pointer none] 114)) (hg.below hb0 hlt) ((hb0.cell (p := ⟨ub, 1, none⟩) (lt_of_cell hu)).trans hu)
  clear hu
  go_enter Tryz.func37, Tryz.ntmps37
  go_wp2_with fail
  refine HC.mono ?_
  rintro e w' ⟨rfl, hw'⟩
  have hb' : Below w.heap.size w w' := by
    rw [hw']
    exact ((hb0.alloc (by simp) _).alloc (by simp; omega) _).alloc (by simp; omega) _
  clear HC hw'
  go_wp2
  go_ret
  exact ⟨rfl, hb'⟩

set_option maxRecDepth 20000 in
set_option maxHeartbeats 2000000 in
/-- errors.As of an upTo at **upTo, by what it leaves. -/
theorem as_upB (e : Addr) (tb : Nat) (w : World) (hg : ErrT w) (ht0 : w.heap[tb]? = some (.cells #[.pointer none] 73 (0, 0))) :
    Calls Tryz.prog 36 #[.iface 73 (.pointer (some e)), .iface 75 (.pointer (some ⟨tb, 0, none⟩))] w fun ev w' => ev = .returned (.bool true) ∧ w'.cell? ⟨tb, 0, none⟩ = some (.pointer (some e)) ∧ But (fun k => k = tb) w w' := by
  have hl : tb < w.heap.size := (Array.getElem?_eq_some_iff.1 ht0).1
  refine (as_up e ⟨tb, 0, none⟩ (.pointer none) w hg (by rw [cell_of_row _ _ _ _ 73 (0, 0) ht0]; rfl) (frozen_of_row w tb 0 _ 73 ht0)).mono ?_
  rintro ev w' ⟨rfl, rfl⟩
  have hb0 := ((((Below.refl _ w).alloc (Nat.le_refl _) (.cells #[.pointer (some ⟨tb, 0, none⟩)] 75)).alloc (by simp) (.cells #[.pointer (some ⟨2, 75, none⟩), .pointer (some ⟨w.heap.size, 0, none⟩), .int .u64 150] 123)).alloc (by simp; omega) (.cells #[.pointer (some ⟨2, 75, none⟩), .pointer (some ⟨w.heap.size, 0, none⟩), .int .u64 150] 123)).alloc (by simp; omega) (.cells #[.pointer (some e)] 73)
  have h4 := (hb0.block tb hl).trans ht0
  refine ⟨rfl, ?_, ?_⟩
  · have h5 := heap_setCell_same _ tb 0 _ 73 (.pointer (some e)) h4
    rw [cell_of_row _ _ _ _ 73 (0, 0) h5]
    rfl
  · exact (But.ofBelow (S := fun k => k = tb) hb0).setCell (p := ⟨tb, 0, none⟩) rfl _

end Go.Proofs.YtdcnejhlmdkecaaGreatDoor

namespace Go.Proofs.YtdcnejhlmdkecaaGreatDoor

open Go.RowKit Go.Maps

theorem bans_mono {w : World} {B B' : Nat} {ao : Option Addr} {bs : List (Int × List Nd)} (h : BAns w B ao bs) (hB : B' ≤ B) : BAns w B' ao bs := by
  rcases h with h | ⟨g, rs, e, h1, h2, hr⟩
  · exact Or.inl h
  · exact Or.inr ⟨g, rs, e, Nat.le_trans hB h1, fun r hm => Nat.le_trans hB (h2 r hm), hr⟩

/-! impl.Solve. -/

theorem solve_binds {ps : List (List Nd × List Nd)} {X : Nat → Prop} {f : Nat → CC} {lk : Nat → Option Nat} {K : (Option Addr × Nat × Nat) → List Nat} {U : Int → Int → Option Nat} {σ : Int → List Nd} {θ : Nat → DT} (hv : Valid ps) (hF : SolF ps X f lk K U σ θ) (hwf : ∀ x b, U 1 x = some b → (Lit.int .i64 x).wf = true) (hlen : ∀ x b, U 1 x = some b → (σ x).length ≤ 300) {bs : List (Int × List Nd)}
    (h : IsBinds (fun x => if (Lit.int .i64 x).wf = true then (U 1 x).map (fun _ => σ x) else none) bs) : SolveRes ps true 0 bs := by
  obtain ⟨h1, h2, h3⟩ := h
  have hB : ∀ p ∈ bs, (∃ b, U 1 p.1 = some b) ∧ p.2 = σ p.1 := by
    intro p hp
    have h9 := h2 p hp
    simp only at h9
    by_cases hw : (Lit.int .i64 p.1).wf = true
    · rw [if_pos hw] at h9
      cases hu : U 1 p.1 with
      | none => rw [hu] at h9; cases h9
      | some b =>
        rw [hu] at h9
        simp only [Option.map_some, Option.some.injEq] at h9
        exact ⟨⟨b, rfl⟩, h9.symm⟩
    · rw [if_neg hw] at h9
      cases h9
  refine .ok σ bs hv hF.ok h1 (fun x => ⟨fun hx => ?_, fun hx => ?_⟩) (fun p hp => ⟨(hB p hp).2, ?_⟩)
  · obtain ⟨p, hp, rfl⟩ := List.mem_map.1 hx
    exact (hF.occ p.1).1 (hB p hp).1
  · obtain ⟨b, hb⟩ := (hF.occ x).2 hx
    exact h3 x (by simp only; rw [if_pos (hwf x b hb), hb]; rfl)
  · obtain ⟨⟨b, hb⟩, e⟩ := hB p hp
    rw [e]
    exact hlen _ b hb

set_option maxRecDepth 20000 in
set_option maxHeartbeats 8000000 in
theorem implSolve_any (ps : List (List Nd × List Nd)) (m : Nat) (HM : Hid (ps.length = m)) (hm : m ≤ 1048576) (HPL : Hid (∀ p ∈ ps, p.1.length ≤ 1048576 ∧ p.2.length ≤ 1048576)) (HWF : Hid (∀ p ∈ ps, (∀ x ∈ p.1, (Lit.int .i64 x.num).wf = true) ∧ ∀ x ∈ p.2, (Lit.int .i64 x.num).wf = true)) (gp : Value) (ao : Option Addr) (cap : Nat) (w : World) (hgv : w.cell? ⟨0, 0, none⟩ = some (.iface 223 gp)) (hgt : ErrT w) (hx : Pairs w ao ps) :
    Calls Tryz.prog 18 #[.slice ao m cap] w fun e w' => ∃ (ok : Bool) (at' : Int) (bo : Option Addr) (l c : Nat) (bs : List (Int × List Nd)), e = .returned (.agg #[.bool ok, .int .i64 at', .slice bo l c]) ∧ bs.length = l ∧ SolveRes ps ok at' bs ∧ BAns w' w.heap.size bo bs ∧ Below w.heap.size w w' := by
  obtain ⟨z, hz⟩ : ∃ z, w.heap.size = z := ⟨_, rfl⟩
  have hz1 : 1 < w.heap.size := lt_of_cell hgt
  have HX : Hid (Pairs w ao ps) := hx
  have HGT : Hid (ErrT w) := hgt
  have HGV : Hid (w.cell? ⟨0, 0, none⟩ = some (.iface 223 gp)) := hgv
  clear hx hgt hgv
  go_enter Tryz.func18, Tryz.ntmps18
  go_wp2_with fail
  have hA : Below w.heap.size w (w.alloc (.cells #[.bool false, .int .i64 0, .slice none 0 0] 38)) := (Below.refl _ w).alloc (Nat.le_refl _) _
  have hzb : (w.alloc (.cells #[.bool false, .int .i64 0, .slice none 0 0] 38)).heap[z]? = some (.cells #[.bool false, .int .i64 0, .slice none 0 0] 38 (0, 0)) := by rw [← hz]; exact heap_alloc_new _ _
  have hzl0 : z < (w.alloc (.cells #[.bool false, .int .i64 0, .slice none 0 0] 38)).heap.size := (Array.getElem?_eq_some_iff.1 hzb).1
  refine (areTypes_any ps m HM hm HPL ao cap _ (HX.out.below hA)).mono ?_
  rintro e w1 ⟨⟨ok, rfl, hok⟩, hb1⟩
  have hrb1 := (hb1.block z hzl0).trans hzb
  have hbw1 : Below z w w1 := by rw [← hz]; exact Below.step hA hb1
  have hz1' := hbw1.size
  clear hA hzb hb1 hzl0
  cases ok with
  | false =>
    have HRES : Hid (SolveRes ps false (-1) []) := .bad (fun hv => by have := hok.2 hv; cases this)
    obtain ⟨r0, r1, r2, f0, f1, f2, hzl, hrbut⟩ := rbox3 (a' := .bool false) (b' := .int .i64 (-1)) (c' := .slice none 0 0) hrb1
    have hfin := hbw1.trans (hrbut.below (by omega) (fun q hq => by omega))
    clear hok hrb1
    go_wp2
    refine bodyPost_ret (v := .agg #[.bool false, .int .i64 (-1), .slice none 0 0]) (by simp [results, Tryz.results18, go_sem, r0, r1, r2]) rfl ?_
    exact ⟨false, -1, none, 0, 0, [], rfl, rfl, HRES.out, .inl rfl, by rw [hz]; exact hfin⟩
  | true =>
    have HV : Hid (Valid ps) := hok.1 rfl
    have hgv1 := (hbw1.cell (p := ⟨0, 0, none⟩) (by show 0 < z; omega)).trans HGV.out
    have hgt1 : ErrT w1 := HGT.out.below hbw1 (by omega)
    have HSO := solve_any ps m HM HV HWF 223 gp ao cap w1 hgv1 (HX.out.below (by rw [hz]; exact hbw1))
    have hzl1 : z < w1.heap.size := (Array.getElem?_eq_some_iff.1 hrb1).1
    clear hok hgv1
    go_wp2_with fail
    refine HSO.mono ?_
    rintro e w2 ⟨hres, hb2⟩
    have hbw2 : Below z w w2 := by rw [← hz] at hbw1 ⊢; exact Below.step hbw1 hb2
    have hz2 := hb2.size
    have hrb2 := (hb2.block z hzl1).trans hrb1
    have hgt2 : ErrT w2 := hgt1.below hb2 (by omega)
    clear HSO hbw1 hrb1 hgt1
    rcases hres with ⟨ub, r, v, rfl, hub, hcl, hsr⟩ | ⟨ub, r, rfl, hub, hcl, hsr⟩ | ⟨sb, mb, n, X, f, lk, d, K, U, D, σ, θ, rfl, hn, hXz, hS, s0, hO, hud, hUX, hwu, hF, hlen⟩
    · have HRES : Hid (SolveRes ps false (r : Int) []) := hsr
      have hB : Below w2.heap.size w2 (w2.alloc (.cells #[.pointer none] 73)) := (Below.refl _ w2).alloc (Nat.le_refl _) _
      have HAS := as_upB ⟨ub, 0, none⟩ w2.heap.size _ (hgt2.below hB (by omega)) (heap_alloc_new w2 (.cells #[.pointer none] 73))
      have hubl : ub < w2.heap.size := (Array.getElem?_eq_some_iff.1 hcl).1
      have HST : Hid (∀ w3, But (fun k => k = w2.heap.size) (w2.alloc (.cells #[.pointer none] 73)) w3 → Below z w w3 ∧ ErrT w3 ∧ w3.heap[z]? = some (.cells #[.bool false, .int .i64 0, .slice none 0 0] 38 (0, 0)) ∧ w3.heap[ub]? = some (.cells #[.int .i64 (r : Int), .iface 114 (.pointer (some v))] 78 (0, 0)) ∧ w2.heap.size < w3.heap.size) := by
        intro w3 hb3
        have hb23 : Below w2.heap.size w2 w3 := ⟨hb3.os.trans hB.os, hb3.tape.trans hB.tape, hb3.output.trans hB.output, Nat.le_trans hB.size hb3.size, fun k hk => (hb3.block k (by simp; omega) (by omega)).trans (hB.block k hk)⟩
        refine ⟨hbw2.trans (hb23.mono (by omega)), hgt2.below hb23 (by omega), (hb23.block z (by omega)).trans hrb2, (hb23.block ub hubl).trans hcl, ?_⟩
        have := hb3.size
        simp at this
        omega
      clear hsr hB
      go_wp2_with fail
      refine HAS.mono ?_
      rintro e w3 ⟨rfl, hft, hb3⟩
      obtain ⟨hbw3, hgt3, hrb3, hcl3, hl3⟩ := HST.out w3 hb3
      have HIC := isClash_yes ub v w3 hgt3 (by rw [cell_of_row _ _ _ _ 78 (0, 0) hcl3]; rfl)
      clear HAS HST hb3 hgt3 hgt2 hcl hrb2 hbw2
      go_wp2_with fail
      refine HIC.mono ?_
      rintro e w4 ⟨rfl, hb4⟩
      have hs3 := hbw3.size
      have hzl3 : z < w3.heap.size := (Array.getElem?_eq_some_iff.1 hrb3).1
      have hbw4 : Below z w w4 := hbw3.trans (hb4.mono (by omega))
      have hrb4 := (hb4.block z hzl3).trans hrb3
      have hft4 := (hb4.cell (p := ⟨w2.heap.size, 0, none⟩) hl3).trans hft
      have hcl4 := (hb4.block ub (by omega)).trans hcl3
      have hp4 : w4.cell? ⟨ub, 0, none⟩ = some (.int .i64 (r : Int)) := by rw [cell_of_row _ _ _ _ 78 (0, 0) hcl4]; rfl
      have hs4 := hb4.size
      have hl4 : w2.heap.size < w4.heap.size := by omega
      have hul4 : ub < w4.heap.size := by omega
      obtain ⟨r0, r1, r2, f0, f1, f2, hzl, hrbut⟩ := rbox3 (a' := .bool false) (b' := .int .i64 (r : Int)) (c' := .slice none 0 0) hrb4
      have hfin := hbw4.trans (hrbut.below (by omega) (fun q hq => by omega))
      clear HIC hb4 hrb3 hcl3 hft hrb4 hcl4 hbw3
      go_wp2
      refine bodyPost_ret (v := .agg #[.bool false, .int .i64 (r : Int), .slice none 0 0]) (by simp [results, Tryz.results18, go_sem, r0, r1, r2]) rfl ?_
      exact ⟨false, (r : Int), none, 0, 0, [], rfl, rfl, HRES.out, .inl rfl, by rw [hz]; exact hfin⟩
    · have HRES : Hid (SolveRes ps false (-1) []) := hsr
      have hB : Below w2.heap.size w2 (w2.alloc (.cells #[.pointer none] 73)) := (Below.refl _ w2).alloc (Nat.le_refl _) _
      have HAS := as_upB ⟨ub, 0, none⟩ w2.heap.size _ (hgt2.below hB (by omega)) (heap_alloc_new w2 (.cells #[.pointer none] 73))
      have hubl : ub < w2.heap.size := (Array.getElem?_eq_some_iff.1 hcl).1
      have HST : Hid (∀ w3, But (fun k => k = w2.heap.size) (w2.alloc (.cells #[.pointer none] 73)) w3 → Below z w w3 ∧ ErrT w3 ∧ w3.heap[z]? = some (.cells #[.bool false, .int .i64 0, .slice none 0 0] 38 (0, 0)) ∧ w3.heap[ub]? = some (.cells #[.int .i64 (r : Int), .iface 223 gp] 78 (0, 0)) ∧ w2.heap.size < w3.heap.size) := by
        intro w3 hb3
        have hb23 : Below w2.heap.size w2 w3 := ⟨hb3.os.trans hB.os, hb3.tape.trans hB.tape, hb3.output.trans hB.output, Nat.le_trans hB.size hb3.size, fun k hk => (hb3.block k (by simp; omega) (by omega)).trans (hB.block k hk)⟩
        refine ⟨hbw2.trans (hb23.mono (by omega)), hgt2.below hb23 (by omega), (hb23.block z (by omega)).trans hrb2, (hb23.block ub hubl).trans hcl, ?_⟩
        have := hb3.size
        simp at this
        omega
      clear hsr hB
      go_wp2_with fail
      refine HAS.mono ?_
      rintro e w3 ⟨rfl, hft, hb3⟩
      obtain ⟨hbw3, hgt3, hrb3, hcl3, hl3⟩ := HST.out w3 hb3
      have HIC := isClash_no ub gp w3 hgt3 (by rw [cell_of_row _ _ _ _ 78 (0, 0) hcl3]; rfl)
      clear HAS HST hb3 hgt3 hgt2 hcl hrb2 hbw2
      go_wp2_with fail
      refine HIC.mono ?_
      rintro e w4 ⟨rfl, hb4⟩
      have hs3 := hbw3.size
      have hzl3 : z < w3.heap.size := (Array.getElem?_eq_some_iff.1 hrb3).1
      have hbw4 : Below z w w4 := hbw3.trans (hb4.mono (by omega))
      have hrb4 := (hb4.block z hzl3).trans hrb3
      obtain ⟨r0, r1, r2, f0, f1, f2, hzl, hrbut⟩ := rbox3 (a' := .bool false) (b' := .int .i64 (-1)) (c' := .slice none 0 0) hrb4
      have hfin := hbw4.trans (hrbut.below (by omega) (fun q hq => by omega))
      clear HIC hb4 hrb3 hcl3 hft hrb4 hbw3
      go_wp2
      refine bodyPost_ret (v := .agg #[.bool false, .int .i64 (-1), .slice none 0 0]) (by simp [results, Tryz.results18, go_sem, r0, r1, r2]) rfl ?_
      exact ⟨false, -1, none, 0, 0, [], rfl, rfl, HRES.out, .inl rfl, by rw [hz]; exact hfin⟩
    · have hB : Below w2.heap.size w2 (w2.alloc (.cells #[.pointer none] 73)) := (Below.refl _ w2).alloc (Nat.le_refl _) _
      have HSB : Hid (∀ bs, IsBinds (fun x => if (Lit.int .i64 x).wf = true then (U 1 x).map (fun _ => σ x) else none) bs → SolveRes ps true 0 bs) := fun bs h => solve_binds HV.out hF hwu hlen h
      have hSB : CSto (w2.alloc (.cells #[.pointer none] 73)) X f lk d K := hS.still (But.ofBelow hB)
      have HFO := found_any X f lk d K θ (w2.alloc (.cells #[.pointer none] 73)) sb mb n (by omega) U D hSB hF.sat ((hB.cell (p := ⟨sb, 0, none⟩) (lt_of_cell s0)).trans s0) (ownsMap_but hO (But.ofBelow (S := fun _ => False) hB) (fun h => h)) hud hUX σ (fun x b e => ⟨hF.read x b e, hlen x b e⟩)
      have hbwB : Below z w (w2.alloc (.cells #[.pointer none] 73)) := hbw2.trans (hB.mono (by omega))
      have hrbB := (hB.block z (by omega)).trans hrb2
      have hzB : z < (w2.alloc (.cells #[.pointer none] 73)).heap.size := (Array.getElem?_eq_some_iff.1 hrbB).1
      have HXW : Hid (∀ i, X i → w1.heap.size ≤ i) := hXz
      clear hgt2 hS s0 hO hud hUX hF hlen hSB hwu hrb2 hbw2 hB hXz
      go_wp2_with fail
      refine (as_nil _ _).mono ?_
      rintro e w3 ⟨rfl, rfl⟩
      go_wp2_with fail
      refine HFO.mono ?_
      rintro e w4 ⟨tb, k, hk, rfl, hRw, hB4⟩
      have hbw4 : Below z w w4 := below_but hbwB hB4 (by omega) (fun i hi => by have := HXW.out i hi; omega)
      have hrb4 := (hB4.block z hzB (fun hx => by have := HXW.out z hx; omega)).trans hrbB
      have hzB4 := hB4.size
      have HBO := bindsOf_any _ _ tb k (by omega) w4 hRw hB4.size
      have hz4 := hbw4.size
      have hzl4 : z < w4.heap.size := (Array.getElem?_eq_some_iff.1 hrb4).1
      clear HFO hRw hB4 hrbB
      go_wp2_with fail
      refine HBO.mono ?_
      rintro e w5 ⟨ag, cg, bs, rfl, hIB, hBA, hb5⟩
      have HRES : Hid (SolveRes ps true 0 bs) := HSB.out bs hIB
      have hbw5 : Below z w w5 := hbw4.trans (hb5.mono (by omega))
      have hrb5 := (hb5.block z hzl4).trans hrb4
      have hBA2 : BAns w5 (z + 1) ag bs := bans_mono hBA (by omega)
      obtain ⟨r0, r1, r2, f0, f1, f2, hzl, hrbut⟩ := rbox3 (a' := .bool true) (b' := .int .i64 0) (c' := .slice ag bs.length cg) hrb5
      have hfin := hbw5.trans (hrbut.below (by omega) (fun q hq => by omega))
      have hans2 := bans_mono (hBA2.but hrbut (fun q hq e => by omega)) (B' := z) (by omega)
      clear HBO hIB hBA hb5 hrb4 hrb5 hbw4 hBA2
      go_wp2
      refine bodyPost_ret (v := .agg #[.bool true, .int .i64 0, .slice ag bs.length cg]) (by simp [results, Tryz.results18, go_sem, r0, r1, r2]) rfl ?_
      exact ⟨true, 0, ag, bs.length, cg, bs, rfl, rfl, HRES.out, by rw [hz]; exact hans2, by rw [hz]; exact hfin⟩

end Go.Proofs.YtdcnejhlmdkecaaGreatDoor

namespace Go.Proofs.YtdcnejhlmdkecaaGreatDoor

open Go.RowKit

set_option maxRecDepth 100000 in
set_option maxHeartbeats 8000000 in
theorem implMeet_any (a b : List Nd) (ma mb : Nat) (HMA : Hid (a.length = ma)) (HMB : Hid (b.length = mb)) (hma : ma ≤ 1048576) (hmb : mb ≤ 1048576) (HWA : Hid (∀ n ∈ a, (Lit.int .i64 n.num).wf = true)) (HWB : Hid (∀ n ∈ b, (Lit.int .i64 n.num).wf = true)) (gp : Value) (ao bo : Option Addr) (ca cb : Nat) (w : World) (hgv : w.cell? ⟨0, 0, none⟩ = some (.iface 223 gp)) (hgt : ErrT w) (hx : Nodes w ao a) (hy : Nodes w bo b) :
    Calls Tryz.prog 7 #[.slice ao ma ca, .slice bo mb cb] w fun e w' => ∃ ag cg out fl, e = .returned (.tuple #[.slice ag out.length cg, .bool fl]) ∧ MeetRes a b out fl ∧ Ans w' w.heap.size ag out ∧ Below w.heap.size w w' := by
  obtain ⟨z, hz⟩ : ∃ z, w.heap.size = z := ⟨_, rfl⟩
  have hz1 : 1 < z := by rw [← hz]; exact lt_of_cell hgt
  have HGV : Hid (w.cell? ⟨0, 0, none⟩ = some (.iface 223 gp)) := hgv
  have HGT : Hid (ErrT w) := hgt
  clear hgv hgt
  go_enter Tryz.func7, Tryz.ntmps7
  go_wp2_with fail
  refine (iIsType_any a ma HMA hma _ _ _ hx).mono ?_
  rintro e w1 ⟨rfl, hb1⟩
  cases hta : typeb a
  · have HR : Hid (MeetRes a b [] false) := .inl ⟨.inl hta, rfl, rfl⟩
    clear hx hy
    go_wp2
    go_ret2
    exact ⟨_, _, [], false, rfl, HR.out, .inl rfl, hb1.alloc hb1.size _⟩
  · go_wp2_with fail
    refine (iIsType_any b mb HMB hmb _ _ _ (hy.below hb1)).mono ?_
    rintro e w2 ⟨rfl, hb2⟩
    have hb2 := Below.step hb1 hb2
    clear hb1
    cases htb : typeb b
    · have HR : Hid (MeetRes a b [] false) := .inl ⟨.inr htb, rfl, rfl⟩
      clear hx hy
      go_wp2
      go_ret2
      exact ⟨_, _, [], false, rfl, HR.out, .inl rfl, hb2.alloc hb2.size _⟩
    · have HTA : Hid (typeb a = true) := hta
      have HTB : Hid (typeb b = true) := htb
      obtain ⟨h0a, h3a⟩ := typeb_span hta
      obtain ⟨h0b, h3b⟩ := typeb_span htb
      have hma3 : ma ≤ 300 := by have := HMA.out; omega
      have hmb3 : mb ≤ 300 := by have := HMB.out; omega
      obtain ⟨ab, ai, rfl, hq1⟩ := hx 0 h0a
      obtain ⟨bb, bi, rfl, hq2⟩ := hy 0 h0b
      have hx2 := hx.below hb2
      have hy2 := hy.below hb2
      have hbw2 : Below z w w2 := by rw [← hz]; exact hb2
      clear hq1 hq2
      clear hx hy h0a h3a h0b h3b hta htb hb2
      go_wp2_with fail
      refine (numberedFrom_any 1 (by omega) (by omega) a ma HMA hma3 (fun n hn _ => HWA.out n hn) ab ai ca w2 hx2).mono ?_
      rintro e w3 ⟨gx, cx, rfl, hgx, hrx, hb3⟩
      have hy3 := hy2.below hb3
      have hz2 := hbw2.size
      have hbw3 : Below z w w3 := hbw2.trans (hb3.mono (by omega))
      have hz3 := hbw3.size
      clear hx2 hy2 hbw2 hb3
      have HNF := numberedFrom_any ((ma : Int) + 1) (by omega) (by omega) b mb HMB hmb3 (fun n hn _ => HWB.out n hn) bb bi cb w3 hy3
      go_wp2_with fail
      refine HNF.mono ?_
      rintro e w4 ⟨gy, cy, rfl, hgy, hry, hb4⟩
      have hrx4 := hrx.below hb4
      have hbw4 : Below z w w4 := hbw3.trans (hb4.mono (by omega))
      have hz4 := hbw4.size
      have ex : (nmTo 1 a ma).2 = canonOf a := by rw [meetX_eq HTA.out, HMA.out]
      have ey : (nmTo ((ma : Int) + 1) b mb).2 = meetY ((a.length : Int) + 1) b := by unfold meetY; rw [HMA.out, HMB.out]
      rw [ex] at hrx4
      rw [ey] at hry
      have hlx : (canonOf a).length = ma := by rw [canon_len HTA.out, HMA.out]
      have hly : (meetY ((a.length : Int) + 1) b).length = mb := by
        unfold meetY
        rw [(nmTo_len _ b b.length (Nat.le_refl _)).1, HMB.out]
      have HPR := pairs_one w4 (cx := cx) (cy := cy) hrx4.nodes hry.nodes
      rw [hlx, hly] at HPR
      have hBp : Below w4.heap.size w4 (w4.alloc (.cells #[.slice (some ⟨gx, 0, none⟩) ma cx, .slice (some ⟨gy, 0, none⟩) mb cy] 41)) := (Below.refl _ w4).alloc (Nat.le_refl _) _
      have hbwp : Below z w (w4.alloc (.cells #[.slice (some ⟨gx, 0, none⟩) ma cx, .slice (some ⟨gy, 0, none⟩) mb cy] 41)) := hbw4.trans (hBp.mono (by omega))
      have hrxp := hrx4.below hBp
      have HWX : Hid (∀ n ∈ canonOf a, (Lit.int .i64 n.num).wf = true) := by
        rw [Hid, meetX_eq HTA.out]
        exact nm_wf 1 (by omega) (by omega) (typeb_len HTA.out) HWA.out
      have HSO := implSolve_any [(canonOf a, meetY ((a.length : Int) + 1) b)] 1 rfl (by decide) (by intro p hp; simp only [List.mem_singleton] at hp; subst hp; simp only [hlx, hly]; omega)
        (by
          intro p hp
          simp only [List.mem_singleton] at hp
          subst hp
          refine ⟨HWX.out, ?_⟩
          exact nm_wf _ (by omega) (by have := typeb_len HTA.out; omega) (typeb_len HTB.out) HWB.out) gp _ 1 _ ((hbwp.cell (p := ⟨0, 0, none⟩) (by show 0 < z; omega)).trans HGV.out) (HGT.out.below hbwp hz1) HPR
      have HLX : Hid ((canonOf a).length = ma) := hlx
      clear HNF hrx hry hrx4 hb4 hbw3 hbw4 ex ey hlx hly HPR hBp hy3 hgy
      go_wp2_with fail
      refine HSO.mono ?_
      rintro e w5 ⟨ok, at', so, l, c, bs, rfl, hbl, hres, hans, hb5⟩
      have hrx5 := hrxp.below hb5
      have hbw5 : Below z w w5 := hbwp.trans (hb5.mono (by have := hbwp.size; omega))
      have hz5 := hbw5.size
      obtain ⟨hsl, hs3⟩ := solve_len hres
      obtain ⟨hwb, hwp⟩ := meet_wf HTA.out HTB.out (by omega) (by have := typeb_len HTA.out; omega) hres
      have HWBS : Hid (∀ b ∈ bs, (Lit.int .i64 b.1).wf = true) := hwb
      have HWP : Hid (∀ n ∈ putOf bs (canonOf a), n.kind = 61 → (Lit.int .i64 n.num).wf = true) := hwp
      have HRES : Hid (SolveRes [(canonOf a, meetY ((a.length : Int) + 1) b)] ok at' bs) := hres
      have HHBL : Hid (bs.length = l) := hbl
      rw [hbl] at hsl
      have hBs : Below w5.heap.size w5 (w5.alloc (.cells #[.bool ok, .int .i64 at', .slice so l c] 38)) := (Below.refl _ w5).alloc (Nat.le_refl _) _
      have hrx6 := hrx5.below hBs
      have hans6 := hans.binds.below hBs
      have hbw6 : Below z w (w5.alloc (.cells #[.bool ok, .int .i64 at', .slice so l c] 38)) := hbw5.trans (hBs.mono (by omega))
      have HK : Hid (∀ b ∈ bs, b.2.length ≤ 1048576) := fun b hb => by have := hs3 b hb; omega
      clear HSO hrxp hbwp hb5 hrx5 hans hres hwb hwp hbl hBs hs3
      cases ok
      · have HM : Hid (MeetRes a b [] false) := .inr ⟨HTA.out, HTB.out, rfl, _, false, at', bs, by omega, HRES.out, rfl⟩
        clear hrx6 hans6
        go_wp2
        go_ret2
        exact ⟨_, _, [], false, rfl, HM.out, .inl rfl, by rw [hz]; exact hbw6.alloc (by have := hbw6.size; omega) _⟩
      · have HMR : Hid (MeetRes a b (canonOf (putOf bs (canonOf a))) (decide (0 < (canonOf (putOf bs (canonOf a))).length))) := .inr ⟨HTA.out, HTB.out, rfl, _, true, at', bs, by omega, HRES.out, rfl⟩
        have HPU := implPut_any bs l HHBL (by omega) HK HWBS (canonOf a) ma HLX hma HWX so (some ⟨gx, 0, none⟩) c cx _ hans6 hrx6.nodes
        clear hans6 hrx6
        go_wp2_with fail
        refine HPU.mono ?_
        rintro e w7 ⟨pg, pc, rfl, hpa, hb7⟩
        have hbw7 : Below z w w7 := hbw6.trans (hb7.mono (by have := hbw6.size; omega))
        have hz7 := hbw7.size
        have hlp3 : (putOf bs (canonOf a)).length ≤ 300 := by
          unfold putOf
          split
          · next h8 => exact h8.2.2
          · simp
        obtain ⟨lp, hlp⟩ : ∃ lp, (putOf bs (canonOf a)).length = lp := ⟨_, rfl⟩
        have HLP : Hid ((putOf bs (canonOf a)).length = lp) := hlp
        rw [hlp] at hlp3 ⊢
        have HCA := implCanon_anyM (putOf bs (canonOf a)) lp HLP (by omega) HWP pg pc w7 hpa.nodes
        clear HPU hbw6 hb7 hpa hlp
        go_wp2_with fail
        refine HCA.mono ?_
        rintro e w8 ⟨cg, cc, rfl, hca, hb8⟩
        have hbw8 : Below z w w8 := hbw7.trans (hb8.mono (by omega))
        have hans8 : Ans w8 z cg (canonOf (putOf bs (canonOf a))) := hca.mono (by omega)
        obtain ⟨out, hout⟩ : ∃ out, canonOf (putOf bs (canonOf a)) = out := ⟨_, rfl⟩
        rw [hout] at hans8 HMR ⊢
        have hol : out.length ≤ 300 := by
          rw [← hout]
          have := canonOf_le (putOf bs (canonOf a))
          rw [HLP.out] at this
          omega
        have HANS : Hid (Ans w8 z cg out) := hans8
        clear HCA hca hb8 hout hans8
        obtain ⟨lo, hlo⟩ : ∃ lo, out.length = lo := ⟨_, rfl⟩
        have HLO : Hid (out.length = lo) := hlo
        have HMR2 : Hid (MeetRes a b out (decide (0 < lo))) := by
          rw [← hlo]; exact HMR.out
        rw [hlo] at hol ⊢
        clear hlo HMR
        go_wp2
        go_ret2
        exact ⟨cg, cc, out, decide (0 < lo), by rw [HLO.out]; rfl, HMR2.out, by rw [hz]; exact HANS.out, by rw [hz]; exact hbw8⟩

end Go.Proofs.YtdcnejhlmdkecaaGreatDoor

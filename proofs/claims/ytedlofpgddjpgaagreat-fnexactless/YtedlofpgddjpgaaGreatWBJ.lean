import Derived.Test.YtedlofpgddjpgaaGreatWBF
import Derived.Test.YtedlofpgddjpgaaGreatWBG
import Derived.Test.YtedlofpgddjpgaaGreatLRd
import Derived.Test.YtedlofpgddjpgaaGreatLRe
import Derived.Test.YtedlofpgddjpgaaGreatWAR
import Derived.Deep.RegionHeld3
import Derived.Deep.RegionWith
import Derived.BigQuiet
import Derived.BigCall
import Derived.BigGuard
import Derived.Test.YtedlofpgddjpgaaGreatWAC
import Derived.Test.YtedlofpgddjpgaaGreatPCm
import Derived.Maps.OwnSet
import Derived.Maps.OwnOps
namespace Go.Proofs.YtedlofpgddjpgaaGreat
open Go.RowKit
set_option maxRecDepth 20000 in
set_option maxHeartbeats 8000000 in
theorem rule_else (us : Int → Nat) (x0 x1 x2 x3 x4 x5 : Sl3) (n : Nd) (ks : List Tre) (s : Sl3) (A : Nat → Prop) (w : World) (hA : ∀ q, w.heap.size ≤ q → A q) (hR : SRep w A (.mk n ks) s) (hP : PlT (.mk n ks)) (hu : CntS w x3 us) (hk : n.kind ≠ 88 ∧ n.kind ≠ 89 ∧ n.kind ≠ 83 ∧ n.kind ≠ 80 ∧ n.kind ≠ 77) :
    Calls Tryz.prog 54 #[xv x0 x1 x2 x3 x4 x5, .agg (sv (.mk n ks) s).toArray] w fun e w' => RuleRes w A (ruleT us (.mk n ks)) e w' := by
  obtain ⟨so, sl, sc⟩ := s
  obtain ⟨h1, h2, h3, h4⟩ := hR.skids
  simp only [Tre.ks] at h1 h2 h3 h4
  subst h1
  obtain ⟨kd, nm, tx, kk, pl⟩ := n
  simp only at hk
  obtain ⟨k88, k89, k83, k80, k77⟩ := hk
  obtain ⟨q, hq⟩ : ∃ q, ks.length = q := ⟨_, rfl⟩
  rw [hq] at hR ⊢
  clear h2 h3 h4 hq
  obtain ⟨kb, hkb⟩ : ∃ kb, knT (.mk ⟨kd, nm, tx, kk, pl⟩ ks) = kb := ⟨_, rfl⟩
  have HKB : Hid (knT (.mk ⟨kd, nm, tx, kk, pl⟩ ks) = kb) := hkb
  have hsv : (sv (.mk ⟨kd, nm, tx, kk, pl⟩ ks) (so, q, sc)).toArray = #[.int .i64 kd, .int .i64 nm, .string tx, .int .i64 kk, .int .i64 pl, .slice so q sc, .bool kb] := by rw [← hkb]; rfl
  have HR : Hid (SRep w A (.mk ⟨kd, nm, tx, kk, pl⟩ ks) (so, q, sc)) := hR
  have HA : Hid (∀ q, w.heap.size ≤ q → A q) := hA
  have HP : Hid (PlT (.mk ⟨kd, nm, tx, kk, pl⟩ ks)) := hP
  obtain ⟨V, hV⟩ : ∃ V, ruleT us (.mk ⟨kd, nm, tx, kk, pl⟩ ks) = V := ⟨_, rfl⟩
  have HV : Hid (ruleT us (.mk ⟨kd, nm, tx, kk, pl⟩ ks) = V) := hV
  have HU : Hid (CntS w x3 us) := hu
  rw [hV]
  obtain ⟨rX, rT, rZ, rN, hsz, hB0⟩ := four_blocks w #[.slice x0.1 x0.2.1 x0.2.2, .slice x1.1 x1.2.1 x1.2.2, .slice x2.1 x2.2.1 x2.2.2, .slice x3.1 x3.2.1 x3.2.2, .slice x4.1 x4.2.1 x4.2.2, .slice x5.1 x5.2.1 x5.2.2] #[.int .i64 kd, .int .i64 nm, .string tx, .int .i64 kk, .int .i64 pl, .slice so q sc, .bool kb] #[.int .i64 0, .int .i64 0, .string ⟨#[]⟩, .int .i64 0, .int .i64 0, .slice none 0 0, .bool false] #[.int .i64 kd, .int .i64 nm, .string tx, .int .i64 kk, .int .i64 pl] 56 59 59 34
  have HRX : Hid _ := rX
  have HRT : Hid _ := rT
  have HRZ : Hid _ := rZ
  have HRN : Hid _ := rN
  have HSZ : Hid _ := hsz
  have HB0 : Hid _ := hB0
  clear rX rT rZ rN hsz hB0 hkb hV hR hA hP hu
  unfold xv
  rw [hsv]
  clear hsv
  go_enter Tryz.func54, Tryz.ntmps54
  go_upto_region 2 with fail
  have rX := HRX.out
  have rT := HRT.out
  have rZ := HRZ.out
  have rN := HRN.out
  have hsz := HSZ.out
  have hB0 := HB0.out
  clear HRX HRT HRZ HRN HSZ HB0
  generalize ((((w.alloc (.cells #[.slice x0.1 x0.2.1 x0.2.2, .slice x1.1 x1.2.1 x1.2.2, .slice x2.1 x2.2.1 x2.2.2, .slice x3.1 x3.2.1 x3.2.2, .slice x4.1 x4.2.1 x4.2.2, .slice x5.1 x5.2.1 x5.2.2] 56)).alloc (.cells #[.int .i64 kd, .int .i64 nm, .string tx, .int .i64 kk, .int .i64 pl, .slice so q sc, .bool kb] 59)).alloc (.cells #[.int .i64 0, .int .i64 0, .string ⟨#[]⟩, .int .i64 0, .int .i64 0, .slice none 0 0, .bool false] 59)).alloc (.cells #[.int .i64 kd, .int .i64 nm, .string tx, .int .i64 kk, .int .i64 pl] 34)) = W0 at rX rT rZ rN hsz hB0 ⊢
  obtain ⟨z, hz⟩ : ∃ z, w.heap.size = z := ⟨_, rfl⟩
  have HZ : Hid (w.heap.size = z) := hz
  have e2 : z + 1 + 1 = z + 2 := rfl
  have e3 : z + 2 + 1 = z + 3 := rfl
  simp only [hz] at rX rT rZ rN hsz
  simp only [hz, e2, e3]
  clear e2 e3 hz
  have u88 : (kd == 88) = false := by simpa using k88
  have u89 : (kd == 89) = false := by simpa using k89
  have u83 : (kd == 83) = false := by simpa using k83
  have u80 : (kd == 80) = false := by simpa using k80
  have u77 : (kd == 77) = false := by simpa using k77
  have hV : V = .mk ⟨kd, nm, tx, kk, pl⟩ ks := by
    rw [← HV.out]
    unfold ruleT
    dsimp only
    rw [if_neg k88, if_neg k89, if_neg k83, if_neg k80, if_neg k77]
  have t0 : W0.cell? ⟨z + 1, 0, none⟩ = some (.int .i64 kd) := by rw [cell_of_row _ _ _ _ _ _ rT]; rfl
  have t1 : W0.cell? ⟨z + 1, 1, none⟩ = some (.int .i64 nm) := by rw [cell_of_row _ _ _ _ _ _ rT]; rfl
  have t2 : W0.cell? ⟨z + 1, 2, none⟩ = some (.string tx) := by rw [cell_of_row _ _ _ _ _ _ rT]; rfl
  have t3 : W0.cell? ⟨z + 1, 3, none⟩ = some (.int .i64 kk) := by rw [cell_of_row _ _ _ _ _ _ rT]; rfl
  have t4 : W0.cell? ⟨z + 1, 4, none⟩ = some (.int .i64 pl) := by rw [cell_of_row _ _ _ _ _ _ rT]; rfl
  have t5 : W0.cell? ⟨z + 1, 5, none⟩ = some (.slice so q sc) := by rw [cell_of_row _ _ _ _ _ _ rT]; rfl
  have t6 : W0.cell? ⟨z + 1, 6, none⟩ = some (.bool kb) := by rw [cell_of_row _ _ _ _ _ _ rT]; rfl
  have LT : z + 1 < W0.heap.size := lt_of_cell t0
  have n0 : W0.cell? ⟨z + 3, 0, none⟩ = some (.int .i64 kd) := by rw [cell_of_row _ _ _ _ _ _ rN]; rfl
  have n1 : W0.cell? ⟨z + 3, 1, none⟩ = some (.int .i64 nm) := by rw [cell_of_row _ _ _ _ _ _ rN]; rfl
  have n2 : W0.cell? ⟨z + 3, 2, none⟩ = some (.string tx) := by rw [cell_of_row _ _ _ _ _ _ rN]; rfl
  have LN : z + 3 < W0.heap.size := lt_of_cell n0
  have hf := seven_fin (w := w) (.mk ⟨kd, nm, tx, kk, pl⟩ ks) (so, q, sc) rZ hB0 (by rw [HZ.out]; omega)
  simp only [Tre.nd] at hf
  rw [HKB.out] at hf
  obtain ⟨f, d0, d1, d2, d3, d4, d5, d6⟩ := zero7 rZ
  have f0 := f 0
  have f1 := f 1
  have f2 := f 2
  have f3 := f 3
  have f4 := f 4
  have f5 := f 5
  have f6 := f 6
  have LZ : z + 2 < W0.heap.size := lt_of_cell d0
  clear f
  have HF : Hid (Row7 (((((((W0.setCell ⟨z + 2, 0, none⟩ (.int .i64 kd)).setCell ⟨z + 2, 1, none⟩ (.int .i64 nm)).setCell ⟨z + 2, 2, none⟩ (.string tx)).setCell ⟨z + 2, 3, none⟩ (.int .i64 kk)).setCell ⟨z + 2, 4, none⟩ (.int .i64 pl)).setCell ⟨z + 2, 5, none⟩ (.slice so q sc)).setCell ⟨z + 2, 6, none⟩ (.bool kb)) (z + 2) 0 (.mk ⟨kd, nm, tx, kk, pl⟩ ks) (so, q, sc) ∧ Below w.heap.size w (((((((W0.setCell ⟨z + 2, 0, none⟩ (.int .i64 kd)).setCell ⟨z + 2, 1, none⟩ (.int .i64 nm)).setCell ⟨z + 2, 2, none⟩ (.string tx)).setCell ⟨z + 2, 3, none⟩ (.int .i64 kk)).setCell ⟨z + 2, 4, none⟩ (.int .i64 pl)).setCell ⟨z + 2, 5, none⟩ (.slice so q sc)).setCell ⟨z + 2, 6, none⟩ (.bool kb))) := hf
  have HVV : Hid (V = .mk ⟨kd, nm, tx, kk, pl⟩ ks) := hV
  clear hV rX k88 k89 k83 k80 k77 hsz
  clear hf
  clear rT rZ rN hB0
  go_wp2
  refine bodyPost_ret (results_cell7 rfl _ (z + 2) rfl _ _ _ HF.out.1) rfl ?_
  exact ruleRes_of HVV.out rfl (HR.out.under HF.out.2) HF.out.2
end Go.Proofs.YtedlofpgddjpgaaGreat

namespace Go.Proofs.YtedlofpgddjpgaaGreat
open Go.RowKit
theorem rule_any (us : Int → Nat) (x0 x1 x2 x3 x4 x5 : Sl3) (n : Nd) (ks : List Tre) (s : Sl3) (A : Nat → Prop) (w : World) (hA : ∀ q, w.heap.size ≤ q → A q) (hR : SRep w A (.mk n ks) s) (hP : PlT (.mk n ks)) (hu : CntS w x3 us) :
    Calls Tryz.prog 54 #[xv x0 x1 x2 x3 x4 x5, .agg (sv (.mk n ks) s).toArray] w fun e w' => RuleRes w A (ruleT us (.mk n ks)) e w' := by
  by_cases h88 : n.kind = 88
  · exact rule_bin us x0 x1 x2 x3 x4 x5 n ks s A w hA hR hP hu h88
  by_cases h89 : n.kind = 89
  · exact rule_un us x0 x1 x2 x3 x4 x5 n ks s A w hA hR hP hu h89
  by_cases h83 : n.kind = 83
  · exact rule_case us x0 x1 x2 x3 x4 x5 n ks s A w hA hR hP hu h83
  by_cases h80 : n.kind = 80
  · exact rule_let us x0 x1 x2 x3 x4 x5 n ks s A w hA hR hP hu h80
  by_cases h77 : n.kind = 77
  · exact rule_app us x0 x1 x2 x3 x4 x5 n ks s A w hA hR hP hu h77
  exact rule_else us x0 x1 x2 x3 x4 x5 n ks s A w hA hR hP hu ⟨h88, h89, h83, h80, h77⟩
end Go.Proofs.YtedlofpgddjpgaaGreat

namespace Go.Proofs.YtedlofpgddjpgaaGreat
open Go.RowKit
end Go.Proofs.YtedlofpgddjpgaaGreat

namespace Go.Proofs.YtedlofpgddjpgaaGreat
open Go.RowKit
theorem twoS_of {α : Type} {l : List α} (h : l.length = 2) : ∃ a b, l = [a, b] := by
  match l, h with
  | [a, b], _ => exact ⟨a, b, rfl⟩
end Go.Proofs.YtedlofpgddjpgaaGreat

namespace Go.Proofs.YtedlofpgddjpgaaGreat
open Go.RowKit
theorem But.cellL {S : Nat → Prop} {w w' : World} (h : But S w w') {g j : Nat} {v : Value} (hc : w.cell? ⟨g, j, none⟩ = some v) (hg : ¬ S g) : w'.cell? ⟨g, j, none⟩ = some v := by
  have h9 := h.block g (lt_of_cell hc) hg
  rw [← hc]
  simp only [World.cell?, h9]
theorem Nodes.butL {S : Nat → Prop} {w w' : World} {ao : Option Addr} {xs : List Nd} (h : Nodes w ao xs) (hb : But S w w') (hd : ∀ b o, ao = some ⟨b, o, none⟩ → ¬ S b) : Nodes w' ao xs := by
  intro i hi
  obtain ⟨b, o, e, c0, c1, c2, c3, c4⟩ := h i hi
  have hn := hd b o e
  exact ⟨b, o, e, hb.cellL c0 hn, hb.cellL c1 hn, hb.cellL c2 hn, hb.cellL c3 hn, hb.cellL c4 hn⟩
theorem Ints.butL {S : Nat → Prop} {w w' : World} {B g cap n : Nat} {xs : List Int} (h : Ints w B g cap n xs) (hb : But S w w') (hn : ¬ S g) : Ints w' B g cap n xs := ⟨h.1, owns_but h.2 hb hn⟩
theorem CntS.butL {S : Nat → Prop} {w w' : World} {b l c : Nat} {f : Int → Nat} (h : CntS w (some ⟨b, 0, none⟩, l, c) f) (hb : But S w w') (hn : ¬ S b) : CntS w' (some ⟨b, 0, none⟩, l, c) f := by
  obtain ⟨b', e1, e2, h3⟩ := h
  simp only [Option.some.injEq, Addr.mk.injEq, and_true] at e1
  subst e1
  exact ⟨b, rfl, e2, fun n hn9 => hb.cellL (h3 n hn9) hn⟩
structure PasAt where
  (b0 o0 cap gz cz Bz b2 c2 b3 c3 g4 c4 g5 c5 : Nat)
def PasAt.W (k : PasAt) (q : Nat) : Prop := q = k.g4 ∨ q = k.g5
structure Pas (k : PasAt) (t : List Nd) (m : Nat) (ys : List Sp) (bd us : Int → Nat) (w : World) (A : Nat → Prop) (P : Int → Option Tre) : Prop where
  nodes : Nodes w (some ⟨k.b0, k.o0, none⟩) t
  ints : Ints w k.Bz k.gz k.cz m (ys.map szOf)
  cb : CntS w (some ⟨k.b2, 0, none⟩, 200001, k.c2) bd
  cu : CntS w (some ⟨k.b3, 0, none⟩, 200001, k.c3) us
  flag : ∀ n : Nat, n ≤ 200000 → w.cell? ⟨k.g5, n, none⟩ = some (.bool (P (n : Int)).isSome)
  row : ∀ n : Nat, n ≤ 200000 → ∀ V, P (n : Int) = some V → ∃ s, Row7 w k.g4 (n * 7) V s ∧ SRep w A V s
  row4 : ∃ cur : Array Value, w.heap[k.g4]? = some (.cells cur 59 (0, 0)) ∧ cur.size = 1400007
  row5 : ∃ cur : Array Value, w.heap[k.g5]? = some (.cells cur 4 (0, 0)) ∧ cur.size = 200001
  apart : ¬ k.W k.b0 ∧ ¬ k.W k.gz ∧ ¬ k.W k.b2 ∧ ¬ k.W k.b3 ∧ k.g4 ≠ k.g5
  out : ∀ q, A q → ¬ k.W q
theorem Pas.lt4 {k : PasAt} {t : List Nd} {m : Nat} {ys : List Sp} {bd us : Int → Nat} {w : World} {A : Nat → Prop} {P : Int → Option Tre} (h : Pas k t m ys bd us w A P) : k.g4 < w.heap.size ∧ k.g5 < w.heap.size := by
  obtain ⟨c, h1, -⟩ := h.row4
  obtain ⟨d, h2, -⟩ := h.row5
  exact ⟨(Array.getElem?_eq_some_iff.1 h1).1, (Array.getElem?_eq_some_iff.1 h2).1⟩
theorem Pas.but {k : PasAt} {t : List Nd} {m : Nat} {ys : List Sp} {bd us : Int → Nat} {w w' : World} {A A' S : Nat → Prop} {P : Int → Option Tre} (h : Pas k t m ys bd us w A P) (hb : But S w w') (hS : ∀ q, q < w.heap.size → S q → False) (hA : ∀ q, A q → q < w.heap.size → A' q) (hA2 : ∀ q, A' q → ¬ k.W q) : Pas k t m ys bd us w' A' P := by
  have hb : But (fun _ => False) w w' := ⟨hb.os, hb.tape, hb.output, hb.size, fun i hi _ => hb.block i hi (fun h9 => hS i hi h9)⟩
  obtain ⟨l4, l5⟩ := h.lt4
  refine ⟨h.nodes.butL hb (fun _ _ _ h => h), h.ints.butL hb (fun h => h), h.cb.butL hb (fun h => h), h.cu.butL hb (fun h => h), fun n hn => hb.cellL (h.flag n hn) (fun h => h), ?_, ?_, ?_, h.apart, hA2⟩
  · intro n hn V hV
    obtain ⟨s, h1, h2⟩ := h.row n hn V hV
    exact ⟨s, h1.but hb (fun h => h), h2.but hb (fun _ _ h => h) hA⟩
  · obtain ⟨c, h1, h2⟩ := h.row4
    exact ⟨c, (hb.block _ l4 (fun h => h)).trans h1, h2⟩
  · obtain ⟨c, h1, h2⟩ := h.row5
    exact ⟨c, (hb.block _ l5 (fun h => h)).trans h1, h2⟩
theorem Pas.under {k : PasAt} {t : List Nd} {m : Nat} {ys : List Sp} {bd us : Int → Nat} {w w' : World} {A A' : Nat → Prop} {P : Int → Option Tre} (h : Pas k t m ys bd us w A P) (hb : Below w.heap.size w w') (hA : ∀ q, A q → q < w.heap.size → A' q) (hA2 : ∀ q, A' q → ¬ k.W q) : Pas k t m ys bd us w' A' P :=
  h.but (But.ofBelow (S := fun _ => False) hb) (fun _ _ h => h) hA hA2
theorem Pas.turn {k : PasAt} {t : List Nd} {m : Nat} {ys : List Sp} {bd us : Int → Nat} {w w' : World} {A A' S : Nat → Prop} {P : Int → Option Tre} (h : Pas k t m ys bd us w A P) (hb : But S w w') (hS : ¬ S k.b0 ∧ ¬ S k.gz ∧ ¬ S k.b2 ∧ ¬ S k.b3 ∧ ¬ S k.g4 ∧ ¬ S k.g5) (hSA : ∀ q, A q → ¬ S q) (hA : ∀ q, A q → q < w.heap.size → A' q) (hA2 : ∀ q, A' q → ¬ k.W q) : Pas k t m ys bd us w' A' P := by
  obtain ⟨l4, l5⟩ := h.lt4
  obtain ⟨s0, sz, s2, s3, s4, s5⟩ := hS
  refine ⟨h.nodes.butL hb (fun b o e => by simp only [Option.some.injEq, Addr.mk.injEq, and_true] at e; rw [← e.1]; exact s0), h.ints.butL hb sz, h.cb.butL hb s2, h.cu.butL hb s3, fun n hn => hb.cellL (h.flag n hn) s5, ?_, ?_, ?_, h.apart, hA2⟩
  · intro n hn V hV
    obtain ⟨s, h1, h2⟩ := h.row n hn V hV
    exact ⟨s, h1.but hb s4, h2.but hb hSA hA⟩
  · obtain ⟨c, h1, h2⟩ := h.row4
    exact ⟨c, (hb.block _ l4 s4).trans h1, h2⟩
  · obtain ⟨c, h1, h2⟩ := h.row5
    exact ⟨c, (hb.block _ l5 s5).trans h1, h2⟩
def put7 (w : World) (g o : Nat) (T : Tre) (s : Sl3) : World :=
  ((((((w.setCell ⟨g, o, none⟩ (.int .i64 T.nd.kind)).setCell ⟨g, o + 1, none⟩ (.int .i64 T.nd.num)).setCell ⟨g, o + 2, none⟩ (.string T.nd.text)).setCell ⟨g, o + 3, none⟩ (.int .i64 T.nd.kids)).setCell ⟨g, o + 4, none⟩ (.int .i64 T.nd.place)).setCell ⟨g, o + 5, none⟩ (.slice s.1 s.2.1 s.2.2)).setCell ⟨g, o + 6, none⟩ (.bool (knT T))
theorem put7_row {w : World} {g o t : Nat} {cur : Array Value} (T : Tre) (s : Sl3) (h : w.heap[g]? = some (.cells cur t (0, 0))) : (put7 w g o T s).heap[g]? = some (.cells (((((((cur.setIfInBounds o (.int .i64 T.nd.kind)).setIfInBounds (o + 1) (.int .i64 T.nd.num)).setIfInBounds (o + 2) (.string T.nd.text)).setIfInBounds (o + 3) (.int .i64 T.nd.kids)).setIfInBounds (o + 4) (.int .i64 T.nd.place)).setIfInBounds (o + 5) (.slice s.1 s.2.1 s.2.2)).setIfInBounds (o + 6) (.bool (knT T))) t (0, 0)) := by
  unfold put7
  exact heap_setCell_same _ _ _ _ _ _ (heap_setCell_same _ _ _ _ _ _ (heap_setCell_same _ _ _ _ _ _ (heap_setCell_same _ _ _ _ _ _ (heap_setCell_same _ _ _ _ _ _ (heap_setCell_same _ _ _ _ _ _ (heap_setCell_same _ _ _ _ _ _ h))))))
theorem put7_but {S : Nat → Prop} {w0 w : World} {g o : Nat} (T : Tre) (s : Sl3) (h : But S w0 w) (hg : S g) : But S w0 (put7 w g o T s) :=
  ((((((h.setCell (p := ⟨g, o, none⟩) hg _).setCell (p := ⟨g, o + 1, none⟩) hg _).setCell (p := ⟨g, o + 2, none⟩) hg _).setCell (p := ⟨g, o + 3, none⟩) hg _).setCell (p := ⟨g, o + 4, none⟩) hg _).setCell (p := ⟨g, o + 5, none⟩) hg _).setCell (p := ⟨g, o + 6, none⟩) hg _
theorem Pas.put {k : PasAt} {t : List Nd} {m : Nat} {ys : List Sp} {bd us : Int → Nat} {w : World} {A : Nat → Prop} {P : Int → Option Tre} (h : Pas k t m ys bd us w A P) {x : Nat} (hx : x ≤ 200000) (T : Tre) (s : Sl3) (hT : SRep w A T s) :
    Pas k t m ys bd us ((put7 w k.g4 (x * 7) T s).setCell ⟨k.g5, x, none⟩ (.bool true)) A (setP P (x : Int) (some T)) := by
  obtain ⟨a0, az, a2, a3, a45⟩ := h.apart
  obtain ⟨c4, r4, z4⟩ := h.row4
  obtain ⟨c5, r5, z5⟩ := h.row5
  have hb : But k.W w ((put7 w k.g4 (x * 7) T s).setCell ⟨k.g5, x, none⟩ (.bool true)) := (put7_but T s (But.refl k.W w) (.inl rfl)).setCell (p := ⟨k.g5, x, none⟩) (.inr rfl) _
  have q4 := put7_row (o := x * 7) T s r4
  have n4 : ((put7 w k.g4 (x * 7) T s).setCell ⟨k.g5, x, none⟩ (.bool true)).heap[k.g4]? = _ := (Below.heap_setCell _ _ _ _ (by show k.g4 ≠ k.g5; exact a45)).trans q4
  have p5 : (put7 w k.g4 (x * 7) T s).heap[k.g5]? = some (.cells c5 4 (0, 0)) := ((put7_but (S := (· = k.g4)) (o := x * 7) T s (But.refl _ w) rfl).block k.g5 h.lt4.2 (fun e => a45 e.symm)).trans r5
  have n5 : ((put7 w k.g4 (x * 7) T s).setCell ⟨k.g5, x, none⟩ (.bool true)).heap[k.g5]? = some (.cells (c5.setIfInBounds x (.bool true)) 4 (0, 0)) := heap_setCell_same _ _ _ _ _ _ p5
  refine ⟨h.nodes.butL hb (fun b o e => by simp only [Option.some.injEq, Addr.mk.injEq, and_true] at e; rw [← e.1]; exact a0), h.ints.butL hb az, h.cb.butL hb a2, h.cu.butL hb a3, ?_, ?_, ?_, ?_, h.apart, h.out⟩
  · intro n hn
    rw [cell_of_row _ _ _ _ _ _ n5, Array.getElem?_setIfInBounds]
    unfold setP
    by_cases e : x = n
    · subst e
      simp [z5]
      omega
    · have e2 : ¬ ((n : Int) = (x : Int)) := by omega
      rw [if_neg e, if_neg e2, ← cell_of_row _ _ _ _ _ _ r5]
      exact h.flag n hn
  · intro n hn V hV
    unfold setP at hV
    by_cases e : n = x
    · subst e
      simp only [if_true, Option.some.injEq] at hV
      subst hV
      refine ⟨s, ?_, hT.but hb h.out (fun q hq _ => hq)⟩
      refine ⟨?_, ?_, ?_, ?_, ?_, ?_, ?_⟩ <;> (rw [cell_of_row _ _ _ _ _ _ n4]; simp [Array.getElem?_setIfInBounds, z4]; try omega)
    · have e2 : ¬ ((n : Int) = (x : Int)) := by omega
      rw [if_neg e2] at hV
      obtain ⟨sv9, h1, h2⟩ := h.row n hn V hV
      refine ⟨sv9, ?_, h2.but hb h.out (fun q hq _ => hq)⟩
      have hk : ∀ j, j < 7 → ((put7 w k.g4 (x * 7) T s).setCell ⟨k.g5, x, none⟩ (.bool true)).cell? ⟨k.g4, n * 7 + j, none⟩ = w.cell? ⟨k.g4, n * 7 + j, none⟩ := by
        intro j hj
        rw [cell_of_row _ _ _ _ _ _ n4, cell_of_row _ _ _ _ _ _ r4]
        simp only [Array.getElem?_setIfInBounds]
        rw [if_neg (by omega), if_neg (by omega), if_neg (by omega), if_neg (by omega), if_neg (by omega), if_neg (by omega), if_neg (by omega)]
      exact ⟨(hk 0 (by omega)).trans h1.1, (hk 1 (by omega)).trans h1.2.1, (hk 2 (by omega)).trans h1.2.2.1, (hk 3 (by omega)).trans h1.2.2.2.1, (hk 4 (by omega)).trans h1.2.2.2.2.1, (hk 5 (by omega)).trans h1.2.2.2.2.2.1, (hk 6 (by omega)).trans h1.2.2.2.2.2.2⟩
  · exact ⟨_, n4, by simp [z4]⟩
  · exact ⟨_, n5, by simp [z5]⟩
theorem Pas.del {k : PasAt} {t : List Nd} {m : Nat} {ys : List Sp} {bd us : Int → Nat} {w : World} {A : Nat → Prop} {P : Int → Option Tre} (h : Pas k t m ys bd us w A P) {x : Nat} (hx : x ≤ 200000) :
    Pas k t m ys bd us (w.setCell ⟨k.g5, x, none⟩ (.bool false)) A (setP P (x : Int) none) := by
  obtain ⟨a0, az, a2, a3, a45⟩ := h.apart
  obtain ⟨c4, r4, z4⟩ := h.row4
  obtain ⟨c5, r5, z5⟩ := h.row5
  have hb : But (· = k.g5) w (w.setCell ⟨k.g5, x, none⟩ (.bool false)) := (But.refl (· = k.g5) w).setCell (p := ⟨k.g5, x, none⟩) (show k.g5 = k.g5 from rfl) _
  have n5 : (w.setCell ⟨k.g5, x, none⟩ (.bool false)).heap[k.g5]? = some (.cells (c5.setIfInBounds x (.bool false)) 4 (0, 0)) := heap_setCell_same _ _ _ _ _ _ r5
  have hw : ∀ q, ¬ k.W q → ¬ q = k.g5 := fun q hq e => hq (.inr e)
  refine ⟨h.nodes.butL hb (fun b o e => by simp only [Option.some.injEq, Addr.mk.injEq, and_true] at e; rw [← e.1]; exact hw _ a0), h.ints.butL hb (hw _ az), h.cb.butL hb (hw _ a2), h.cu.butL hb (hw _ a3), ?_, ?_, ⟨c4, (hb.block _ h.lt4.1 a45).trans r4, z4⟩, ⟨_, n5, by simp [z5]⟩, h.apart, h.out⟩
  · intro n hn
    rw [cell_of_row _ _ _ _ _ _ n5, Array.getElem?_setIfInBounds]
    unfold setP
    by_cases e : x = n
    · subst e
      simp [z5]
      omega
    · have e2 : ¬ ((n : Int) = (x : Int)) := by omega
      rw [if_neg e, if_neg e2, ← cell_of_row _ _ _ _ _ _ r5]
      exact h.flag n hn
  · intro n hn V hV
    unfold setP at hV
    by_cases e : (n : Int) = (x : Int)
    · rw [if_pos e] at hV; cases hV
    · rw [if_neg e] at hV
      obtain ⟨s, h1, h2⟩ := h.row n hn V hV
      exact ⟨s, h1.but hb a45, h2.but hb (fun q hq => hw _ (h.out q hq)) (fun q hq _ => hq)⟩
end Go.Proofs.YtedlofpgddjpgaaGreat

namespace Go.Proofs.YtedlofpgddjpgaaGreat
open Go.RowKit Go.Maps
def heldPL : Value → Option (DataW Value × List MemPlace)
  | .pointer a => some (.held (.pointer a), [])
  | _ => none
theorem heldPL_inv {v : Value} {z : DataW Value × List MemPlace} (h : heldPL v = some z) : z = (.held v, []) := by
  unfold heldPL at h
  split at h
  · simp only [Option.some.injEq] at h
    exact h.symm
  · cases h
def ptrO : Option Nat → Value
  | none => .pointer none
  | some b => .pointer (some ⟨b, 0, none⟩)
theorem ownsL_but {w w' : World} {S : Nat → Prop} {b n : Nat} {H : Type} {D : DataW H} {k : TypeId} {R : Value → Option (DataW H × List MemPlace)} (h : w.ownsMap Tryz.prog k R b n D) (hb : But S w w') (hn : ¬ S b) : w'.ownsMap Tryz.prog k R b n D := by
  obtain ⟨es, clock, h1, h2⟩ := h
  exact ⟨es, clock, (hb.block b (Array.getElem?_eq_some_iff.1 h1).1 hn).trans h1, h2⟩
theorem Tryz.law2L : Keyed Tryz.prog 2 := int_keyed Tryz.underlying2
theorem Tryz.zero3L (w : World) : (zeroValue 3).run Tryz.prog w = .ok (.int .i64 0) w := by kernel_rfl
theorem Tryz.zeroPL (w : World) : (zeroValue 41).run Tryz.prog w = .ok (.pointer none) w := by kernel_rfl
theorem Tryz.keyL (x : Int) (h : (Lit.int .i64 x).wf = true) : keyOf Tryz.prog 2 (.int .i64 x) = some (.int .i64 x) := keyOf_int_mk Tryz.underlying2 h
structure LesAt where
  (lb m1 m2 m3 : Nat)
def CntM (w : World) (b : Nat) (f : Int → Nat) : Prop := ∃ (n : Nat) (D : DataW Unit), w.ownsMap Tryz.prog 2 (plainElem Tryz.prog 3) b n D ∧ ∀ x : Int, 1 ≤ x → D.atKey (.int .i64 x) (.lit (.int .i64 0)) = .lit (.int .i64 (f x : Int))
theorem CntM.but {S : Nat → Prop} {w w' : World} {b : Nat} {f : Int → Nat} (h : CntM w b f) (hb : But S w w') (hn : ¬ S b) : CntM w' b f := by
  obtain ⟨n, D, h1, h2⟩ := h
  exact ⟨n, D, ownsL_but h1 hb hn, h2⟩
theorem CntM.look {w : World} {b : Nat} {f : Int → Nat} (h : CntM w b f) {x : Int} (hx : (Lit.int .i64 x).wf = true) (h1 : 1 ≤ x) : (Instr.lookup 37 (.map (some b)) (.int .i64 x) false).run Tryz.prog w = .ok (.int .i64 (f x : Int)) w := by
  obtain ⟨n, D, ho, hD⟩ := h
  obtain ⟨c, hr, ha, -⟩ := ho.lookup_int Tryz.law2L Tryz.underlying37 Tryz.underlying3 (Tryz.zero3L w) (Tryz.keyL x hx)
  rw [hD x h1] at ha
  simp only [DataW.lit.injEq, Lit.int.injEq, true_and] at ha
  rw [ha]
  exact hr
structure LesS (L : LesAt) (bd us : Int → Nat) (w : World) (A : Nat → Prop) (n : Nat) (P : Int → Option Tre) : Prop where
  c0 : w.cell? ⟨L.lb, 0, none⟩ = some (.map (some L.m1))
  c1 : w.cell? ⟨L.lb, 1, none⟩ = some (.map (some L.m2))
  c2 : w.cell? ⟨L.lb, 2, none⟩ = some (.map (some L.m3))
  mb : CntM w L.m1 bd
  mu : CntM w L.m2 us
  ma : ∃ (D : DataW Value) (U : Int → Option Nat), w.ownsMap Tryz.prog 2 heldPL L.m3 n D ∧ Tidy D ∧ ∀ x : Int, (D.atKey (.int .i64 x) (.held (.pointer none)) = .held (ptrO (U x))) ∧ ((P x).isSome = (U x).isSome) ∧ ∀ T b, P x = some T → U x = some b → PRep w A T b
  apart : L.lb ≠ L.m3 ∧ L.m1 ≠ L.m3 ∧ L.m2 ≠ L.m3
  out : ∀ q, A q → q ≠ L.m3
theorem CntM.lt {w : World} {b : Nat} {f : Int → Nat} (h : CntM w b f) : b < w.heap.size := by
  obtain ⟨n, D, h1, -⟩ := h
  exact h1.lt
theorem LesS.turn {L : LesAt} {bd us : Int → Nat} {w w' : World} {A A' S : Nat → Prop} {n : Nat} {P : Int → Option Tre} (h : LesS L bd us w A n P) (hb : But S w w') (hS : ¬ S L.lb ∧ ¬ S L.m1 ∧ ¬ S L.m2 ∧ ¬ S L.m3) (hSA : ∀ q, A q → ¬ S q) (hA : ∀ q, A q → q < w.heap.size → A' q) (hA2 : ∀ q, A' q → q ≠ L.m3) : LesS L bd us w' A' n P := by
  obtain ⟨s0, s1, s2, s3⟩ := hS
  refine ⟨hb.cellL h.c0 s0, hb.cellL h.c1 s0, hb.cellL h.c2 s0, h.mb.but hb s1, h.mu.but hb s2, ?_, h.apart, hA2⟩
  obtain ⟨D, U, h1, h2, h3⟩ := h.ma
  refine ⟨D, U, ownsL_but h1 hb s3, h2, fun x => ?_⟩
  obtain ⟨k1, k2, k3⟩ := h3 x
  exact ⟨k1, k2, fun T b hT hU => (k3 T b hT hU).but hb hSA hA⟩
theorem LesS.under {L : LesAt} {bd us : Int → Nat} {w w' : World} {A A' : Nat → Prop} {n : Nat} {P : Int → Option Tre} (h : LesS L bd us w A n P) (hb : Below w.heap.size w w') (hA : ∀ q, A q → q < w.heap.size → A' q) (hA2 : ∀ q, A' q → q ≠ L.m3) : LesS L bd us w' A' n P :=
  h.turn (But.ofBelow (S := fun _ => False) hb) ⟨fun h => h, fun h => h, fun h => h, fun h => h⟩ (fun _ _ h => h) hA hA2
set_option maxRecDepth 20000 in
set_option maxHeartbeats 2000000 in
theorem singleP_any (L : LesAt) (bd us : Int → Nat) (w : World) (A : Nat → Prop) (n : Nat) (P : Int → Option Tre) (h : LesS L bd us w A n P) (num : Int) (hw : (Lit.int .i64 num).wf = true) (h1 : 1 ≤ num) :
    Calls Tryz.prog 39 #[.pointer (some ⟨L.lb, 0, none⟩), .int .i64 num] w fun e w' => e = .returned (.bool (singleT bd num)) ∧ Below w.heap.size w w' := by
  have hlk := h.mb.look hw h1
  have c0 := h.c0
  have lb : L.lb < w.heap.size := lt_of_cell c0
  have hbr := Below.refl w.heap.size w
  clear h hw
  by_cases h2 : num ≤ 200000
  · have t2 : decide (num ≤ 200000) = true := by simpa using h2
    have HK : Hid (singleT bd num = ((bd num : Int) == 1)) := by
      show _ = _
      unfold singleT
      rw [t2]
      by_cases h9 : bd num = 1
      · rw [h9]
        rfl
      · have h8 : (bd num == 1) = false := beq_eq_false_iff_ne.2 h9
        have h7 : ((bd num : Int) == 1) = false := beq_eq_false_iff_ne.2 (by omega)
        rw [h8, h7]
        rfl
    obtain ⟨cv, hcv⟩ : ∃ cv : Int, (bd num : Int) = cv := ⟨_, rfl⟩
    rw [hcv] at hlk HK
    clear hcv h1 h2
    go_enter Tryz.func39, Tryz.ntmps39
    go_wp2
    go_ret
    exact ⟨by rw [HK.out]; rfl, hbr⟩
  · have t2 : decide (num ≤ 200000) = false := by simpa using h2
    have HK : Hid (singleT bd num = false) := by show _ = _; unfold singleT; rw [t2]; rfl
    clear hlk h1 h2
    go_enter Tryz.func39, Tryz.ntmps39
    go_wp2
    go_ret
    exact ⟨by rw [HK.out]; rfl, hbr⟩
set_option maxRecDepth 20000 in
set_option maxHeartbeats 2000000 in
theorem atomP_any (L : LesAt) (bd us : Int → Nat) (w : World) (A : Nat → Prop) (n : Nat) (P : Int → Option Tre) (h : LesS L bd us w A n P) (nd : Nd) (ks : List Tre) (b : Nat) (hP : PlT (.mk nd ks)) (hR : PRep w A (.mk nd ks) b) :
    Calls Tryz.prog 40 #[.pointer (some ⟨L.lb, 0, none⟩), .pointer (some ⟨b, 0, none⟩)] w fun e w' => e = .returned (.bool (atomT bd nd)) ∧ Below w.heap.size w w' := by
  obtain ⟨-, so, sc, hblk, -⟩ := hR.opened
  obtain ⟨c0, c1, -⟩ := nine hblk
  have lb : b < w.heap.size := lt_of_cell c0
  have hbr := Below.refl w.heap.size w
  have hN := hP.node
  obtain ⟨kd, nm, tx, kk, pl⟩ := nd
  simp only at c0 c1
  by_cases h7 : kd = 72 ∨ kd = 73 ∨ kd = 74 ∨ kd = 71
  · have HK : Hid (atomT bd ⟨kd, nm, tx, kk, pl⟩ = true) := by
      show _ = _
      unfold atomT
      rw [if_neg (by show ¬ kd = 70; omega)]
      simp
      omega
    clear hblk hR h hN hP c1
    rcases h7 with rfl | rfl | rfl | rfl
    all_goals
      go_enter Tryz.func40, Tryz.ntmps40
      go_wp2
      go_ret
      exact ⟨by rw [HK.out]; rfl, hbr⟩
  have t72 : (kd == 72) = false := by simp; omega
  have t73 : (kd == 73) = false := by simp; omega
  have t74 : (kd == 74) = false := by simp; omega
  have t71 : (kd == 71) = false := by simp; omega
  by_cases h70 : kd = 70
  · subst h70
    have hS := singleP_any L bd us w A n P h nm hN.num (hN.numb (.inl rfl)).1
    have HK : Hid (atomT bd ⟨70, nm, tx, kk, pl⟩ = singleT bd nm) := by show _ = _; unfold atomT; simp
    clear hblk hR h hN hP h7
    go_enter Tryz.func40, Tryz.ntmps40
    go_wp2_with fail
    refine hS.mono ?_
    rintro e w1 ⟨rfl, hb1⟩
    clear hS c0 c1
    go_wp2
    go_ret
    exact ⟨by rw [HK.out]; rfl, hb1⟩
  · have t70 : (kd == 70) = false := by simpa using h70
    have HK : Hid (atomT bd ⟨kd, nm, tx, kk, pl⟩ = false) := by
      show _ = _
      unfold atomT
      rw [if_neg (by exact h70)]
      simp
      omega
    clear hblk hR h hN hP h7 h70 c1
    go_enter Tryz.func40, Tryz.ntmps40
    go_wp2
    go_ret
    exact ⟨by rw [HK.out]; rfl, hbr⟩
end Go.Proofs.YtedlofpgddjpgaaGreat

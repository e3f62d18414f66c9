import Derived.Test.YtemancdlnakkmaaGreatLBl
import Derived.Test.YtemancdlnakkmaaGreatWAZ
import Derived.Test.YtemancdlnakkmaaGreatLFt
import Derived.Test.YtemancdlnakkmaaGreatWAK
import Derived.Deep.CutRange
import Derived.Deep.RegionHeld3
namespace Go.Proofs.YtemancdlnakkmaaGreat
open Go.RowKit
def RuleRes (w : World) (A : Nat → Prop) (T : Tre) (e : Ending) (w' : World) : Prop :=
  ∃ s : Sl3, e = .returned (.agg (sv T s).toArray) ∧ SRep w' A T s ∧ Below w.heap.size w w'
theorem srep_leaf {w : World} {A : Nat → Prop} {R : Tre} {s : Sl3} (h : R.ks = []) (hs : s.2.1 = 0) : SRep w A R s := by
  obtain ⟨n, ks⟩ := R
  simp only [Tre.ks] at h
  subst h
  exact .mk n [] s (fun _ => (none, 0, 0)) hs (Nat.zero_le _) (by simp) (fun j h => by simp at h) (fun j h => by simp at h)
theorem four_blocks (w : World) (v0 v1 v2 v3 : Array Value) (t0 t1 t2 t3 : TypeId) :
    ((((w.alloc (.cells v0 t0)).alloc (.cells v1 t1)).alloc (.cells v2 t2)).alloc (.cells v3 t3)).heap[w.heap.size]? = some (.cells v0 t0 (0, 0)) ∧ ((((w.alloc (.cells v0 t0)).alloc (.cells v1 t1)).alloc (.cells v2 t2)).alloc (.cells v3 t3)).heap[w.heap.size + 1]? = some (.cells v1 t1 (0, 0)) ∧ ((((w.alloc (.cells v0 t0)).alloc (.cells v1 t1)).alloc (.cells v2 t2)).alloc (.cells v3 t3)).heap[w.heap.size + 2]? = some (.cells v2 t2 (0, 0)) ∧ ((((w.alloc (.cells v0 t0)).alloc (.cells v1 t1)).alloc (.cells v2 t2)).alloc (.cells v3 t3)).heap[w.heap.size + 3]? = some (.cells v3 t3 (0, 0)) ∧ ((((w.alloc (.cells v0 t0)).alloc (.cells v1 t1)).alloc (.cells v2 t2)).alloc (.cells v3 t3)).heap.size = w.heap.size + 4 ∧ Below w.heap.size w ((((w.alloc (.cells v0 t0)).alloc (.cells v1 t1)).alloc (.cells v2 t2)).alloc (.cells v3 t3)) := by
  have h0 := heap_alloc_new w (.cells v0 t0)
  have h1 := heap_alloc_new (w.alloc (.cells v0 t0)) (.cells v1 t1)
  have h2 := heap_alloc_new ((w.alloc (.cells v0 t0)).alloc (.cells v1 t1)) (.cells v2 t2)
  have h3 := heap_alloc_new (((w.alloc (.cells v0 t0)).alloc (.cells v1 t1)).alloc (.cells v2 t2)) (.cells v3 t3)
  simp only [World.size_alloc] at h0 h1 h2 h3
  have b0 := (Below.refl w.heap.size w).alloc (Nat.le_refl _) (.cells v0 t0)
  have b1 := b0.alloc b0.size (.cells v1 t1)
  have b2 := b1.alloc b1.size (.cells v2 t2)
  have b3 := b2.alloc b2.size (.cells v3 t3)
  refine ⟨?_, ?_, ?_, h3, by simp, b3⟩
  · exact (Below.heap_alloc _ _ _ (by simp; omega)).trans ((Below.heap_alloc _ _ _ (by simp; omega)).trans ((Below.heap_alloc _ _ _ (by simp)).trans h0))
  · exact (Below.heap_alloc _ _ _ (by simp)).trans ((Below.heap_alloc _ _ _ (by simp)).trans h1)
  · exact (Below.heap_alloc _ _ _ (by simp)).trans h2
theorem ruleRes_of {w W' : World} {A : Nat → Prop} {T V : Tre} {s : Sl3} {e : Ending} (hV : V = T) (he : e = .returned (.agg (sv T s).toArray)) (hS : SRep W' A T s) (hb : Below w.heap.size w W') : RuleRes w A V e W' := by
  subst hV
  exact ⟨s, he, hS, hb⟩
theorem Row7.cells {w : World} {g o : Nat} {T : Tre} {s : Sl3} (h : Row7 w g o T s) {w' : World} {B : Nat} (hb : Below B w w') (hg : g < B) : Row7 w' g o T s := by
  have hc : ∀ j, w'.cell? ⟨g, j, none⟩ = w.cell? ⟨g, j, none⟩ := by
    intro j
    have h9 := hb.block g hg
    simp only [World.cell?, h9]
  exact ⟨(hc _).trans h.1, (hc _).trans h.2.1, (hc _).trans h.2.2.1, (hc _).trans h.2.2.2.1, (hc _).trans h.2.2.2.2.1, (hc _).trans h.2.2.2.2.2.1, (hc _).trans h.2.2.2.2.2.2⟩
theorem set7_but {S : Nat → Prop} {w0 w : World} {g : Nat} (h : But S w0 w) (hg : S g) (a0 a1 a2 a3 a4 a5 a6 : Value) :
    But S w0 (((((((w.setCell ⟨g, 0, none⟩ a0).setCell ⟨g, 1, none⟩ a1).setCell ⟨g, 2, none⟩ a2).setCell ⟨g, 3, none⟩ a3).setCell ⟨g, 4, none⟩ a4).setCell ⟨g, 5, none⟩ a5).setCell ⟨g, 6, none⟩ a6) :=
  ((((((h.setCell (p := ⟨g, 0, none⟩) hg _).setCell (p := ⟨g, 1, none⟩) hg _).setCell (p := ⟨g, 2, none⟩) hg _).setCell (p := ⟨g, 3, none⟩) hg _).setCell (p := ⟨g, 4, none⟩) hg _).setCell (p := ⟨g, 5, none⟩) hg _).setCell (p := ⟨g, 6, none⟩) hg _
theorem skids2 {W : World} {A : Nat → Prop} {gk : Nat} {b c : Tre} {sb sc : Sl3} (h : W.heap[gk]? = some (.cells #[.int .i64 b.nd.kind, .int .i64 b.nd.num, .string b.nd.text, .int .i64 b.nd.kids, .int .i64 b.nd.place, .slice sb.1 sb.2.1 sb.2.2, .bool (knT b), .int .i64 c.nd.kind, .int .i64 c.nd.num, .string c.nd.text, .int .i64 c.nd.kids, .int .i64 c.nd.place, .slice sc.1 sc.2.1 sc.2.2, .bool (knT c)] 51 (0, 0))) (hA : A gk) (hb : SRep W A b sb) (hc : SRep W A c sc) : SKids W A (some ⟨gk, 0, none⟩, 2, 2) [b, c] := by
  refine ⟨rfl, Nat.le_refl _, by simp, fun j hj => ?_⟩
  have h2 : j = 0 ∨ j = 1 := by simp at hj; omega
  rcases h2 with rfl | rfl
  · refine ⟨gk, sb, rfl, hA, ⟨?_, ?_, ?_, ?_, ?_, ?_, ?_⟩, hb⟩ <;> (rw [cell_of_row _ _ _ _ _ _ h]; rfl)
  · refine ⟨gk, sc, rfl, hA, ⟨?_, ?_, ?_, ?_, ?_, ?_, ?_⟩, hc⟩ <;> (rw [cell_of_row _ _ _ _ _ _ h]; rfl)
set_option maxRecDepth 20000 in
set_option maxHeartbeats 8000000 in
theorem rule_bin (us : Int → Nat) (x0 x1 x2 x3 x4 x5 : Sl3) (n : Nd) (ks : List Tre) (s : Sl3) (A : Nat → Prop) (w : World) (hA : ∀ q, w.heap.size ≤ q → A q) (hR : SRep w A (.mk n ks) s) (hP : PlT (.mk n ks)) (hu : CntS w x3 us) (hk : n.kind = 88) :
    Calls Tryz.prog 44 #[xv x0 x1 x2 x3 x4 x5, .agg (sv (.mk n ks) s).toArray] w fun e w' => RuleRes w A (ruleT us (.mk n ks)) e w' := by
  obtain ⟨so, sl, sc⟩ := s
  obtain ⟨h1, h2, h3, h4⟩ := hR.skids
  simp only [Tre.ks] at h1 h2 h3 h4
  subst h1
  obtain ⟨kd, nm, tx, kk, pl⟩ := n
  simp only at hk
  subst hk
  obtain ⟨a, b, rfl, -, -⟩ := hP.node.code2 (.inr (.inr rfl))
  simp only [List.length_cons, List.length_nil, Nat.zero_add, Nat.reduceAdd] at hR h2 h3 h4 ⊢
  obtain ⟨g, sa, hso, -, rowa, repa⟩ := h4 0 (by simp)
  obtain ⟨g', sb, hso', -, rowb, repb⟩ := h4 1 (by simp)
  rw [hso] at hso'
  simp only [Option.some.injEq, Addr.mk.injEq, and_true] at hso'
  subst hso'
  subst hso
  simp only [List.getElem_cons_zero, List.getElem_cons_succ, Nat.zero_mul, Nat.one_mul] at rowa rowb repa repb
  have lgw : g < w.heap.size := lt_of_cell rowa.1
  have HRA : Hid (Row7 w g 0 a sa) := rowa
  have HRB : Hid (Row7 w g 7 b sb) := rowb
  have HSA : Hid (SRep w A a sa) := repa
  have HSB : Hid (SRep w A b sb) := repb
  have LGW : Hid (g < w.heap.size) := lgw
  clear rowa rowb repa repb h4 h2 h3 lgw
  have HCC : Hid (∀ W, Calls Tryz.prog 60 #[.string tx, .agg #[.int .i64 a.nd.kind, .int .i64 a.nd.num, .string a.nd.text, .int .i64 a.nd.kids, .int .i64 a.nd.place, .slice sa.1 sa.2.1 sa.2.2, .bool (knT a)], .agg #[.int .i64 b.nd.kind, .int .i64 b.nd.num, .string b.nd.text, .int .i64 b.nd.kids, .int .i64 b.nd.place, .slice sb.1 sb.2.1 sb.2.2, .bool (knT b)]] W fun e w' => Below W.heap.size W w' ∧ ∃ (T : Tre) (s : Sl3), e = .returned (.tuple #[.agg #[.int .i64 T.nd.kind, .int .i64 T.nd.num, .string T.nd.text, .int .i64 T.nd.kids, .int .i64 T.nd.place, .slice s.1 s.2.1 s.2.2, .bool (knT T)], .bool (binT tx.toList a b).isSome]) ∧ ∀ R, binT tx.toList a b = some R → T = R ∧ s.2.1 = 0 ∧ R.ks = []) :=
    fun W => by
      have pa := hP.kid a (by simp)
      have pb := hP.kid b (by simp)
      obtain ⟨na, ka⟩ := a
      obtain ⟨nb, kb⟩ := b
      exact bin_any tx (.mk na ka) (.mk nb kb) sa sb W pa.node.text pb.node.text pa.node.num
  obtain ⟨kb, hkb⟩ : ∃ kb, knT (.mk ⟨88, nm, tx, kk, pl⟩ [a, b]) = kb := ⟨_, rfl⟩
  have HKB : Hid (knT (.mk ⟨88, nm, tx, kk, pl⟩ [a, b]) = kb) := hkb
  have hsv : (sv (.mk ⟨88, nm, tx, kk, pl⟩ [a, b]) ((some ⟨g, 0, none⟩), 2, sc)).toArray = #[.int .i64 88, .int .i64 nm, .string tx, .int .i64 kk, .int .i64 pl, .slice (some ⟨g, 0, none⟩) 2 sc, .bool kb] := by rw [← hkb]; rfl
  have HR : Hid (SRep w A (.mk ⟨88, nm, tx, kk, pl⟩ [a, b]) ((some ⟨g, 0, none⟩), 2, sc)) := hR
  have HA : Hid (∀ q, w.heap.size ≤ q → A q) := hA
  have HP : Hid (PlT (.mk ⟨88, nm, tx, kk, pl⟩ [a, b])) := hP
  obtain ⟨V, hV⟩ : ∃ V, ruleT us (.mk ⟨88, nm, tx, kk, pl⟩ [a, b]) = V := ⟨_, rfl⟩
  have HV : Hid (ruleT us (.mk ⟨88, nm, tx, kk, pl⟩ [a, b]) = V) := hV
  have HU : Hid (CntS w x3 us) := hu
  rw [hV]
  obtain ⟨rX, rT, rZ, rN, hsz, hB0⟩ := four_blocks w #[.slice x0.1 x0.2.1 x0.2.2, .slice x1.1 x1.2.1 x1.2.2, .slice x2.1 x2.2.1 x2.2.2, .slice x3.1 x3.2.1 x3.2.2, .slice x4.1 x4.2.1 x4.2.2, .slice x5.1 x5.2.1 x5.2.2] #[.int .i64 88, .int .i64 nm, .string tx, .int .i64 kk, .int .i64 pl, .slice (some ⟨g, 0, none⟩) 2 sc, .bool kb] #[.int .i64 0, .int .i64 0, .string ⟨#[]⟩, .int .i64 0, .int .i64 0, .slice none 0 0, .bool false] #[.int .i64 88, .int .i64 nm, .string tx, .int .i64 kk, .int .i64 pl] 48 51 51 34
  have HRX : Hid _ := rX
  have HRT : Hid _ := rT
  have HRZ : Hid _ := rZ
  have HRN : Hid _ := rN
  have HSZ : Hid _ := hsz
  have HB0 : Hid _ := hB0
  clear rX rT rZ rN hsz hB0 hkb hV hR hA hP hu
  unfold xv
  rw [hsv]
  clear hsv
  go_enter Tryz.func44, Tryz.ntmps44
  go_upto_region 2 with fail
  have rX := HRX.out
  have rT := HRT.out
  have rZ := HRZ.out
  have rN := HRN.out
  have hsz := HSZ.out
  have hB0 := HB0.out
  clear HRX HRT HRZ HRN HSZ HB0
  generalize ((((w.alloc (.cells #[.slice x0.1 x0.2.1 x0.2.2, .slice x1.1 x1.2.1 x1.2.2, .slice x2.1 x2.2.1 x2.2.2, .slice x3.1 x3.2.1 x3.2.2, .slice x4.1 x4.2.1 x4.2.2, .slice x5.1 x5.2.1 x5.2.2] 48)).alloc (.cells #[.int .i64 88, .int .i64 nm, .string tx, .int .i64 kk, .int .i64 pl, .slice (some ⟨g, 0, none⟩) 2 sc, .bool kb] 51)).alloc (.cells #[.int .i64 0, .int .i64 0, .string ⟨#[]⟩, .int .i64 0, .int .i64 0, .slice none 0 0, .bool false] 51)).alloc (.cells #[.int .i64 88, .int .i64 nm, .string tx, .int .i64 kk, .int .i64 pl] 34)) = W0 at rX rT rZ rN hsz hB0 ⊢
  obtain ⟨z, hz⟩ : ∃ z, w.heap.size = z := ⟨_, rfl⟩
  have HZ : Hid (w.heap.size = z) := hz
  have e2 : z + 1 + 1 = z + 2 := rfl
  have e3 : z + 2 + 1 = z + 3 := rfl
  simp only [hz] at rX rT rZ rN hsz
  simp only [hz, e2, e3]
  clear e2 e3 hz
  have HVB : Hid (V = (binT tx.toList a b).getD (.mk ⟨88, nm, tx, kk, pl⟩ [a, b])) := by
    show _ = _
    rw [← HV.out]
    rfl
  have HCE : Hid (∀ W, Below W0.heap.size W0 W → W.cell? ⟨z + 3, 2, none⟩ = some (.string tx) ∧ W.cell? ⟨z + 1, 5, none⟩ = some (.slice (some ⟨g, 0, none⟩) 2 sc) ∧ W.cell? ⟨g, 0, none⟩ = some (.int .i64 a.nd.kind) ∧ W.cell? ⟨g, 1, none⟩ = some (.int .i64 a.nd.num) ∧ W.cell? ⟨g, 2, none⟩ = some (.string a.nd.text) ∧ W.cell? ⟨g, 3, none⟩ = some (.int .i64 a.nd.kids) ∧ W.cell? ⟨g, 4, none⟩ = some (.int .i64 a.nd.place) ∧ W.cell? ⟨g, 5, none⟩ = some (.slice sa.1 sa.2.1 sa.2.2) ∧ W.cell? ⟨g, 6, none⟩ = some (.bool (knT a)) ∧ W.cell? ⟨g, 7, none⟩ = some (.int .i64 b.nd.kind) ∧ W.cell? ⟨g, 8, none⟩ = some (.int .i64 b.nd.num) ∧ W.cell? ⟨g, 9, none⟩ = some (.string b.nd.text) ∧ W.cell? ⟨g, 10, none⟩ = some (.int .i64 b.nd.kids) ∧ W.cell? ⟨g, 11, none⟩ = some (.int .i64 b.nd.place) ∧ W.cell? ⟨g, 12, none⟩ = some (.slice sb.1 sb.2.1 sb.2.2) ∧ W.cell? ⟨g, 13, none⟩ = some (.bool (knT b))) := by
    intro W hW
    have q1 := (hW.block (z + 1) (by omega)).trans rT
    have q3 := (hW.block (z + 3) (by omega)).trans rN
    have hbw := Below.step hB0 hW
    obtain ⟨a0, a1, a2, a3, a4, a5, a6⟩ := HRA.out.cells hbw LGW.out
    obtain ⟨b0, b1, b2, b3, b4, b5, b6⟩ := HRB.out.cells hbw LGW.out
    refine ⟨?_, ?_, a0, a1, a2, a3, a4, a5, a6, b0, b1, b2, b3, b4, b5, b6⟩
    · rw [cell_of_row _ _ _ _ _ _ q3]; rfl
    · rw [cell_of_row _ _ _ _ _ _ q1]; rfl
  have hbD := (Below.refl W0.heap.size W0).drew
  have hbA := ((Below.refl W0.heap.size W0).alloc (Nat.le_refl _) (.cells #[.int .i64 0, .int .i64 0, .string ⟨#[]⟩, .int .i64 0, .int .i64 0, .slice none 0 0, .bool false] 51)).drew
  have RA : Hid ((W0.alloc (.cells #[.int .i64 0, .int .i64 0, .string ⟨#[]⟩, .int .i64 0, .int .i64 0, .slice none 0 0, .bool false] 51)).drew.heap[W0.heap.size]? = some (.cells #[.int .i64 0, .int .i64 0, .string ⟨#[]⟩, .int .i64 0, .int .i64 0, .slice none 0 0, .bool false] 51 (0, 0))) := heap_alloc_new _ _
  have lz : z + 3 < W0.heap.size := by omega
  have lz1 : z + 1 < W0.heap.size := by omega
  have lg : g < W0.heap.size := by have := LGW.out; have := HZ.out; omega
  have k0 : W0.cell? ⟨z + 3, 0, none⟩ = some (.int .i64 88) := by rw [cell_of_row _ _ _ _ _ _ rN]; rfl
  generalize hob : (binT tx.toList a b) = ob at HCC HVB
  have HRX : Hid _ := rX
  have HRT : Hid _ := rT
  have HRZ : Hid _ := rZ
  have HRN : Hid _ := rN
  have HSZ : Hid _ := hsz
  have HB0 : Hid _ := hB0
  clear rX rT rZ rN hsz hB0 hob
  go_upto_region 3 with fail
  clear k0
  go_cut [6, 7] from 17 to 30 (fun v6 v7 wx => ∃ (rb : Nat) (T9 : Tre) (s9 : Sl3), v6 = .pointer (some ⟨rb, 0, none⟩) ∧ v7 = .bool ob.isSome ∧ Row7 wx rb 0 T9 s9 ∧ (∀ R, ob = some R → T9 = R ∧ s9.2.1 = 0 ∧ R.ks = []) ∧ Below W0.heap.size W0 wx)
  case first =>
    go_region_held3 (fun w' => w'.cell? ⟨z + 3, 2, none⟩ = some (.string tx) ∧ w'.cell? ⟨z + 1, 5, none⟩ = some (.slice (some ⟨g, 0, none⟩) 2 sc) ∧ w'.cell? ⟨g, 0, none⟩ = some (.int .i64 a.nd.kind) ∧ w'.cell? ⟨g, 1, none⟩ = some (.int .i64 a.nd.num) ∧ w'.cell? ⟨g, 2, none⟩ = some (.string a.nd.text) ∧ w'.cell? ⟨g, 3, none⟩ = some (.int .i64 a.nd.kids) ∧ w'.cell? ⟨g, 4, none⟩ = some (.int .i64 a.nd.place) ∧ w'.cell? ⟨g, 5, none⟩ = some (.slice sa.1 sa.2.1 sa.2.2) ∧ w'.cell? ⟨g, 6, none⟩ = some (.bool (knT a)) ∧ w'.cell? ⟨g, 7, none⟩ = some (.int .i64 b.nd.kind) ∧ w'.cell? ⟨g, 8, none⟩ = some (.int .i64 b.nd.num) ∧ w'.cell? ⟨g, 9, none⟩ = some (.string b.nd.text) ∧ w'.cell? ⟨g, 10, none⟩ = some (.int .i64 b.nd.kids) ∧ w'.cell? ⟨g, 11, none⟩ = some (.int .i64 b.nd.place) ∧ w'.cell? ⟨g, 12, none⟩ = some (.slice sb.1 sb.2.1 sb.2.2) ∧ w'.cell? ⟨g, 13, none⟩ = some (.bool (knT b))) (first | with_reducible exact HCE.out _ hbD | with_reducible exact HCE.out _ hbA | with_reducible exact HCE.out _ hb4 | with_reducible exact HCE.out _ (hb4.alloc hb4.size _) | with_reducible exact HCE.out _ (set7_below hb4 (Nat.le_refl _) _ _ _ _ _ _ _) | go_keep) ((go_at_call 60; refine (HCC.out _).mono ?_; rintro e w3 ⟨hb3, T9, s9, rfl, hT9⟩; first | (have hb4 := Below.step hbD hb3) | (have hb4 := Below.step hbA hb3; have r9 := (hb3.block W0.heap.size (by simp)).trans RA.out; obtain ⟨f, d0, d1, d2, d3, d4, d5, d6⟩ := zero7 r9; have f0 := f 0; have f1 := f 1; have f2 := f 2; have f3 := f 3; have f4 := f 4; have f5 := f 5; have f6 := f 6; have L9 : W0.heap.size < w3.heap.size := lt_of_cell d0)))
    · have HROW : Hid (Row7 _ _ 0 T9 s9) := row7_of (heap_alloc_new w3 (.cells #[.int .i64 T9.nd.kind, .int .i64 T9.nd.num, .string T9.nd.text, .int .i64 T9.nd.kids, .int .i64 T9.nd.place, .slice s9.1 s9.2.1 s9.2.2, .bool (knT T9)] 51))
      have HB9 : Hid _ := hb4.alloc hb4.size (.cells #[.int .i64 T9.nd.kind, .int .i64 T9.nd.num, .string T9.nd.text, .int .i64 T9.nd.kids, .int .i64 T9.nd.place, .slice s9.1 s9.2.1 s9.2.2, .bool (knT T9)] 51)
      have HT9 : Hid _ := hT9
      clear hb3 hb4 hT9 hbA hbD
      go_wp2_with fail
      go_meet
      case rel => exact ⟨_, T9, s9, rfl, rfl, HROW.out, HT9.out, HB9.out⟩
    · have HROW : Hid (Row7 _ _ 0 T9 s9) := row7_of (set7 r9 (.int .i64 T9.nd.kind) (.int .i64 T9.nd.num) (.string T9.nd.text) (.int .i64 T9.nd.kids) (.int .i64 T9.nd.place) (.slice s9.1 s9.2.1 s9.2.2) (.bool (knT T9)))
      have HB9 : Hid _ := set7_below hb4 (Nat.le_refl _) (.int .i64 T9.nd.kind) (.int .i64 T9.nd.num) (.string T9.nd.text) (.int .i64 T9.nd.kids) (.int .i64 T9.nd.place) (.slice s9.1 s9.2.1 s9.2.2) (.bool (knT T9))
      have HT9 : Hid _ := hT9
      clear hb3 hb4 hT9 hbA hbD r9 f f0 f1 f2 f3 f4 f5 f6 d0 d1 d2 d3 d4 d5 d6
      go_wp2_with fail
      go_meet
      case rel => exact ⟨_, T9, s9, rfl, rfl, HROW.out, HT9.out, HB9.out⟩
  case rest =>
    obtain ⟨rb, T9, s9, rfl, rfl, hrow, hT9, hbc⟩ := hcut
    have rT := (hbc.block (z + 1) (by have := HSZ.out; omega)).trans HRT.out
    have rZ := (hbc.block (z + 2) (by have := HSZ.out; omega)).trans HRZ.out
    have rN := (hbc.block (z + 3) (by have := HSZ.out; omega)).trans HRN.out
    have hB := Below.step HB0.out hbc
    clear hbc HCE HCC hbA hbD RA HRX HRT HRZ HRN HB0 lz lz1 lg
    cases ob with
    | some R =>
      obtain ⟨rfl, hs9, hk9⟩ := hT9 R rfl
      obtain ⟨c0, c1, c2, c3, c4, c5, c6⟩ := hrow
      simp only [Nat.zero_add] at c0 c1 c2 c3 c4 c5 c6
      have lrb : rb < wc.heap.size := lt_of_cell c0
      have hf := seven_fin (w := w) T9 s9 rZ hB (by rw [HZ.out]; omega)
      obtain ⟨f, d0, d1, d2, d3, d4, d5, d6⟩ := zero7 rZ
      have f0 := f 0
      have f1 := f 1
      have f2 := f 2
      have f3 := f 3
      have f4 := f 4
      have f5 := f 5
      have f6 := f 6
      have LZ : z + 2 < wc.heap.size := lt_of_cell d0
      clear f
      have HF : Hid (Row7 (((((((wc.setCell ⟨z + 2, 0, none⟩ (.int .i64 T9.nd.kind)).setCell ⟨z + 2, 1, none⟩ (.int .i64 T9.nd.num)).setCell ⟨z + 2, 2, none⟩ (.string T9.nd.text)).setCell ⟨z + 2, 3, none⟩ (.int .i64 T9.nd.kids)).setCell ⟨z + 2, 4, none⟩ (.int .i64 T9.nd.place)).setCell ⟨z + 2, 5, none⟩ (.slice s9.1 s9.2.1 s9.2.2)).setCell ⟨z + 2, 6, none⟩ (.bool (knT T9))) (z + 2) 0 T9 s9 ∧ Below w.heap.size w (((((((wc.setCell ⟨z + 2, 0, none⟩ (.int .i64 T9.nd.kind)).setCell ⟨z + 2, 1, none⟩ (.int .i64 T9.nd.num)).setCell ⟨z + 2, 2, none⟩ (.string T9.nd.text)).setCell ⟨z + 2, 3, none⟩ (.int .i64 T9.nd.kids)).setCell ⟨z + 2, 4, none⟩ (.int .i64 T9.nd.place)).setCell ⟨z + 2, 5, none⟩ (.slice s9.1 s9.2.1 s9.2.2)).setCell ⟨z + 2, 6, none⟩ (.bool (knT T9)))) := hf
      have HVV : Hid (V = T9) := HVB.out
      have HL9 : Hid (T9.ks = [] ∧ s9.2.1 = 0) := ⟨hk9, hs9⟩
      clear hf rT rZ rN hB hT9 hs9 hk9
      go_wp2
      refine bodyPost_ret (results_cell7 rfl _ (z + 2) rfl _ _ _ HF.out.1) rfl ?_
      exact ruleRes_of HVV.out rfl (srep_leaf HL9.out.1 HL9.out.2) HF.out.2
    | none =>
      clear hrow hT9
      have t0 : wc.cell? ⟨z + 1, 0, none⟩ = some (.int .i64 88) := by rw [cell_of_row _ _ _ _ _ _ rT]; rfl
      have t1 : wc.cell? ⟨z + 1, 1, none⟩ = some (.int .i64 nm) := by rw [cell_of_row _ _ _ _ _ _ rT]; rfl
      have t2 : wc.cell? ⟨z + 1, 2, none⟩ = some (.string tx) := by rw [cell_of_row _ _ _ _ _ _ rT]; rfl
      have t3 : wc.cell? ⟨z + 1, 3, none⟩ = some (.int .i64 kk) := by rw [cell_of_row _ _ _ _ _ _ rT]; rfl
      have t4 : wc.cell? ⟨z + 1, 4, none⟩ = some (.int .i64 pl) := by rw [cell_of_row _ _ _ _ _ _ rT]; rfl
      have t5 : wc.cell? ⟨z + 1, 5, none⟩ = some (.slice (some ⟨g, 0, none⟩) 2 sc) := by rw [cell_of_row _ _ _ _ _ _ rT]; rfl
      have t6 : wc.cell? ⟨z + 1, 6, none⟩ = some (.bool kb) := by rw [cell_of_row _ _ _ _ _ _ rT]; rfl
      have LT : z + 1 < wc.heap.size := lt_of_cell t0
      have n0 : wc.cell? ⟨z + 3, 0, none⟩ = some (.int .i64 88) := by rw [cell_of_row _ _ _ _ _ _ rN]; rfl
      have n1 : wc.cell? ⟨z + 3, 1, none⟩ = some (.int .i64 nm) := by rw [cell_of_row _ _ _ _ _ _ rN]; rfl
      have n2 : wc.cell? ⟨z + 3, 2, none⟩ = some (.string tx) := by rw [cell_of_row _ _ _ _ _ _ rN]; rfl
      have LN : z + 3 < wc.heap.size := lt_of_cell n0
      have hf := seven_fin (w := w) (.mk ⟨88, nm, tx, kk, pl⟩ [a, b]) ((some ⟨g, 0, none⟩), 2, sc) rZ hB (by rw [HZ.out]; omega)
      simp only [Tre.nd] at hf
      rw [HKB.out] at hf
      obtain ⟨f, d0, d1, d2, d3, d4, d5, d6⟩ := zero7 rZ
      have f0 := f 0
      have f1 := f 1
      have f2 := f 2
      have f3 := f 3
      have f4 := f 4
      have f5 := f 5
      have f6 := f 6
      have LZ : z + 2 < wc.heap.size := lt_of_cell d0
      clear f
      have HF : Hid (Row7 (((((((wc.setCell ⟨z + 2, 0, none⟩ (.int .i64 88)).setCell ⟨z + 2, 1, none⟩ (.int .i64 nm)).setCell ⟨z + 2, 2, none⟩ (.string tx)).setCell ⟨z + 2, 3, none⟩ (.int .i64 kk)).setCell ⟨z + 2, 4, none⟩ (.int .i64 pl)).setCell ⟨z + 2, 5, none⟩ (.slice (some ⟨g, 0, none⟩) 2 sc)).setCell ⟨z + 2, 6, none⟩ (.bool kb)) (z + 2) 0 (.mk ⟨88, nm, tx, kk, pl⟩ [a, b]) ((some ⟨g, 0, none⟩), 2, sc) ∧ Below w.heap.size w (((((((wc.setCell ⟨z + 2, 0, none⟩ (.int .i64 88)).setCell ⟨z + 2, 1, none⟩ (.int .i64 nm)).setCell ⟨z + 2, 2, none⟩ (.string tx)).setCell ⟨z + 2, 3, none⟩ (.int .i64 kk)).setCell ⟨z + 2, 4, none⟩ (.int .i64 pl)).setCell ⟨z + 2, 5, none⟩ (.slice (some ⟨g, 0, none⟩) 2 sc)).setCell ⟨z + 2, 6, none⟩ (.bool kb))) := hf
      have HVV : Hid (V = .mk ⟨88, nm, tx, kk, pl⟩ [a, b]) := HVB.out
      clear hf
      clear rT rZ rN hB
      go_wp2
      refine bodyPost_ret (results_cell7 rfl _ (z + 2) rfl _ _ _ HF.out.1) rfl ?_
      exact ruleRes_of HVV.out rfl (HR.out.under HF.out.2) HF.out.2
end Go.Proofs.YtemancdlnakkmaaGreat

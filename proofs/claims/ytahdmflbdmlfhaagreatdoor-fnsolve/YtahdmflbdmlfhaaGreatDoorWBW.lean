import Derived.Test.YtahdmflbdmlfhaaGreatDoorWAD
import Derived.Test.YtahdmflbdmlfhaaGreatDoorWAK
import Derived.StillTactics
import Derived.Test.YtahdmflbdmlfhaaGreatDoorDrawP
import Derived.Test.YtahdmflbdmlfhaaGreatDoorWAY
import Derived.Test.YtahdmflbdmlfhaaGreatDoorWBS
import Derived.Test.YtahdmflbdmlfhaaGreatDoorWBQ
import Derived.Test.YtahdmflbdmlfhaaGreatDoorWBI
import Derived.Test.YtahdmflbdmlfhaaGreatDoorWBR
import Derived.Deep.Cut
import Derived.Deep.CutRange
namespace Go.Proofs.YtahdmflbdmlfhaaGreatDoor

open Go.RowKit

theorem neqS (x : Nd) (w : World) :
    (binOp .neq 40 (.agg #[.int .i64 x.kind, .int .i64 x.num, .string x.text, .int .i64 x.kids, .int .i64 x.place]) (.agg #[.int .i64 x.kind, .int .i64 x.num, .string x.text, .int .i64 x.kids, .int .i64 x.place])).run Tryz.prog w =
      .ok (.bool false) w := by
  go_simp
  repeat' split
  all_goals simp_all

theorem Tryz.mixed : Tryz.prog.follows .mixedOrders = true := by kernel_rfl

set_option maxRecDepth 20000 in
set_option maxHeartbeats 1000000 in
/-- Equal lists are exact. -/
theorem wExact_same (xs : List Nd) (n : Nat) (HX : Hid (xs.length = n)) (ao bo : Option Addr) (cap cbp : Nat) (w : World) (hx : Nodes w ao xs) (hy : Nodes w bo xs) (hlx : n ≤ 1048576) :
    Calls Tryz.prog 8 #[.slice ao n cap, .slice bo n cbp] w fun e w' => e = .returned (.bool true) ∧ Below w.heap.size w w' := by
  go_enter Tryz.func8, Tryz.ntmps8
  go_wp2
  go_loopw [5] (fun i wr => ∃ (k : Nat), k ≤ n ∧ i = .int .i64 k ∧ Below w.heap.size w wr) (fun i _ => n - (intOf i).toNat)
  case atStart => exact ⟨0, Nat.zero_le _, rfl, Below.refl _ _⟩
  case round =>
    obtain ⟨k, hk, rfl, hb⟩ := hrel
    by_cases hlt : k < n
    · have hltk : k < xs.length := by have := HX.out; omega
      obtain ⟨b, o, rfl, hn⟩ := hx.below hb k hltk
      obtain ⟨b', o', rfl, hn'⟩ := hy.below hb k hltk
      obtain ⟨x, hxk⟩ : ∃ x, xs[k] = x := ⟨_, rfl⟩
      rw [hxk] at hn hn'
      obtain ⟨c0, c1, c2, c3, c4⟩ := hn
      obtain ⟨d0, d1, d2, d3, d4⟩ := hn'
      clear hx hy hxk
      have hne := neqS x
      go_wp2
      go_still Tryz.mixed
      have hb2 : Below w.heap.size w wr.drew := hb.drew
      go_wp2
      go_roundw
      case rel => exact ⟨k + 1, by omega, by go_num, hb2⟩
      case measure => (simp [intOf]) <;> omega
    · clear hx hy
      go_wp2
      go_ret
      exact ⟨rfl, hb⟩

theorem PairOk2.wf {ps : List (List Nd × List Nd)} (h : PairOk2 ps) : ∀ p ∈ ps, (∀ x ∈ p.1, (Lit.int .i64 x.num).wf = true) ∧ ∀ x ∈ p.2, (Lit.int .i64 x.num).wf = true := by
  intro p hp
  refine ⟨fun x hx => ?_, fun x hx => ?_⟩
  · have := (h p hp).1.2 x hx
    exact WalkArith.wf_i64 (by omega)
  · have := (h p hp).2.2 x hx
    exact WalkArith.wf_i64 (by omega)

theorem PairOk2.len {ps : List (List Nd × List Nd)} (h : PairOk2 ps) : ∀ p ∈ ps, p.1.length ≤ 1048576 ∧ p.2.length ≤ 1048576 := by
  intro p hp
  have h1 := (h p hp).1.1
  have h2 := (h p hp).2.1
  omega

theorem PairOk2.take {ps : List (List Nd × List Nd)} (h : PairOk2 ps) (i : Nat) : PairOk2 (ps.take i) := fun p hp => h p (List.mem_of_mem_take hp)

theorem Pairs.take {w : World} {ao : Option Addr} {ps : List (List Nd × List Nd)} (h : Pairs w ao ps) (i : Nat) : Pairs w ao (ps.take i) := by
  intro j hj
  have hj' : j < ps.length := by simp at hj; omega
  have e : (ps.take i)[j] = ps[j] := by simp
  obtain ⟨b, o, a1, c1, a2, c2, h1, h2, h3, h4, h5⟩ := h j hj'
  exact ⟨b, o, a1, c1, a2, c2, h1, by rw [e]; exact h2, by rw [e]; exact h3, by rw [e]; exact h4, by rw [e]; exact h5⟩

theorem solField (v : Bool) (a : Int) (b : Value) (W : World) : (Instr.field 27 (.agg #[.bool v, .int .i64 a, b]) 0).run Tryz.prog W = .ok (.bool v) W := by
  kernel_rfl

set_option maxRecDepth 100000 in
set_option maxHeartbeats 8000000 in
theorem lawFs (n : Nat) (ao : Option Addr) (cap : Nat) (w : World) (hn : n ≤ 9223372036854775807) (hc : Code w ao n) (gp : Value) (hgv : w.cell? ⟨0, 0, none⟩ = some (.iface 219 gp)) (hgt : ErrT w) :
    Calls Tryz.prog 3 #[.slice ao n cap] w fun e w' => e = .returned (.bool true) ∧ Below w.heap.size w w' := by
  obtain ⟨z, hz⟩ : ∃ z, w.heap.size = z := ⟨_, rfl⟩
  have hz1 : 1 < z := by rw [← hz]; exact lt_of_cell hgt
  have HIS : Hid (∀ (ps : List (List Nd × List Nd)) (m : Nat) (ao : Option Addr) (cap : Nat) (W : World), ps.length = m → m ≤ 1048576 → PairOk2 ps → Below z w W → Pairs W ao ps → Calls Tryz.prog 6 #[.slice ao m cap] W fun e w' => ∃ (ok : Bool) (at' : Int) (bo : Option Addr) (l c : Nat) (bs : List (Int × List Nd)), e = .returned (.agg #[.bool ok, .int .i64 at', .slice bo l c]) ∧ bs.length = l ∧ SolveRes ps ok at' bs ∧ BAns w' W.heap.size bo bs ∧ Below W.heap.size W w') := by
    intro ps m ao cap W hm hm2 hP hb hp
    exact implSolve_any ps m hm hm2 hP.len hP.wf gp ao cap W ((hb.cell (p := ⟨0, 0, none⟩) (by show 0 < z; omega)).trans hgv) (hgt.below hb hz1) hp
  clear hgv hgt
  by_cases hbig : 1048576 < n
  · have t1 : decide ((n : Int) > 1048576) = true := decide_eq_true (by omega)
    clear hc
    go_enter Tryz.func3, Tryz.ntmps3
    go_wp2
    go_ret
    exact ⟨rfl, Below.refl _ _⟩
  · have t1 : decide ((n : Int) > 1048576) = false := decide_eq_false (by omega)
    have HDR := drawSolve_any n (by omega) ao cap w hc
    clear hc
    go_enter Tryz.func3, Tryz.ntmps3
    go_wp2_with fail
    refine HDR.mono ?_
    rintro e w1 ⟨g, c, l, ps, rfl, hpl, hl1, hlc, hPr, hPok, hb1⟩
    rw [hz] at hb1
    have HPL : Hid (ps.length = l) := hpl
    have HPO : Hid (PairOk2 ps) := hPok
    have HSS := specSolve_any ps l HPL (by omega) hPok.len (some ⟨g, 0, none⟩) c w1 hPr
    clear HDR hpl hPok
    go_wp2_with fail
    refine HSS.mono ?_
    rintro e w2 ⟨ok, at', bo, lb, cb, bs, rfl, hbl, hres, hans, hb2⟩
    have HRES : Hid (SolveRes ps ok at' bs) := hres
    have hB2 : Below w2.heap.size w2 (w2.alloc (.cells #[.bool ok, .int .i64 at', .slice bo lb cb] 27)) := (Below.refl _ w2).alloc (Nat.le_refl _) _
    have hs1 := hb1.size
    have hbw2 : Below z w (w2.alloc (.cells #[.bool ok, .int .i64 at', .slice bo lb cb] 27)) := (hb1.trans (hb2.mono (by omega))).trans (hB2.mono (by have := hb2.size; omega))
    have hPr2 := (hPr.below hb2).below hB2
    have hk1 : (w2.alloc (.cells #[.bool ok, .int .i64 at', .slice bo lb cb] 27)).heap[w2.heap.size]? = some (.cells #[.bool ok, .int .i64 at', .slice bo lb cb] 27 (0, 0)) := heap_alloc_new _ _
    have HI := HIS.out ps l (some ⟨g, 0, none⟩) c _ HPL.out (by omega) HPO.out hbw2 hPr2
    have hs2 := hb2.size
    have HBL : Hid (bs.length = lb) := hbl
    clear HSS hres hans hb2 hPr hb1 hB2 hbl
    go_wp2_with fail
    refine HI.mono ?_
    rintro e w3 ⟨ok', at2, so, ls, cs, bs2, rfl, hbl2, hres2, hans2, hb3⟩
    obtain ⟨rfl, rfl, rfl⟩ := solve_res_same HRES.out hres2
    obtain rfl : lb = ls := by rw [← hbl2]; exact HBL.out.symm
    have hbw3 : Below z w w3 := hbw2.trans (hb3.mono (by have := hbw2.size; omega))
    have hs3 := hb3.size
    have hk1' := (hb3.block w2.heap.size (by simp)).trans hk1
    have hPr3 := hPr2.below hb3
    have hB3 : Below w3.heap.size w3 (w3.alloc (.cells #[.bool ok, .int .i64 at', .slice so lb cs] 27)) := (Below.refl _ w3).alloc (Nat.le_refl _) _
    have hz2 : w2.heap.size < w3.heap.size := by simp at hs3; omega
    have hk3 := (hB3.block w2.heap.size hz2).trans hk1'
    have hk4 : (w3.alloc (.cells #[.bool ok, .int .i64 at', .slice so lb cs] 27)).heap[w3.heap.size]? = some (.cells #[.bool ok, .int .i64 at', .slice so lb cs] 27 (0, 0)) := heap_alloc_new _ _
    have hPr4 := hPr3.below hB3
    have hbs4 := hans2.binds.below hB3
    have hbw4 : Below z w (w3.alloc (.cells #[.bool ok, .int .i64 at', .slice so lb cs] 27)) := hbw3.trans (hB3.mono (by have := hbw3.size; omega))
    clear HI hres2 hbl2 hans2 hb3 hbw2 hbw3 hk1 hk1' hPr2 hPr3 hB3 hs3
    obtain ⟨W, hW⟩ : ∃ W, w3.alloc (.cells #[.bool ok, .int .i64 at', .slice so lb cs] 27) = W := ⟨_, rfl⟩
    have hzW : w3.heap.size < W.heap.size := by rw [← hW]; simp
    rw [hW] at hk3 hk4 hPr4 hbs4 hbw4
    obtain ⟨r0, r1, r2, _⟩ := rbox3 (a' := .bool ok) (b' := .int .i64 at') (c' := .slice bo lb cb) hk3
    obtain ⟨s0, s1, s2, _⟩ := rbox3 (a' := .bool ok) (b' := .int .i64 at') (c' := .slice bo lb cb) hk4
    have hz2W : w2.heap.size < W.heap.size := by omega
    have tok : (ok != ok) = false := by simp
    have tat : ((at' : Int) != at') = false := by simp
    have tlb : ((lb : Int) != (lb : Int)) = false := by simp
    clear hk3 hk4
    cases ok
    · by_cases hneg : at' < 0
      · have tneg : decide ((at' : Int) < 0) = true := decide_eq_true hneg
        go_wp2
        go_ret
        exact ⟨rfl, by rw [hz]; exact hbw4⟩
      · obtain ⟨i, rfl⟩ : ∃ i : Nat, at' = (i : Int) := ⟨at'.toNat, by omega⟩
        have tneg : decide ((i : Int) < 0) = false := decide_eq_false hneg
        obtain ⟨hil, hah1, hah2⟩ := solve_ahead HRES.out
        rw [HPL.out] at hil
        have hlen1 : (ps.take i).length = i := by rw [List.length_take, HPL.out]; omega
        have hlen2 : (ps.take (i + 1)).length = i + 1 := by rw [List.length_take, HPL.out]; omega
        have HI1 := HIS.out (ps.take i) i (some ⟨g, 0, none⟩) c W hlen1 (by omega) (HPO.out.take i) hbw4 (hPr4.take i)
        have HAH1 : Hid (∀ {ok : Bool} {j : Int} {cs : List (Int × List Nd)}, SolveRes (ps.take i) ok j cs → ok = true ∨ j = -1) := hah1
        have HAH2 : Hid (∀ {ok : Bool} {j : Int} {cs : List (Int × List Nd)}, SolveRes (ps.take (i + 1)) ok j cs → ok = false) := hah2
        have HL2 : Hid ((ps.take (i + 1)).length = i + 1) := hlen2
        clear hah1 hah2 hlen1 hlen2
        go_wp2_with fail
        refine HI1.mono ?_
        rintro e w5 ⟨oka, ata, boa, la, cca, bsa, rfl, _, hresa, _, hb5⟩
        have hor := HAH1.out hresa
        have hB5 : Below w5.heap.size w5 (w5.alloc (.cells #[.bool oka, .int .i64 ata, .slice boa la cca] 27)) := (Below.refl _ w5).alloc (Nat.le_refl _) _
        have hbw5 : Below z w (w5.alloc (.cells #[.bool oka, .int .i64 ata, .slice boa la cca] 27)) := (hbw4.trans (hb5.mono (by have := hbw4.size; omega))).trans (hB5.mono (by have := hbw4.size; have := hb5.size; omega))
        have hk5 : (w5.alloc (.cells #[.bool oka, .int .i64 ata, .slice boa la cca] 27)).heap[w5.heap.size]? = some (.cells #[.bool oka, .int .i64 ata, .slice boa la cca] 27 (0, 0)) := heap_alloc_new _ _
        have hs5 := hb5.size
        have hr1 := (hB5.cell (p := ⟨w2.heap.size, 1, none⟩) (by show w2.heap.size < w5.heap.size; omega)).trans ((hb5.cell (p := ⟨w2.heap.size, 1, none⟩) hz2W).trans r1)
        have hPr5 := (hPr4.below hb5).below hB5
        obtain ⟨a0, a1, a2, _⟩ := rbox3 (a' := .bool oka) (b' := .int .i64 ata) (c' := .slice boa la cca) hk5
        clear HI1 hresa hb5 hB5 hk5 hbw4 hPr4 hbs4 r0 r1 r2 s0 s1 s2
        obtain ⟨V, hV⟩ : ∃ V, w5.alloc (.cells #[.bool oka, .int .i64 ata, .slice boa la cca] 27) = V := ⟨_, rfl⟩
        have hzV : w5.heap.size < V.heap.size := by rw [← hV]; simp
        rw [hV] at hr1 hPr5 a0 a1 a2 hbw5
        have hz2V : w2.heap.size < V.heap.size := by omega
        have HI2 := HIS.out (ps.take (i + 1)) (i + 1) (some ⟨g, 0, none⟩) c V HL2.out (by omega) (HPO.out.take (i + 1)) hbw5 (hPr5.take (i + 1))
        clear hPr5
        cases oka
        · have hata : ata = -1 := by
            rcases hor with h | h
            · cases h
            · exact h
          subst hata
          clear hor
          go_wp2_with fail
          refine HI2.mono ?_
          rintro e w6 ⟨okb, atb, bob, lb2, ccb, bsb, rfl, _, hresb, _, hb6⟩
          obtain rfl := HAH2.out hresb
          have hbw6 : Below z w w6 := hbw5.trans (hb6.mono (by have := hbw5.size; omega))
          clear HI2 hresb hb6 hbw5
          have hsf := solField
          go_wp2
          go_ret
          exact ⟨by simp, by rw [hz]; exact hbw6⟩
        · clear hor
          go_wp2_with fail
          refine HI2.mono ?_
          rintro e w6 ⟨okb, atb, bob, lb2, ccb, bsb, rfl, _, hresb, _, hb6⟩
          obtain rfl := HAH2.out hresb
          have hbw6 : Below z w w6 := hbw5.trans (hb6.mono (by have := hbw5.size; omega))
          clear HI2 hresb hb6 hbw5
          have hsf := solField
          go_wp2
          go_ret
          exact ⟨by simp, by rw [hz]; exact hbw6⟩
    · obtain ⟨hsl, hs300⟩ := solve_len HRES.out
      rw [HBL.out] at hsl
      have HK : Hid (∀ b ∈ bs, b.2.length ≤ 1048576) := fun b hb => by have := hs300 b hb; omega
      obtain ⟨hwb, hwp⟩ := solved_wf HRES.out HPO.out.wf
      have HWB : Hid (∀ b ∈ bs, (Lit.int .i64 b.1).wf = true) := hwb
      have HWP : Hid (∀ p ∈ ps, ∀ n ∈ putOf bs p.1, (Lit.int .i64 n.num).wf = true) := hwp
      have HPR : Hid (Pairs W (some ⟨g, 0, none⟩) ps) := hPr4
      have HBS : Hid (Binds W so bs) := hbs4
      have HWz : Hid (Below z w W) := hbw4
      have hwz := hbw4.size
      clear hs300 hwb hwp hPr4 hbs4 hbw4
      go_wp2
      go_loopw [7] (fun iv wr => ∃ k : Nat, k ≤ l ∧ k ≤ 300 ∧ iv = .int .i64 (k : Int) ∧ Below W.heap.size W wr) (fun iv _ => 300 - (intOf iv).toNat)
      case atStart => exact ⟨0, Nat.zero_le _, Nat.zero_le _, rfl, Below.refl _ _⟩
      case round =>
        obtain ⟨k, hkl, hk3, rfl, hbr⟩ := hrel
        have hbz : Below z w wr := HWz.out.trans (hbr.mono (by omega))
        by_cases hlt : k < l ∧ k < 300
        · obtain ⟨hlt1, hlt2⟩ := hlt
          have tl1 : decide ((k : Int) < (l : Int)) = true := decide_eq_true (by omega)
          have tl2 : decide ((k : Int) < 300) = true := decide_eq_true (by omega)
          have hkp : k < ps.length := by rw [HPL.out]; exact hlt1
          obtain ⟨b9, o9, a1, c1, a2, c2, hao, e1, e2, hn1, hn2⟩ := (HPR.out.below hbr) k hkp
          simp only [Option.some.injEq, Addr.mk.injEq, and_true] at hao
          obtain ⟨rfl, rfl⟩ := hao
          simp only [Nat.zero_add] at e1 e2
          have hmem : ps[k] ∈ ps := List.getElem_mem hkp
          obtain ⟨hput, hidem⟩ := solved_put HRES.out hmem
          have hok := HPO.out ps[k] hmem
          have hwf := HPO.out.wf ps[k] hmem
          have hwp := HWP.out ps[k] hmem
          obtain ⟨A, hA⟩ : ∃ A, ps[k].1 = A := ⟨_, rfl⟩
          obtain ⟨B, hB⟩ : ∃ B, ps[k].2 = B := ⟨_, rfl⟩
          rw [hA] at e1 hn1 hput hidem hok hwf hwp
          rw [hB] at e2 hn2 hput hok hwf
          obtain ⟨la, hla⟩ : ∃ la, A.length = la := ⟨_, rfl⟩
          obtain ⟨lB, hlB⟩ : ∃ lB, B.length = lB := ⟨_, rfl⟩
          have HLA : Hid (A.length = la) := hla
          have HLB : Hid (B.length = lB) := hlB
          have hla9 : la ≤ 101 := by rw [← hla]; exact hok.1.1
          have hlB9 : lB ≤ 101 := by rw [← hlB]; exact hok.2.1
          rw [hla] at e1
          rw [hlB] at e2
          have HWA : Hid (∀ n ∈ A, (Lit.int .i64 n.num).wf = true) := hwf.1
          have HWB9 : Hid (∀ n ∈ B, (Lit.int .i64 n.num).wf = true) := hwf.2
          have HWPA : Hid (∀ n ∈ putOf bs A, (Lit.int .i64 n.num).wf = true) := hwp
          have HPU : Hid (putOf bs A = putOf bs B) := hput
          have HID : Hid (putOf bs A ≠ [] → putOf bs (putOf bs A) = putOf bs A) := hidem
          have s2r := (hbr.cell (p := ⟨w3.heap.size, 2, none⟩) hzW).trans s2
          have hbsr := HBS.out.below hbr
          have hgl := lt_of_cell e1
          simp only at hgl
          have hz3r : w3.heap.size < wr.heap.size := by have := hbr.size; omega
          obtain ⟨Z, hZ⟩ : ∃ Z, putOf bs A = Z := ⟨_, rfl⟩
          obtain ⟨lp, hlp⟩ : ∃ lp, Z.length = lp := ⟨_, rfl⟩
          have HLP : Hid (Z.length = lp) := hlp
          have HZA : Hid (putOf bs A = Z) := hZ
          have HZB : Hid (putOf bs B = Z) := hput.symm.trans hZ
          have hlp3 : lp ≤ 300 := by
            rw [← hlp, ← hZ]
            unfold putOf
            split
            · next h8 => exact h8.2.2
            · simp
          have HC1 : Hid (∀ V, Below wr.heap.size wr V → Calls Tryz.prog 7 #[.slice so lb cs, .slice a1 la c1] V fun e w' => ∃ ag cg, e = .returned (.slice ag lp cg) ∧ Nodes w' ag Z ∧ Below wr.heap.size wr w') := by
            intro V hV
            refine (implPut_any bs lb HBL (by omega) HK HWB A la HLA (by omega) HWA so a1 cs c1 V (hbsr.below hV) (hn1.below hV)).mono ?_
            rintro e w' ⟨ag, cg, rfl, ha, hb⟩
            rw [HZA.out] at ha ⊢
            exact ⟨ag, cg, by rw [HLP.out], ha.nodes, Below.step hV hb⟩
          have HC2 : Hid (∀ V, Below wr.heap.size wr V → Calls Tryz.prog 7 #[.slice so lb cs, .slice a2 lB c2] V fun e w' => ∃ ag cg, e = .returned (.slice ag lp cg) ∧ Nodes w' ag Z ∧ Below V.heap.size V w') := by
            intro V hV
            refine (implPut_any bs lb HBL (by omega) HK HWB B lB HLB (by omega) HWB9 so a2 cs c2 V (hbsr.below hV) (hn2.below hV)).mono ?_
            rintro e w' ⟨ag, cg, rfl, ha, hb⟩
            rw [HZB.out] at ha ⊢
            exact ⟨ag, cg, by rw [HLP.out], ha.nodes, hb⟩
          have HC3 : Hid (0 < lp → ∀ ag cg V, Below wr.heap.size wr V → Nodes V ag Z → Calls Tryz.prog 7 #[.slice so lb cs, .slice ag lp cg] V fun e w' => ∃ ah ch, e = .returned (.slice ah lp ch) ∧ Nodes w' ah Z ∧ Below V.heap.size V w') := by
            intro h0 ag cg V hV hn
            refine (implPut_any bs lb HBL (by omega) HK HWB Z lp HLP (by omega) (by rw [← HZA.out]; exact HWPA.out) so ag cs cg V (hbsr.below hV) hn).mono ?_
            rintro e w' ⟨ah, ch, rfl, ha, hb⟩
            have hne : putOf bs A ≠ [] := by rw [HZA.out]; intro h9; rw [h9] at HLP; have := HLP.out; simp at this; omega
            have hid := HID.out hne
            rw [HZA.out] at hid
            rw [hid] at ha ⊢
            exact ⟨ah, ch, by rw [HLP.out], ha.nodes, hb⟩
          have HE2 : Hid (∀ V, Below wr.heap.size wr V → V.cell? ⟨g, k * 2 + 1, none⟩ = some (.slice a2 lB c2) ∧ V.cell? ⟨w3.heap.size, 2, none⟩ = some (.slice so lb cs) ∧ g < V.heap.size ∧ w3.heap.size < V.heap.size) := fun V hV => ⟨(hV.cell (p := ⟨g, k * 2 + 1, none⟩) hgl).trans e2, (hV.cell (p := ⟨w3.heap.size, 2, none⟩) hz3r).trans s2r, by have := hV.size; omega, by have := hV.size; omega⟩
          have hdrew : Below wr.heap.size wr wr.drew := (Below.refl _ wr).drew
          clear hput hidem hok hwf hwp hA hB hla hlB hmem hkp hn1 hn2 hbsr hZ hlp
          go_wp2_with fail
          go_cut [8] from 78 to 85 (fun v wx => ∃ (ag : Option Addr) (cg : Nat), v = .slice ag lp cg ∧ Nodes wx ag Z ∧ Below wr.heap.size wr wx)
          case first =>
            go_region_with (go_at_call 7; refine (HC1.out wr.drew hdrew).mono ?_; rintro e w5 ⟨ag, cg, rfl, hna, hb5⟩)
            all_goals (try go_wp2_with fail)
            all_goals go_meet
            all_goals exact ⟨ag, cg, rfl, hna, hb5⟩
          case rest =>
            obtain ⟨ag, cg, rfl, hna, hb5⟩ := hcut
            obtain ⟨w5, rfl⟩ : ∃ x, x = wc := ⟨_, rfl⟩
            obtain ⟨e2c, s2c, hglc, hz3c⟩ := HE2.out w5 hb5
            have hd5 : Below w5.heap.size w5 w5.drew := (Below.refl _ w5).drew
            have HC2' := HC2.out w5.drew (Below.step hb5 hd5)
            clear HC1 HC2 e1 e2 s2r
            go_wp2_with fail
            go_cut [9] from 86 to 93 (fun v wx => ∃ (ah : Option Addr) (ch : Nat), v = .slice ah lp ch ∧ Nodes wx ah Z ∧ Below w5.heap.size w5 wx)
            case first =>
              go_region_with (go_at_call 7; refine HC2'.mono ?_; rintro e w6 ⟨ah, ch, rfl, hnb, hb6⟩)
              all_goals (try go_wp2_with fail)
              all_goals go_meet
              all_goals exact ⟨ah, ch, rfl, hnb, Below.step hd5 hb6⟩
            case rest =>
              obtain ⟨ah, ch, rfl, hnb, hb6⟩ := hcut
              obtain ⟨w6, rfl⟩ : ∃ x, x = wc := ⟨_, rfl⟩
              have hna6 := hna.below hb6
              have hbr6 := Below.step hb5 hb6
              have HX1 := wExact_same Z lp HLP ag ah cg ch w6 hna6 hnb (by omega)
              clear HC2' hna hnb hd5 hb5 hb6 e2c s2c
              go_wp2_with fail
              refine HX1.mono ?_
              rintro e w7 ⟨rfl, hb7⟩
              have hna7 := hna6.below hb7
              have hbr7 := Below.step hbr6 hb7
              obtain ⟨_, s2c, hglc7, hz3c7⟩ := HE2.out w7 hbr7
              clear HX1 hna6 hbr6 hb7 hglc hz3c
              by_cases h0 : 0 < lp
              · have tlp : decide ((lp : Int) > 0) = true := decide_eq_true (by omega)
                have HC3' := HC3.out h0 ag cg w7 hbr7 hna7
                clear HC3
                go_wp2_with fail
                refine HC3'.mono ?_
                rintro e w8 ⟨ai, ci, rfl, hnc, hb8⟩
                have hna8 := hna7.below hb8
                have hbr8 := Below.step hbr7 hb8
                have HX2 := wExact_same Z lp HLP ai ag ci cg w8 hnc hna8 (by omega)
                clear HC3' hna7 hnc hb8 hbr7
                go_wp2_with fail
                refine HX2.mono ?_
                rintro e w9 ⟨rfl, hb9⟩
                have hbr9 := Below.step hbr8 hb9
                have hbW9 : Below W.heap.size W w9 := Below.step hbr hbr9
                clear HX2 hna8 hbr8 hb9 hbr9
                go_wp2
                go_roundw
                case rel => exact ⟨k + 1, by omega, by omega, by go_num, hbW9⟩
                case measure => simp [intOf]; omega
              · have tlp : decide ((lp : Int) > 0) = false := decide_eq_false (by omega)
                have hbW7 : Below W.heap.size W w7 := Below.step hbr hbr7
                clear HC3 hna7 hbr7
                go_wp2
                go_roundw
                case rel => exact ⟨k + 1, by omega, by omega, by go_num, hbW7⟩
                case measure => simp [intOf]; omega
        · have HD : Hid (Below z w wr) := hbz
          by_cases hl0 : k < l
          · have tl1 : decide ((k : Int) < (l : Int)) = true := decide_eq_true (by omega)
            have tl2 : decide ((k : Int) < 300) = false := decide_eq_false (by omega)
            clear s0 s1 s2 r0 r1 r2
            go_wp2
            go_ret
            exact ⟨rfl, by rw [hz]; exact HD.out⟩
          · have tl1 : decide ((k : Int) < (l : Int)) = false := decide_eq_false (by omega)
            clear s0 s1 s2 r0 r1 r2
            go_wp2
            go_ret
            exact ⟨rfl, by rw [hz]; exact HD.out⟩

end Go.Proofs.YtahdmflbdmlfhaaGreatDoor

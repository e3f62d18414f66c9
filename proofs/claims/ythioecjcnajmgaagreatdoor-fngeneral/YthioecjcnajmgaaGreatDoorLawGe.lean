import Derived.Test.YthioecjcnajmgaaGreatDoorWBT
import Derived.Test.YthioecjcnajmgaaGreatDoorWBM
import Derived.Test.YthioecjcnajmgaaGreatDoorWBN
import Derived.Test.YthioecjcnajmgaaGreatDoorWAQ
import Derived.Test.YthioecjcnajmgaaGreatDoorIUnk
import Derived.Deep.RegionHeld3
namespace Go.Proofs.YthioecjcnajmgaaGreatDoor

open Go.RowKit

set_option maxRecDepth 100000 in
set_option maxHeartbeats 8000000 in
theorem lawGe (n m : Nat) (ao mo : Option Addr) (cap cam : Nat) (w : World) (hn : n ≤ 9223372036854775807) (hm : m ≤ 9223372036854775807) (hc : Code w ao n) (hd : Code w mo m) (gp : Value) (hgv : w.cell? ⟨0, 0, none⟩ = some (.iface 200 gp)) (hgt : ErrT w) :
    Calls Tryz.prog 3 #[.slice ao n cap, .slice mo m cam] w fun e w' => e = .returned (.bool true) ∧ Below w.heap.size w w' := by
  obtain ⟨z, hz⟩ : ∃ z, w.heap.size = z := ⟨_, rfl⟩
  have hz1 : 1 < z := by rw [← hz]; exact lt_of_cell hgt
  have HIS : Hid (∀ (ps : List (List Nd × List Nd)) (m : Nat) (ao : Option Addr) (cap : Nat) (W : World), ps.length = m → m ≤ 1048576 → (∀ p ∈ ps, p.1.length ≤ 1048576 ∧ p.2.length ≤ 1048576) → (∀ p ∈ ps, (∀ x ∈ p.1, (Lit.int .i64 x.num).wf = true) ∧ ∀ x ∈ p.2, (Lit.int .i64 x.num).wf = true) → Below z w W → Pairs W ao ps → Calls Tryz.prog 12 #[.slice ao m cap] W fun e w' => ∃ (ok : Bool) (at' : Int) (bo : Option Addr) (l c : Nat) (bs : List (Int × List Nd)), e = .returned (.agg #[.bool ok, .int .i64 at', .slice bo l c]) ∧ bs.length = l ∧ SolveRes ps ok at' bs ∧ BAns w' W.heap.size bo bs ∧ Below W.heap.size W w') := by
    intro ps m ao cap W hm hm2 hP hP2 hb hp
    exact implSolve_any ps m hm hm2 hP hP2 gp ao cap W ((hb.cell (p := ⟨0, 0, none⟩) (by show 0 < z; omega)).trans hgv) (hgt.below hb hz1) hp
  clear hgv hgt
  by_cases hbig : 1048576 < n
  · have t1 : decide ((n : Int) > 1048576) = true := decide_eq_true (by omega)
    clear hc hd
    go_enter Tryz.func3, Tryz.ntmps3
    go_wp2
    go_ret
    exact ⟨rfl, Below.refl _ _⟩
  have t1 : decide ((n : Int) > 1048576) = false := decide_eq_false (by omega)
  by_cases hbig2 : 1048576 < m
  · have t2 : decide ((m : Int) > 1048576) = true := decide_eq_true (by omega)
    clear hc hd
    go_enter Tryz.func3, Tryz.ntmps3
    go_wp2
    go_ret
    exact ⟨rfl, Below.refl _ _⟩
  have t2 : decide ((m : Int) > 1048576) = false := decide_eq_false (by omega)
  obtain ⟨i1, hj1, hy0, hy1, hy2⟩ := info_parts Tryz.infoPr
  have HDR := drawSolve_any n (by omega) ao cap w hc
  have HD : Hid (Code w mo m) := hd
  clear hc hd
  go_enter Tryz.func3, Tryz.ntmps3
  go_wp2_with fail
  refine HDR.mono ?_
  rintro e w1 ⟨g0, c0, l, ps, rfl, hpl, hl1, hlc, hPr, hPok, hb1⟩
  have HWF := wFilling_any m (by omega) mo cam w1 (HD.out.below hb1)
  have HPL : Hid (ps.length = l) := hpl
  have HPO : Hid (PairOk2 ps) := hPok
  have hs1 := hb1.size
  clear HDR hpl hPok
  go_wp2_with fail
  refine HWF.mono ?_
  rintro e w2 ⟨gf, cf, fs, rfl, hbf, hF, hb2⟩
  have hPr2 := hPr.below hb2
  have hbw2 : Below z w w2 := by rw [← hz]; exact Below.step hb1 hb2
  have hs2 := hb2.size
  have HF : Hid (FillOk 8 fs) := hF
  have HFL : Hid (fs.length = 8) := hF.1
  have HK8 : ∀ b ∈ fs, b.2.length ≤ 1048576 := by
    intro b hb
    obtain ⟨j, hj, rfl⟩ := List.getElem_of_mem hb
    have := (hF.2 j hj).2.len
    omega
  have HFK : Hid (∀ b ∈ fs, b.2.length ≤ 1048576) := HK8
  have hz2 : z ≤ w2.heap.size := by omega
  have hG0 := GPr.empty (w := w2) (B := z) hz2
  have hbA : Below z w (w2.alloc (.cells #[] 30)) := hbw2.alloc hz2 _
  have HPR : Hid (∀ W, Below w2.heap.size w2 W → Pairs W (some ⟨g0, 0, none⟩) ps) := fun W hW => hPr2.below hW
  have HBF : Hid (∀ W, Below w2.heap.size w2 W → Binds W (some ⟨gf, 0, none⟩) fs) := fun W hW => hbf.below hW
  have HWZ : Hid (Below z w w2) := hbw2
  clear HWF hPr hb1 hb2 hPr2 hbf hF HK8 hbw2
  go_wp2
  go_loopw [7, 8] (fun pv iv wr => ∃ (k q g c : Nat) (qs : List (List Nd × List Nd)) (vs : List (Value × Value)), k ≤ l ∧ k ≤ 6 ∧ q ≤ k ∧ iv = .int .i64 (k : Int) ∧ pv = .slice (some ⟨g, 0, none⟩) q c ∧ GPr wr z g c qs vs ∧ w2.heap.size ≤ g ∧ Hid (qs.length = q) ∧ Hid (∀ p ∈ qs, GenP fs p ∧ SideOk2 p.1 ∧ p.2.length ≤ 300) ∧ Below w2.heap.size w2 wr) (fun _ iv _ => 6 - (intOf iv).toNat)
  case atStart => exact ⟨0, 0, w2.heap.size, 0, [], [], Nat.zero_le _, Nat.zero_le _, Nat.le_refl _, rfl, rfl, hG0, Nat.le_refl _, rfl, fun p hp => by simp at hp, (Below.refl _ _).alloc (Nat.le_refl _) _⟩
  case round =>
    clear hG0 hbA
    obtain ⟨k, q, g, c, qs, vs, hkl, hk6, hqk, rfl, rfl, hG, hgg, HQL, HQ, hbr⟩ := hrel
    have hbz : Below z w wr := HWZ.out.trans (hbr.mono (by omega))
    by_cases hlt : k < l ∧ k < 6
    · obtain ⟨hlt1, hlt2⟩ := hlt
      have tl1 : decide ((k : Int) < (l : Int)) = true := decide_eq_true (by omega)
      have tl2 : decide ((k : Int) < 6) = true := decide_eq_true (by omega)
      have hkp : k < ps.length := by rw [HPL.out]; exact hlt1
      obtain ⟨b9, o9, a1, c1, a2, c2, hao, e0, hx1, hn0, hx2⟩ := (HPR.out w2 (Below.refl _ _)) k hkp
      clear hx1 hx2
      simp only [Option.some.injEq, Addr.mk.injEq, and_true] at hao
      obtain ⟨rfl, rfl⟩ := hao
      simp only [Nat.zero_add] at e0
      have hgl0 := lt_of_cell e0
      simp only at hgl0
      have e1 := (hbr.cell (p := ⟨g0, k * 2, none⟩) hgl0).trans e0
      have hn1 := hn0.below hbr
      have hmem : ps[k] ∈ ps := List.getElem_mem hkp
      have hok := (HPO.out ps[k] hmem).1
      have hwf := (HPO.out.wf ps[k] hmem).1
      obtain ⟨A, hA⟩ : ∃ A, ps[k].1 = A := ⟨_, rfl⟩
      rw [hA] at e1 hn1 hok hwf hn0
      obtain ⟨la, hla⟩ : ∃ la, A.length = la := ⟨_, rfl⟩
      have HLA : Hid (A.length = la) := hla
      have hla9 : la ≤ 101 := by rw [← hla]; exact hok.1
      rw [hA] at e0
      rw [hla] at e1
      have HWA : Hid (∀ n ∈ A, (Lit.int .i64 n.num).wf = true) := hwf
      have HSA : Hid (SideOk2 A) := hok
      have hgl := lt_of_cell e1
      simp only at hgl
      have HP1 := specPut_any fs 8 HFL (by omega) HFK.out A la HLA (by omega) (some ⟨gf, 0, none⟩) a1 cf c1 wr (HBF.out wr hbr) hn1
      have HE1 : Hid (∀ V, Below wr.heap.size wr V → V.cell? ⟨g0, k * 2, none⟩ = some (.slice a1 la c1) ∧ g0 < V.heap.size ∧ Nodes V a1 A) := fun V hV => ⟨(hV.cell (p := ⟨g0, k * 2, none⟩) hgl).trans e1, by have := hV.size; omega, hn1.below hV⟩
      have HA1 : Hid (A ≠ [] → ∀ b o, a1 = some ⟨b, o, none⟩ → b < w2.heap.size) := by
        intro hne b o e
        obtain ⟨b', o', e', hnd⟩ := hn0 0 (List.length_pos_iff.2 hne)
        rw [e] at e'
        simp only [Option.some.injEq, Addr.mk.injEq, and_true] at e'
        obtain ⟨rfl, rfl⟩ := e'
        exact lt_of_cell hnd.1
      rw [hla] at e0
      have HE : Hid (∀ V, Below w2.heap.size w2 V → V.cell? ⟨g0, k * 2, none⟩ = some (.slice a1 la c1) ∧ g0 < V.heap.size ∧ Nodes V a1 A) := fun V hV => ⟨(hV.cell (p := ⟨g0, k * 2, none⟩) hgl0).trans e0, by have := hV.size; omega, hn0.below hV⟩
      clear hn0 e0
      clear hok hwf hA hla hmem hkp
      go_wp2_with fail
      refine HP1.mono ?_
      rintro e w3 ⟨gb, cb, lb, rfl, hgb, hlb, hrb, hb3⟩
      obtain ⟨Bp, hBp⟩ : ∃ Bp, putOf fs A = Bp := ⟨_, rfl⟩
      rw [hBp] at hlb hrb
      have HBP : Hid (putOf fs A = Bp) := hBp
      have HLB : Hid (Bp.length = lb) := hlb
      have hlb3 : lb ≤ 300 := by
        rw [← hlb, ← hBp]
        unfold putOf
        split
        · next h8 => exact h8.2.2
        · simp
      have hgw := hG.block
      have hG3 := hG.below hb3
      have hbr3 := Below.step hbr hb3
      have hbz3 : Below z w w3 := HWZ.out.trans (hbr3.mono (by omega))
      obtain ⟨e13, hgl3, hn13⟩ := HE1.out w3 hb3
      have hs3 := hb3.size
      have HE3 : Hid (∀ V, Below w3.heap.size w3 V → V.cell? ⟨g0, k * 2, none⟩ = some (.slice a1 la c1) ∧ g0 < V.heap.size ∧ Nodes V a1 A) := fun V hV => HE1.out V (Below.step hb3 hV)
      clear HP1 hBp hlb hG hb3 hbr hbz e1 hn1 hgl HE1
      by_cases hlb0 : lb = 0
      · subst hlb0
        clear hrb hG3 hn13
        go_wp2
        go_ret
        exact ⟨rfl, by rw [hz]; exact hbz3⟩
      · have tlb : ((lb : Int) == 0) = false := by simp; omega
        have hne : Bp ≠ [] := by intro h9; rw [h9] at HLB; have := HLB.out; simp at this; omega
        have HU := specUnknowns_any Bp lb HLB (by omega) (some ⟨gb, 0, none⟩) cb w3 hrb.nodes
        go_wp2_with fail
        refine HU.mono ?_
        rintro e w4 ⟨gu, cu, lu, rfl, _, hlu, _, hb4⟩
        have hG4 := hG3.below hb4
        have hbr4 := Below.step hbr3 hb4
        have hrb4 := hrb.below hb4
        obtain ⟨e14, hgl4, hn14⟩ := HE3.out w4 hb4
        have hs4 := hb4.size
        have HE4 : Hid (∀ V, Below w4.heap.size w4 V → V.cell? ⟨g0, k * 2, none⟩ = some (.slice a1 la c1) ∧ g0 < V.heap.size ∧ Nodes V a1 A) := fun V hV => HE3.out V (Below.step hb4 hV)
        have HLU : Hid ((unkOf Bp).length = lu) := hlu
        clear HU hG3 hrb hb4 hbr3 hbz3 e13 hn13 hgl3 HE3 hlu
        by_cases hlu0 : 0 < lu
        · have tlu : decide ((lu : Int) > 0) = true := decide_eq_true (by omega)
          clear hrb4 hn14
          go_wp2
          go_roundw
          case rel => exact ⟨k + 1, q, g, c, qs, vs, by omega, by omega, by omega, by go_num, rfl, hG4, hgg, HQL, HQ, hbr4⟩
          case measure => simp [intOf]; omega
        · have tlu : decide ((lu : Int) > 0) = false := decide_eq_false (by omega)
          have hGP : GenP fs (A, Bp) := by
            have h9 := gen_pair (fs := fs) (A := A) (by rw [HBP.out]; exact hne) (by rw [HBP.out, HLU.out]; omega)
            rw [HBP.out] at h9
            exact h9
          have hAne : A ≠ [] := by
            intro h9
            have := typeb_pos hGP.ta
            rw [h9] at this
            simp at this
          have hgb4 := hG4.block
          have hasA : Aside w4 g a1 := fun b o e => by
            have h9 := HA1.out hAne b o e
            have := hbr4.size
            omega
          have hasB : Aside w4 g (some ⟨gb, 0, none⟩) := fun b o e => by
            simp only [Option.some.injEq, Addr.mk.injEq, and_true] at e
            have := hrb4.lt
            omega
          have hB5 : Below w4.heap.size w4 (w4.alloc (.cells #[.slice a1 la c1, .slice (some ⟨gb, 0, none⟩) lb cb] 30)) := (Below.refl _ w4).alloc (Nat.le_refl _) _
          have hG5 := hG4.below hB5
          have hn5 := hn14.below hB5
          have hrb5 := hrb4.below hB5
          have hown5 := hG5.own.2
          rw [HQL.out] at hown5
          have HG5 : Hid (GPr (w4.alloc (.cells #[.slice a1 la c1, .slice (some ⟨gb, 0, none⟩) lb cb] 30)) z g c qs vs) := hG5
          have HGP : Hid (GenP fs (A, Bp)) := hGP
          clear hG4 hG5 hn14 hGP hrb4
          go_wp2_with (at_builtin; refine wpList_append2 _ rfl (.tmp 53) (.tmp 61) 23 rfl z 30 i1 _ 2 48 Tryz.underlying23 hj1 hy0 hy1 hy2 rfl (by decide) g q c _ rfl hown5 ⟨_, 0, none⟩ 1 1 [.slice a1 la c1, .slice (some ⟨gb, 0, none⟩) lb cb] rfl rfl (pairP_cells _ _ _) (pair_one _ _ _ _ _ _) ?b3 ?b4 ?b5 ?_)
          case b3 => unfold maxLen; omega
          case b4 => omega
          case b5 => have := hbr4.size; simp; omega
          intro g2 c2' w5 hown8 hgrow8 hwh8
          have hsg := hgrow8.size
          have hG6 := HG5.out.push (ca := c1) (cb := cb) hgrow8 (by simpa using hwh8) hsg hn5 hrb5.nodes (hasA.mono hB5.size) (hasB.mono hB5.size) (by rw [HQL.out, HLA.out, HLB.out]; exact hown8)
          have hbr5 : Below w2.heap.size w2 w5 := (hbr4.alloc hbr4.size _).grown hgrow8 (hbr4.alloc hbr4.size _).size (fun j hj => by cases hj; exact hgg)
          have hrb6 := row_kept hrb5 hgrow8 (by have := (hasB gb 0 rfl).1; exact this)
          have hgg2 : w2.heap.size ≤ g2 := by
            rcases hwh8 with h9 | h9
            · omega
            · have := hbr4.size; omega
          have HQL6 : Hid ((qs ++ [(A, Bp)]).length = q + 1) := by rw [Hid, List.length_append, HQL.out]; rfl
          have HQ6 : Hid (∀ p ∈ qs ++ [(A, Bp)], GenP fs p ∧ SideOk2 p.1 ∧ p.2.length ≤ 300) := by
            intro p hp
            rcases List.mem_append.1 hp with hp | hp
            · exact HQ.out p hp
            · simp at hp
              subst hp
              exact ⟨HGP.out, HSA.out, by rw [HLB.out]; exact hlb3⟩
          obtain ⟨e15, hgl5, hn15⟩ := HE.out w5 hbr5
          have HWB : Hid (∀ n ∈ Bp, (Lit.int .i64 n.num).wf = true) := by
            have h9 := gen_wf HF.out HWA.out
            rw [← HGP.out.eq] at h9
            exact h9
          have HIN := implInst_any A Bp la lb HLA HLB (by omega) (by omega) HWA HWB a1 (some ⟨gb, 0, none⟩) c1 cb w5 hn15 hrb6.nodes
          clear hown8 hgrow8 hwh8 hown5 hn5 hrb5 HG5 hbr4 hasA hasB e14 hgl4 HE4 HQL HQ
          go_wp2_with fail
          refine HIN.mono ?_
          rintro e w6 ⟨ag, cg, bs, fl, rfl, hir, hba, hb6⟩
          obtain ⟨rfl, hnums, hput⟩ := gen_inst HF.out HGP.out hir
          have hG7 := hG6.below hb6
          have hbr6 := Below.step hbr5 hb6
          obtain ⟨e16, hgl6, hn16⟩ := HE.out w6 hbr6
          have hbi6 := hba.binds
          obtain ⟨nu, hnu⟩ : ∃ nu, (unkOf A).length = nu := ⟨_, rfl⟩
          have HNU : Hid ((unkOf A).length = nu) := hnu
          have hbl : bs.length = nu := by rw [← hnu, ← hnums]; simp [nums]
          have HBL : Hid (bs.length = nu) := hbl
          have HNM : Hid (nums bs = unkOf A) := hnums
          have HPU : Hid (∀ b ∈ bs, putOf fs [metaN b.1] = b.2) := hput
          have hnu1 : nu ≤ 101 := by
            have h9 := nodup_len (xs := unkOf A) (ys := metas A) ((unkOf_facts A HGP.out.ta).1.imp (fun h => by omega)) (fun x hx => by
              obtain ⟨n, hn, hk, rfl⟩ := ((unkOf_facts A HGP.out.ta).2 x).1 hx
              exact List.mem_map.2 ⟨n, List.mem_filter.2 ⟨hn, by simpa using hk⟩, rfl⟩)
            have h8 := metas_len A
            have := HLA.out
            omega
          have HUN := implUnknowns_any A la HLA (by omega) a1 c1 w6 hn16
          rw [hbl]
          clear HIN hG6 hbr5 hrb6 hb6 hir hnums hput hba hbl e15 hgl5 hn15 hnu
          go_wp2_with fail
          refine HUN.mono ?_
          rintro e w7 ⟨an, cn, rfl, hla7, hb7⟩
          rw [HNU.out]
          have hG8 := hG7.below hb7
          have hbr7 := Below.step hbr6 hb7
          have hbi7 := hbi6.below hb7
          have hnc7 := hla7.cells
          obtain ⟨e17, hgl7, hn17⟩ := HE.out w7 hbr7
          have HSU := specUnknowns_any A la HLA (by omega) a1 c1 w7 hn17
          have tnu : ((nu : Int) != (nu : Int)) = false := by simp
          clear HUN hG7 hbr6 hbi6 hb7 hla7 e16 hgl6 hn16 hn17
          go_wp2_with fail
          refine HSU.mono ?_
          rintro e w8 ⟨gu2, cu2, lu2, rfl, _, hlu2, hru2, hb8⟩
          obtain rfl : lu2 = nu := by rw [← hlu2]; exact HNU.out
          have hG9 := hG8.below hb8
          have hbr8 := Below.step hbr7 hb8
          have hbi8 := hbi7.below hb8
          have hnc8 := hnc7.below hb8
          have HSN := wSameNums_same (unkOf A) lu2 HNU an (some ⟨gu2, 0, none⟩) cn cu2 w8 hnc8 hru2.cells (by omega)
          clear HSU hG8 hbr7 hbi7 hb8 hnc7 hlu2 hru2 e17 hgl7
          go_wp2_with fail
          refine HSN.mono ?_
          rintro e w9 ⟨rfl, hb9⟩
          have hG10 := hG9.below hb9
          have hbr9 := Below.step hbr8 hb9
          have HBI : Hid (∀ V, Below w9.heap.size w9 V → Binds V ag bs) := fun V hV => (hbi8.below hb9).below hV
          have HNC : Hid (∀ V, Below w9.heap.size w9 V → LCells V an (unkOf A)) := fun V hV => (hnc8.below hb9).below hV
          have HG10 : Hid (GPr w9 z g2 c2' (qs ++ [(A, Bp)]) (vs ++ [(.slice a1 A.length c1, .slice (some ⟨gb, 0, none⟩) Bp.length cb)])) := hG10
          have HBR9 : Hid (Below w2.heap.size w2 w9) := hbr9
          have hz9 := hbr9.size
          clear HSN hG9 hG10 hbr8 hbi8 hnc8 hb9 hbr9
          go_wp2
          go_loopw [13] (fun jv wr2 => ∃ j : Nat, j ≤ lu2 ∧ jv = .int .i64 (j : Int) ∧ Below w9.heap.size w9 wr2) (fun jv _ => lu2 - (intOf jv).toNat)
          case atStart => exact ⟨0, Nat.zero_le _, rfl, Below.refl _ _⟩
          case round =>
            obtain ⟨j, hj, rfl, hbj⟩ := hrel
            by_cases hjl : j < lu2
            · have hjb : j < bs.length := by rw [HBL.out]; exact hjl
              have hjn : j < (unkOf A).length := by rw [HNU.out]; exact hjl
              have hju : (unkOf A)[j] = bs[j].1 := by
                have h9 : (nums bs)[j]? = (unkOf A)[j]? := by rw [HNM.out]
                rw [List.getElem?_eq_getElem hjn] at h9
                simp only [nums, List.getElem?_map, List.getElem?_eq_getElem hjb, Option.map_some, Option.some.injEq] at h9
                exact h9.symm
              obtain ⟨b9, o9, ai, ci, hag, d0, d1, hnd⟩ := (HBI.out wr hbj) j hjb
              obtain ⟨b8, o8, han, f0⟩ := (HNC.out wr hbj) j hjn
              subst hag han
              have hpt := HPU.out bs[j] (List.getElem_mem hjb)
              rw [hju] at f0
              obtain ⟨x, hx⟩ : ∃ x, bs[j].1 = x := ⟨_, rfl⟩
              obtain ⟨T, hT⟩ : ∃ T, bs[j].2 = T := ⟨_, rfl⟩
              rw [hx] at f0 d0 hpt
              rw [hT] at d1 hnd hpt
              obtain ⟨lt, hlt⟩ : ∃ lt, T.length = lt := ⟨_, rfl⟩
              rw [hlt] at d1
              have HLT : Hid (T.length = lt) := hlt
              have hlt3 : lt ≤ 300 := by
                rw [← hlt, ← hpt]
                unfold putOf
                split
                · next h8 => exact h8.2.2
                · simp
              have HPT : Hid (putOf fs [metaN x] = T) := hpt
              have txx : (x != x) = false := by simp
              have hl9 : b9 < wr.heap.size := lt_of_cell d0
              have hl8 : b8 < wr.heap.size := lt_of_cell f0
              clear hju hx hT hlt hpt
              have hBv : Below wr.heap.size wr ((wr.alloc (.cells #[.int .i64 61, .int .i64 x, .string ⟨#[]⟩, .int .i64 0, .int .i64 0] 40)).drew) := ((Below.refl _ wr).alloc (Nat.le_refl _) _).drew
              have HS : Hid (∀ V, Below wr.heap.size wr V → V.cell? ⟨b9, o9 + j * 2, none⟩ = some (.int .i64 x) ∧ V.cell? ⟨b9, o9 + j * 2 + 1, none⟩ = some (.slice ai lt ci) ∧ V.cell? ⟨b8, o8 + j, none⟩ = some (.int .i64 x)) := fun V hV => ⟨(hV.cell (p := ⟨b9, o9 + j * 2, none⟩) hl9).trans d0, (hV.cell (p := ⟨b9, o9 + j * 2 + 1, none⟩) hl9).trans d1, (hV.cell (p := ⟨b8, o8 + j, none⟩) hl8).trans f0⟩
              have HC1 : Calls Tryz.prog 6 #[.slice (some ⟨gf, 0, none⟩) 8 cf, .slice (some ⟨wr.heap.size, 0, none⟩) 1 1] ((wr.alloc (.cells #[.int .i64 61, .int .i64 x, .string ⟨#[]⟩, .int .i64 0, .int .i64 0] 40)).drew) fun e w' => ∃ gt ct, e = .returned (.slice (some ⟨gt, 0, none⟩) lt ct) ∧ Row w' gt T ∧ Below wr.heap.size wr w' := by
                have hrow := (OwnN.one (w := wr) (B := wr.heap.size) (Nat.le_refl _) (metaN x)).row.2
                have hrd : Row ((wr.alloc (.cells #[.int .i64 61, .int .i64 x, .string ⟨#[]⟩, .int .i64 0, .int .i64 0] 40)).drew) wr.heap.size [metaN x] := hrow.below (Below.refl _ _).drew
                have hbw := Below.step (Below.step HBR9.out hbj) hBv
                refine (specPut_any fs 8 HFL (by omega) HFK.out [metaN x] 1 rfl (by omega) (some ⟨gf, 0, none⟩) (some ⟨wr.heap.size, 0, none⟩) cf 1 _ (HBF.out _ hbw) hrd.nodes).mono ?_
                rintro e w' ⟨gt, ct, l5, rfl, _, hl5, hr5, hb5⟩
                rw [HPT.out] at hl5 hr5
                exact ⟨gt, ct, by rw [← HLT.out, ← hl5], hr5, Below.step hBv hb5⟩
              have HC2 : Hid (∀ gt ct w5, Row w5 gt T → Below wr.heap.size wr w5 → Calls Tryz.prog 11 #[.slice ai lt ci, .slice (some ⟨gt, 0, none⟩) lt ct] w5 fun e w' => e = .returned (.bool true) ∧ Below wr.heap.size wr w') := by
                intro gt ct w5 hr hb
                refine (wExact_same T lt HLT ai (some ⟨gt, 0, none⟩) ci ct w5 (hnd.below hb) hr.nodes (by omega)).mono ?_
                rintro e w' ⟨rfl, hb'⟩
                exact ⟨rfl, Below.step hb hb'⟩
              have hS0 := HS.out wr (Below.refl _ _)
              go_wp2_with fail
              go_region_held3 (fun w' => w'.cell? ⟨b9, o9 + j * 2, none⟩ = some (.int .i64 x) ∧ w'.cell? ⟨b9, o9 + j * 2 + 1, none⟩ = some (.slice ai lt ci) ∧ w'.cell? ⟨b8, o8 + j, none⟩ = some (.int .i64 x)) (first | exact hS0 | exact hS5 | exact hS6 | go_keep)
                (first
                | (go_at_call 6; refine HC1.mono ?_; rintro e w5 ⟨gt, ct, rfl, hr5, hb5⟩; have hS5 := HS.out w5 hb5)
                | (go_at_call 11; refine (HC2.out gt ct w5 hr5 hb5).mono ?_; rintro e w6 ⟨rfl, hb6⟩; have hS6 := HS.out w6 hb6))
              all_goals
                have hbj6 : Below w9.heap.size w9 w6 := Below.step hbj hb6
              all_goals
                go_wp2
                go_roundw
                case rel => exact ⟨j + 1, by omega, by go_num, hbj6⟩
                case measure => simp [intOf]; omega
            · have hG11 := HG10.out.below hbj
              have hbr11 := Below.step HBR9.out hbj
              go_wp2
              go_roundw
              case rel => exact ⟨k + 1, q + 1, g2, c2', _, _, by omega, by omega, by omega, by go_num, rfl, hG11, hgg2, HQL6, HQ6, hbr11⟩
              case measure => simp [intOf]; omega
    · have hq6 : q ≤ 6 := by omega
      have hlen : ∀ p ∈ qs, p.1.length ≤ 1048576 ∧ p.2.length ≤ 1048576 := by
        intro p hp
        have h1 := (HQ.out p hp).2.1.1
        have h2 := (HQ.out p hp).2.2
        omega
      have hwfs : ∀ p ∈ qs, (∀ x ∈ p.1, (Lit.int .i64 x.num).wf = true) ∧ ∀ x ∈ p.2, (Lit.int .i64 x.num).wf = true := by
        intro p hp
        obtain ⟨h1, h2, _⟩ := HQ.out p hp
        have hA : ∀ x ∈ p.1, (Lit.int .i64 x.num).wf = true := fun x hx => by
          have := h2.2 x hx
          exact WalkArith.wf_i64 (by omega)
        refine ⟨hA, ?_⟩
        rw [h1.eq]
        exact gen_wf HF.out hA
      have hsum : (qs.map fun p => p.1.length + p.2.length).sum ≤ 20000 := by
        have key : ∀ rs : List (List Nd × List Nd), (∀ p ∈ rs, p.1.length + p.2.length ≤ 401) → (rs.map fun p => p.1.length + p.2.length).sum ≤ rs.length * 401 := by
          intro rs
          induction rs with
          | nil => intro _; simp
          | cons r rs ih =>
            intro h
            have h1 := h r (by simp)
            have h2 := ih (fun p hp => h p (by simp [hp]))
            simp only [List.map_cons, List.sum_cons, List.length_cons, Nat.add_mul]
            omega
        have h9 := key qs (fun p hp => by
          have h1 := (HQ.out p hp).2.1.1
          have h2 := (HQ.out p hp).2.2
          omega)
        rw [HQL.out] at h9
        have : q * 401 ≤ 6 * 401 := Nat.mul_le_mul_right _ hq6
        omega
      have HSOL := HIS.out qs q (some ⟨g, 0, none⟩) c wr HQL.out (by omega) hlen hwfs hbz hG.pairs
      have HGS : Hid (∀ {ok : Bool} {i : Int} {bs : List (Int × List Nd)}, SolveRes qs ok i bs → ok = true ∧ ∀ b ∈ bs, putOf fs [metaN b.1] = b.2) := fun h => gen_solved HF.out (fun p hp => (HQ.out p hp).1) hsum h
      have hwz := hbz.size
      have HBRR : Hid (Below w2.heap.size w2 wr) := hbr
      have HBZ : Hid (Below z w wr) := hbz
      clear hlen hwfs hsum hG hbr hbz
      by_cases hl0 : k < l
      · have tl1 : decide ((k : Int) < (l : Int)) = true := decide_eq_true (by omega)
        have tl2 : decide ((k : Int) < 6) = false := decide_eq_false (by omega)
        go_wp2_with fail
        refine HSOL.mono ?_
        rintro e w3 ⟨ok, at', bo, lb, cb, bs, rfl, hbl, hres, hans, hb3⟩
        obtain ⟨rfl, hput⟩ := HGS.out hres
        obtain ⟨hsl, hs300⟩ := solve_len hres
        rw [hbl] at hsl
        have HBL : Hid (bs.length = lb) := hbl
        have HPU : Hid (∀ b ∈ bs, putOf fs [metaN b.1] = b.2) := hput
        have hB4 : Below w3.heap.size w3 (w3.alloc (.cells #[.bool true, .int .i64 at', .slice bo lb cb] 42)) := (Below.refl _ w3).alloc (Nat.le_refl _) _
        have hk4 : (w3.alloc (.cells #[.bool true, .int .i64 at', .slice bo lb cb] 42)).heap[w3.heap.size]? = some (.cells #[.bool true, .int .i64 at', .slice bo lb cb] 42 (0, 0)) := heap_alloc_new _ _
        obtain ⟨r0, r1, r2, _⟩ := rbox3 (a' := .bool true) (b' := .int .i64 at') (c' := .slice bo lb cb) hk4
        have hbr4 := Below.step (Below.step HBRR.out hb3) hB4
        have hbz4 : Below z w (w3.alloc (.cells #[.bool true, .int .i64 at', .slice bo lb cb] 42)) := (HBZ.out.trans (hb3.mono (by omega))).trans (hB4.mono (by have := hb3.size; omega))
        have hbi4 := hans.binds.below hB4
        obtain ⟨W, hW⟩ : ∃ W, w3.alloc (.cells #[.bool true, .int .i64 at', .slice bo lb cb] 42) = W := ⟨_, rfl⟩
        have hzW : w3.heap.size < W.heap.size := by rw [← hW]; simp
        rw [hW] at r0 r1 r2 hbr4 hbz4 hbi4
        have HBR4 : Hid (Below w2.heap.size w2 W) := hbr4
        have HBZ4 : Hid (Below z w W) := hbz4
        have HBI4 : Hid (Binds W bo bs) := hbi4
        have hwz4 := hbz4.size
        clear HSOL HGS hres hput hans hb3 hB4 hk4 hbr4 hbz4 hbi4 hs300 hbl
        go_wp2
        go_loopw [15] (fun jv wr2 => ∃ j : Nat, j ≤ lb ∧ jv = .int .i64 (j : Int) ∧ Below W.heap.size W wr2) (fun jv _ => lb - (intOf jv).toNat)
        case atStart => exact ⟨0, Nat.zero_le _, rfl, Below.refl _ _⟩
        case round =>
          obtain ⟨j, hj, rfl, hbj⟩ := hrel
          have r2j := (hbj.cell (p := ⟨w3.heap.size, 2, none⟩) hzW).trans r2
          have hz3j : w3.heap.size < wr.heap.size := by have := hbj.size; omega
          by_cases hjl : j < lb
          · have hjb : j < bs.length := by rw [HBL.out]; exact hjl
            obtain ⟨b9, o9, ai, ci, hag, d0, d1, hnd⟩ := (HBI4.out.below hbj) j hjb
            subst hag
            have hpt := HPU.out bs[j] (List.getElem_mem hjb)
            obtain ⟨x, hx⟩ : ∃ x, bs[j].1 = x := ⟨_, rfl⟩
            obtain ⟨T, hT⟩ : ∃ T, bs[j].2 = T := ⟨_, rfl⟩
            rw [hx] at d0 hpt
            rw [hT] at d1 hnd hpt
            obtain ⟨lt, hlt⟩ : ∃ lt, T.length = lt := ⟨_, rfl⟩
            rw [hlt] at d1
            have HLT : Hid (T.length = lt) := hlt
            have hlt3 : lt ≤ 300 := by
              rw [← hlt, ← hpt]
              unfold putOf
              split
              · next h8 => exact h8.2.2
              · simp
            have HPT : Hid (putOf fs [metaN x] = T) := hpt
            have hl9 : b9 < wr.heap.size := lt_of_cell d0
            clear hx hT hlt hpt r0 r1 r2 hW
            have hBv : Below wr.heap.size wr ((wr.alloc (.cells #[.int .i64 61, .int .i64 x, .string ⟨#[]⟩, .int .i64 0, .int .i64 0] 40)).drew) := ((Below.refl _ wr).alloc (Nat.le_refl _) _).drew
            have HS : Hid (∀ V, Below wr.heap.size wr V → V.cell? ⟨b9, o9 + j * 2, none⟩ = some (.int .i64 x) ∧ V.cell? ⟨b9, o9 + j * 2 + 1, none⟩ = some (.slice ai lt ci) ∧ V.cell? ⟨w3.heap.size, 2, none⟩ = some (.slice (some ⟨b9, o9, none⟩) lb cb)) := fun V hV => ⟨(hV.cell (p := ⟨b9, o9 + j * 2, none⟩) hl9).trans d0, (hV.cell (p := ⟨b9, o9 + j * 2 + 1, none⟩) hl9).trans d1, (hV.cell (p := ⟨w3.heap.size, 2, none⟩) hz3j).trans r2j⟩
            have HC1 : Calls Tryz.prog 6 #[.slice (some ⟨gf, 0, none⟩) 8 cf, .slice (some ⟨wr.heap.size, 0, none⟩) 1 1] ((wr.alloc (.cells #[.int .i64 61, .int .i64 x, .string ⟨#[]⟩, .int .i64 0, .int .i64 0] 40)).drew) fun e w' => ∃ gt ct, e = .returned (.slice (some ⟨gt, 0, none⟩) lt ct) ∧ Row w' gt T ∧ Below wr.heap.size wr w' := by
              have hrow := (OwnN.one (w := wr) (B := wr.heap.size) (Nat.le_refl _) (metaN x)).row.2
              have hrd : Row ((wr.alloc (.cells #[.int .i64 61, .int .i64 x, .string ⟨#[]⟩, .int .i64 0, .int .i64 0] 40)).drew) wr.heap.size [metaN x] := hrow.below (Below.refl _ _).drew
              have hbw := Below.step (Below.step HBR4.out hbj) hBv
              refine (specPut_any fs 8 HFL (by omega) HFK.out [metaN x] 1 rfl (by omega) (some ⟨gf, 0, none⟩) (some ⟨wr.heap.size, 0, none⟩) cf 1 _ (HBF.out _ hbw) hrd.nodes).mono ?_
              rintro e w' ⟨gt, ct, l5, rfl, _, hl5, hr5, hb5⟩
              rw [HPT.out] at hl5 hr5
              exact ⟨gt, ct, by rw [← HLT.out, ← hl5], hr5, Below.step hBv hb5⟩
            have HC2 : Hid (∀ gt ct w5, Row w5 gt T → Below wr.heap.size wr w5 → Calls Tryz.prog 11 #[.slice ai lt ci, .slice (some ⟨gt, 0, none⟩) lt ct] w5 fun e w' => e = .returned (.bool true) ∧ Below wr.heap.size wr w') := by
              intro gt ct w5 hr hb
              refine (wExact_same T lt HLT ai (some ⟨gt, 0, none⟩) ci ct w5 (hnd.below hb) hr.nodes (by omega)).mono ?_
              rintro e w' ⟨rfl, hb'⟩
              exact ⟨rfl, Below.step hb hb'⟩
            have hS0 := HS.out wr (Below.refl _ _)
            go_wp2_with fail
            go_region_held3 (fun w' => w'.cell? ⟨b9, o9 + j * 2, none⟩ = some (.int .i64 x) ∧ w'.cell? ⟨b9, o9 + j * 2 + 1, none⟩ = some (.slice ai lt ci) ∧ w'.cell? ⟨w3.heap.size, 2, none⟩ = some (.slice (some ⟨b9, o9, none⟩) lb cb)) (first | exact hS0 | exact hS5 | exact hS6 | go_keep)
              (first
              | (go_at_call 6; refine HC1.mono ?_; rintro e w5 ⟨gt, ct, rfl, hr5, hb5⟩; have hS5 := HS.out w5 hb5)
              | (go_at_call 11; refine (HC2.out gt ct w5 hr5 hb5).mono ?_; rintro e w6 ⟨rfl, hb6⟩; have hS6 := HS.out w6 hb6))
            all_goals
              have hbj6 : Below W.heap.size W w6 := Below.step hbj hb6
            all_goals
              go_wp2
              go_roundw
              case rel => exact ⟨j + 1, by omega, by go_num, hbj6⟩
              case measure => simp [intOf]; omega
          · have hfin : Below z w wr := HBZ4.out.trans (hbj.mono (by omega))
            go_wp2
            go_ret
            exact ⟨rfl, by rw [hz]; exact hfin⟩
      · have tl1 : decide ((k : Int) < (l : Int)) = false := decide_eq_false (by omega)
        go_wp2_with fail
        refine HSOL.mono ?_
        rintro e w3 ⟨ok, at', bo, lb, cb, bs, rfl, hbl, hres, hans, hb3⟩
        obtain ⟨rfl, hput⟩ := HGS.out hres
        obtain ⟨hsl, hs300⟩ := solve_len hres
        rw [hbl] at hsl
        have HBL : Hid (bs.length = lb) := hbl
        have HPU : Hid (∀ b ∈ bs, putOf fs [metaN b.1] = b.2) := hput
        have hB4 : Below w3.heap.size w3 (w3.alloc (.cells #[.bool true, .int .i64 at', .slice bo lb cb] 42)) := (Below.refl _ w3).alloc (Nat.le_refl _) _
        have hk4 : (w3.alloc (.cells #[.bool true, .int .i64 at', .slice bo lb cb] 42)).heap[w3.heap.size]? = some (.cells #[.bool true, .int .i64 at', .slice bo lb cb] 42 (0, 0)) := heap_alloc_new _ _
        obtain ⟨r0, r1, r2, _⟩ := rbox3 (a' := .bool true) (b' := .int .i64 at') (c' := .slice bo lb cb) hk4
        have hbr4 := Below.step (Below.step HBRR.out hb3) hB4
        have hbz4 : Below z w (w3.alloc (.cells #[.bool true, .int .i64 at', .slice bo lb cb] 42)) := (HBZ.out.trans (hb3.mono (by omega))).trans (hB4.mono (by have := hb3.size; omega))
        have hbi4 := hans.binds.below hB4
        obtain ⟨W, hW⟩ : ∃ W, w3.alloc (.cells #[.bool true, .int .i64 at', .slice bo lb cb] 42) = W := ⟨_, rfl⟩
        have hzW : w3.heap.size < W.heap.size := by rw [← hW]; simp
        rw [hW] at r0 r1 r2 hbr4 hbz4 hbi4
        have HBR4 : Hid (Below w2.heap.size w2 W) := hbr4
        have HBZ4 : Hid (Below z w W) := hbz4
        have HBI4 : Hid (Binds W bo bs) := hbi4
        have hwz4 := hbz4.size
        clear HSOL HGS hres hput hans hb3 hB4 hk4 hbr4 hbz4 hbi4 hs300 hbl
        go_wp2
        go_loopw [15] (fun jv wr2 => ∃ j : Nat, j ≤ lb ∧ jv = .int .i64 (j : Int) ∧ Below W.heap.size W wr2) (fun jv _ => lb - (intOf jv).toNat)
        case atStart => exact ⟨0, Nat.zero_le _, rfl, Below.refl _ _⟩
        case round =>
          obtain ⟨j, hj, rfl, hbj⟩ := hrel
          have r2j := (hbj.cell (p := ⟨w3.heap.size, 2, none⟩) hzW).trans r2
          have hz3j : w3.heap.size < wr.heap.size := by have := hbj.size; omega
          by_cases hjl : j < lb
          · have hjb : j < bs.length := by rw [HBL.out]; exact hjl
            obtain ⟨b9, o9, ai, ci, hag, d0, d1, hnd⟩ := (HBI4.out.below hbj) j hjb
            subst hag
            have hpt := HPU.out bs[j] (List.getElem_mem hjb)
            obtain ⟨x, hx⟩ : ∃ x, bs[j].1 = x := ⟨_, rfl⟩
            obtain ⟨T, hT⟩ : ∃ T, bs[j].2 = T := ⟨_, rfl⟩
            rw [hx] at d0 hpt
            rw [hT] at d1 hnd hpt
            obtain ⟨lt, hlt⟩ : ∃ lt, T.length = lt := ⟨_, rfl⟩
            rw [hlt] at d1
            have HLT : Hid (T.length = lt) := hlt
            have hlt3 : lt ≤ 300 := by
              rw [← hlt, ← hpt]
              unfold putOf
              split
              · next h8 => exact h8.2.2
              · simp
            have HPT : Hid (putOf fs [metaN x] = T) := hpt
            have hl9 : b9 < wr.heap.size := lt_of_cell d0
            clear hx hT hlt hpt r0 r1 r2 hW
            have hBv : Below wr.heap.size wr ((wr.alloc (.cells #[.int .i64 61, .int .i64 x, .string ⟨#[]⟩, .int .i64 0, .int .i64 0] 40)).drew) := ((Below.refl _ wr).alloc (Nat.le_refl _) _).drew
            have HS : Hid (∀ V, Below wr.heap.size wr V → V.cell? ⟨b9, o9 + j * 2, none⟩ = some (.int .i64 x) ∧ V.cell? ⟨b9, o9 + j * 2 + 1, none⟩ = some (.slice ai lt ci) ∧ V.cell? ⟨w3.heap.size, 2, none⟩ = some (.slice (some ⟨b9, o9, none⟩) lb cb)) := fun V hV => ⟨(hV.cell (p := ⟨b9, o9 + j * 2, none⟩) hl9).trans d0, (hV.cell (p := ⟨b9, o9 + j * 2 + 1, none⟩) hl9).trans d1, (hV.cell (p := ⟨w3.heap.size, 2, none⟩) hz3j).trans r2j⟩
            have HC1 : Calls Tryz.prog 6 #[.slice (some ⟨gf, 0, none⟩) 8 cf, .slice (some ⟨wr.heap.size, 0, none⟩) 1 1] ((wr.alloc (.cells #[.int .i64 61, .int .i64 x, .string ⟨#[]⟩, .int .i64 0, .int .i64 0] 40)).drew) fun e w' => ∃ gt ct, e = .returned (.slice (some ⟨gt, 0, none⟩) lt ct) ∧ Row w' gt T ∧ Below wr.heap.size wr w' := by
              have hrow := (OwnN.one (w := wr) (B := wr.heap.size) (Nat.le_refl _) (metaN x)).row.2
              have hrd : Row ((wr.alloc (.cells #[.int .i64 61, .int .i64 x, .string ⟨#[]⟩, .int .i64 0, .int .i64 0] 40)).drew) wr.heap.size [metaN x] := hrow.below (Below.refl _ _).drew
              have hbw := Below.step (Below.step HBR4.out hbj) hBv
              refine (specPut_any fs 8 HFL (by omega) HFK.out [metaN x] 1 rfl (by omega) (some ⟨gf, 0, none⟩) (some ⟨wr.heap.size, 0, none⟩) cf 1 _ (HBF.out _ hbw) hrd.nodes).mono ?_
              rintro e w' ⟨gt, ct, l5, rfl, _, hl5, hr5, hb5⟩
              rw [HPT.out] at hl5 hr5
              exact ⟨gt, ct, by rw [← HLT.out, ← hl5], hr5, Below.step hBv hb5⟩
            have HC2 : Hid (∀ gt ct w5, Row w5 gt T → Below wr.heap.size wr w5 → Calls Tryz.prog 11 #[.slice ai lt ci, .slice (some ⟨gt, 0, none⟩) lt ct] w5 fun e w' => e = .returned (.bool true) ∧ Below wr.heap.size wr w') := by
              intro gt ct w5 hr hb
              refine (wExact_same T lt HLT ai (some ⟨gt, 0, none⟩) ci ct w5 (hnd.below hb) hr.nodes (by omega)).mono ?_
              rintro e w' ⟨rfl, hb'⟩
              exact ⟨rfl, Below.step hb hb'⟩
            have hS0 := HS.out wr (Below.refl _ _)
            go_wp2_with fail
            go_region_held3 (fun w' => w'.cell? ⟨b9, o9 + j * 2, none⟩ = some (.int .i64 x) ∧ w'.cell? ⟨b9, o9 + j * 2 + 1, none⟩ = some (.slice ai lt ci) ∧ w'.cell? ⟨w3.heap.size, 2, none⟩ = some (.slice (some ⟨b9, o9, none⟩) lb cb)) (first | exact hS0 | exact hS5 | exact hS6 | go_keep)
              (first
              | (go_at_call 6; refine HC1.mono ?_; rintro e w5 ⟨gt, ct, rfl, hr5, hb5⟩; have hS5 := HS.out w5 hb5)
              | (go_at_call 11; refine (HC2.out gt ct w5 hr5 hb5).mono ?_; rintro e w6 ⟨rfl, hb6⟩; have hS6 := HS.out w6 hb6))
            all_goals
              have hbj6 : Below W.heap.size W w6 := Below.step hbj hb6
            all_goals
              go_wp2
              go_roundw
              case rel => exact ⟨j + 1, by omega, by go_num, hbj6⟩
              case measure => simp [intOf]; omega
          · have hfin : Below z w wr := HBZ4.out.trans (hbj.mono (by omega))
            go_wp2
            go_ret
            exact ⟨rfl, by rw [hz]; exact hfin⟩

end Go.Proofs.YthioecjcnajmgaaGreatDoor

import Derived.Test.YtoiiibplkhedcaaGreatDoorSMeet
import Derived.Test.YtoiiibplkhedcaaGreatDoorNSx
import Derived.Test.YtoiiibplkhedcaaGreatDoorGY
namespace Go.Proofs.YtoiiibplkhedcaaGreatDoor
open Go.RowKit
set_option maxRecDepth 100000 in
set_option maxHeartbeats 8000000 in
theorem Qej (a b : List Nd) (ma mb : Nat) (HMA : Hid (a.length = ma)) (HMB : Hid (b.length = mb)) (hma : ma ≤ 1048576) (hmb : mb ≤ 1048576) (HWA : Hid (∀ n ∈ a, (Lit.int .i64 n.num).wf = true)) (HWB : Hid (∀ n ∈ b, (Lit.int .i64 n.num).wf = true)) (gp : Value) (ao bo : Option Addr) (ca cb : Nat) (w : World) (hgv : w.cell? ⟨0, 0, none⟩ = some (.iface 232 gp)) (hgt : ErrT w) (hx : Nodes w ao a) (hy : Nodes w bo b) :
    Calls Tryz.prog 6 #[.slice ao ma ca, .slice bo mb cb] w fun e w' => ∃ ag cg out fl, e = .returned (.tuple #[.slice ag out.length cg, .bool fl]) ∧ Qac a b out fl ∧ Ans w' w.heap.size ag out ∧ Below w.heap.size w w' := by
  obtain ⟨z, hz⟩ : ∃ z, w.heap.size = z := ⟨_, rfl⟩
  have hz1 : 1 < z := by rw [← hz]; exact lt_of_cell hgt
  have HGV : Hid (w.cell? ⟨0, 0, none⟩ = some (.iface 232 gp)) := hgv
  have HGT : Hid (ErrT w) := hgt
  clear hgv hgt
  go_enter Tryz.func6, Tryz.ntmps6
  go_wp2_with fail
  refine (iIsType_any a ma HMA hma _ _ _ hx).mono ?_
  rintro e w1 ⟨rfl, hb1⟩
  cases hta : typeb a
  · have HR : Hid (Qac a b [] false) := .inl ⟨.inl hta, rfl, rfl⟩
    clear hx hy
    go_wp2
    go_ret2
    exact ⟨_, _, [], false, rfl, HR.out, .inl rfl, hb1.alloc hb1.size _⟩
  · go_wp2_with fail
    refine (iIsType_any b mb HMB hmb _ _ _ (hy.below hb1)).mono ?_
    rintro e w2 ⟨rfl, hb2⟩
    have hb2 := Below.step hb1 hb2
    clear hb1
    cases htb : typeb b
    · have HR : Hid (Qac a b [] false) := .inl ⟨.inr htb, rfl, rfl⟩
      clear hx hy
      go_wp2
      go_ret2
      exact ⟨_, _, [], false, rfl, HR.out, .inl rfl, hb2.alloc hb2.size _⟩
    · have HTA : Hid (typeb a = true) := hta
      have HTB : Hid (typeb b = true) := htb
      obtain ⟨h0a, h3a⟩ := Qbs hta
      obtain ⟨h0b, h3b⟩ := Qbs htb
      have hma3 : ma ≤ 300 := by have := HMA.out; omega
      have hmb3 : mb ≤ 300 := by have := HMB.out; omega
      obtain ⟨ab, ai, rfl, hq1⟩ := hx 0 h0a
      obtain ⟨bb, bi, rfl, hq2⟩ := hy 0 h0b
      have hx2 := hx.below hb2
      have hy2 := hy.below hb2
      have hbw2 : Below z w w2 := by rw [← hz]; exact hb2
      clear hq1 hq2
      clear hx hy h0a h3a h0b h3b hta htb hb2
      go_wp2_with fail
      refine (Qan 1 (by omega) (by omega) a ma HMA hma3 (fun n hn _ => HWA.out n hn) ab ai ca w2 hx2).mono ?_
      rintro e w3 ⟨gx, cx, rfl, hgx, hrx, hb3⟩
      have hy3 := hy2.below hb3
      have hz2 := hbw2.size
      have hbw3 : Below z w w3 := hbw2.trans (hb3.mono (by omega))
      have hz3 := hbw3.size
      clear hx2 hy2 hbw2 hb3
      have HNF := Qan ((ma : Int) + 1) (by omega) (by omega) b mb HMB hmb3 (fun n hn _ => HWB.out n hn) bb bi cb w3 hy3
      go_wp2_with fail
      refine HNF.mono ?_
      rintro e w4 ⟨gy, cy, rfl, hgy, hry, hb4⟩
      have hrx4 := hrx.below hb4
      have hbw4 : Below z w w4 := hbw3.trans (hb4.mono (by omega))
      have hz4 := hbw4.size
      have ex : (nmTo 1 a ma).2 = canonOf a := by rw [Qad HTA.out, HMA.out]
      have ey : (nmTo ((ma : Int) + 1) b mb).2 = Jab ((a.length : Int) + 1) b := by unfold Jab; rw [HMA.out, HMB.out]
      rw [ex] at hrx4
      rw [ey] at hry
      have hlx : (canonOf a).length = ma := by rw [Qbe HTA.out, HMA.out]
      have hly : (Jab ((a.length : Int) + 1) b).length = mb := by
        unfold Jab
        rw [(Qal _ b b.length (Nat.le_refl _)).1, HMB.out]
      have HPR := Qdz w4 (cx := cx) (cy := cy) hrx4.nodes hry.nodes
      rw [hlx, hly] at HPR
      have hBp : Below w4.heap.size w4 (w4.alloc (.cells #[.slice (some ⟨gx, 0, none⟩) ma cx, .slice (some ⟨gy, 0, none⟩) mb cy] 49)) := (Below.refl _ w4).alloc (Nat.le_refl _) _
      have hbwp : Below z w (w4.alloc (.cells #[.slice (some ⟨gx, 0, none⟩) ma cx, .slice (some ⟨gy, 0, none⟩) mb cy] 49)) := hbw4.trans (hBp.mono (by omega))
      have hrxp := hrx4.below hBp
      have HWX : Hid (∀ n ∈ canonOf a, (Lit.int .i64 n.num).wf = true) := by
        rw [Hid, Qad HTA.out]
        exact Jcf 1 (by omega) (by omega) (typeb_len HTA.out) HWA.out
      have HSO := Qdk [(canonOf a, Jab ((a.length : Int) + 1) b)] 1 rfl (by decide) (by intro p hp; simp only [List.mem_singleton] at hp; subst hp; simp only [hlx, hly]; omega)
        (by
          intro p hp
          simp only [List.mem_singleton] at hp
          subst hp
          refine ⟨HWX.out, ?_⟩
          exact Jcf _ (by omega) (by have := typeb_len HTA.out; omega) (typeb_len HTB.out) HWB.out) gp _ 1 _ ((hbwp.cell (p := ⟨0, 0, none⟩) (by show 0 < z; omega)).trans HGV.out) (HGT.out.below hbwp hz1) HPR
      have HLX : Hid ((canonOf a).length = ma) := hlx
      clear HNF hrx hry hrx4 hb4 hbw3 hbw4 ex ey hlx hly HPR hBp hy3 hgy
      go_wp2_with fail
      refine HSO.mono ?_
      rintro e w5 ⟨ok, at', so, l, c, bs, rfl, hbl, hres, hans, hb5⟩
      have hrx5 := hrxp.below hb5
      have hbw5 : Below z w w5 := hbwp.trans (hb5.mono (by have := hbwp.size; omega))
      have hz5 := hbw5.size
      obtain ⟨hsl, hs3⟩ := solve_len hres
      obtain ⟨hwb, hwp⟩ := Jby HTA.out HTB.out (by omega) (by have := typeb_len HTA.out; omega) hres
      have HWBS : Hid (∀ b ∈ bs, (Lit.int .i64 b.1).wf = true) := hwb
      have HWP : Hid (∀ n ∈ putOf bs (canonOf a), n.kind = 61 → (Lit.int .i64 n.num).wf = true) := hwp
      have HRES : Hid (SolveRes [(canonOf a, Jab ((a.length : Int) + 1) b)] ok at' bs) := hres
      have HHBL : Hid (bs.length = l) := hbl
      rw [hbl] at hsl
      have hBs : Below w5.heap.size w5 (w5.alloc (.cells #[.bool ok, .int .i64 at', .slice so l c] 46)) := (Below.refl _ w5).alloc (Nat.le_refl _) _
      have hrx6 := hrx5.below hBs
      have hans6 := hans.binds.below hBs
      have hbw6 : Below z w (w5.alloc (.cells #[.bool ok, .int .i64 at', .slice so l c] 46)) := hbw5.trans (hBs.mono (by omega))
      have HK : Hid (∀ b ∈ bs, b.2.length ≤ 1048576) := fun b hb => by have := hs3 b hb; omega
      clear HSO hrxp hbwp hb5 hrx5 hans hres hwb hwp hbl hBs hs3
      cases ok
      · have HM : Hid (Qac a b [] false) := .inr ⟨HTA.out, HTB.out, rfl, _, false, at', bs, by omega, HRES.out, rfl⟩
        clear hrx6 hans6
        go_wp2
        go_ret2
        exact ⟨_, _, [], false, rfl, HM.out, .inl rfl, by rw [hz]; exact hbw6.alloc (by have := hbw6.size; omega) _⟩
      · have HMR : Hid (Qac a b (canonOf (putOf bs (canonOf a))) (decide (0 < (canonOf (putOf bs (canonOf a))).length))) := .inr ⟨HTA.out, HTB.out, rfl, _, true, at', bs, by omega, HRES.out, rfl⟩
        have HPU := Qff bs l HHBL (by omega) HK HWBS (canonOf a) ma HLX hma HWX so (some ⟨gx, 0, none⟩) c cx _ hans6 hrx6.nodes
        clear hans6 hrx6
        go_wp2_with fail
        refine HPU.mono ?_
        rintro e w7 ⟨pg, pc, rfl, hpa, hb7⟩
        have hbw7 : Below z w w7 := hbw6.trans (hb7.mono (by have := hbw6.size; omega))
        have hz7 := hbw7.size
        have hlp3 : (putOf bs (canonOf a)).length ≤ 300 := by
          unfold putOf
          split
          · next h8 => exact h8.2.2
          · simp
        obtain ⟨lp, hlp⟩ : ∃ lp, (putOf bs (canonOf a)).length = lp := ⟨_, rfl⟩
        have HLP : Hid ((putOf bs (canonOf a)).length = lp) := hlp
        rw [hlp] at hlp3 ⊢
        have HCA := Qcn (putOf bs (canonOf a)) lp HLP (by omega) HWP pg pc w7 hpa.nodes
        clear HPU hbw6 hb7 hpa hlp
        go_wp2_with fail
        refine HCA.mono ?_
        rintro e w8 ⟨cg, cc, rfl, hca, hb8⟩
        have hbw8 : Below z w w8 := hbw7.trans (hb8.mono (by omega))
        have hans8 : Ans w8 z cg (canonOf (putOf bs (canonOf a))) := hca.mono (by omega)
        obtain ⟨out, hout⟩ : ∃ out, canonOf (putOf bs (canonOf a)) = out := ⟨_, rfl⟩
        rw [hout] at hans8 HMR ⊢
        have hol : out.length ≤ 300 := by
          rw [← hout]
          have := Qgd (putOf bs (canonOf a))
          rw [HLP.out] at this
          omega
        have HANS : Hid (Ans w8 z cg out) := hans8
        clear HCA hca hb8 hout hans8
        obtain ⟨lo, hlo⟩ : ∃ lo, out.length = lo := ⟨_, rfl⟩
        have HLO : Hid (out.length = lo) := hlo
        have HMR2 : Hid (Qac a b out (decide (0 < lo))) := by
          rw [← hlo]; exact HMR.out
        rw [hlo] at hol ⊢
        clear hlo HMR
        go_wp2
        go_ret2
        exact ⟨cg, cc, out, decide (0 < lo), by rw [HLO.out]; rfl, HMR2.out, by rw [hz]; exact HANS.out, by rw [hz]; exact hbw8⟩
end Go.Proofs.YtoiiibplkhedcaaGreatDoor

import Derived.Test.YtemancdlnakkmaaGreatProg
import Derived.Test.YtemancdlnakkmaaGreatWAA
import Derived.ProofKit
import Derived.Deep.Slices
import Derived.Test.YtemancdlnakkmaaGreatWBH
import Derived.Test.YtemancdlnakkmaaGreatWAD
import Derived.Test.YtemancdlnakkmaaGreatWBM
import Derived.Test.YtemancdlnakkmaaGreatPLy
import Derived.Test.YtemancdlnakkmaaGreatWAB
namespace Go.Proofs.YtemancdlnakkmaaGreat
open Go.ChangeShapes Go.WideShapes Go.ChangeAt Go.RowKit Go.Deep
theorem Tryz.cells32 : Tryz.prog.cellsOf 32 = 5 := by kernel_rfl
theorem Tryz.cells3 : Tryz.prog.cellsOf 3 = 1 := by kernel_rfl
theorem Tryz.cells2 : Tryz.prog.cellsOf 2 = 1 := by kernel_rfl
theorem Tryz.cells9 : Tryz.prog.cellsOf 9 = 1 := by kernel_rfl
set_option maxRecDepth 4000 in
theorem open_nodeW {H : Type} {enc : TypeId × Value → H} {W : World} {base : Nat} {spare : Nat → Bool} {held : Bool} {fuel : Nat} {cs : List Value} {x : DataW H × List MemPlace}
    (h : DataW.trod enc Tryz.prog W base spare held fuel 32 cs = some x) :
    ∃ n : Nd, (n.text.size ≤ maxLen ∧ (Lit.int .i64 n.num).wf = true) ∧ cs = [.int .i64 n.kind, .int .i64 n.num, .string n.text, .int .i64 n.kids, .int .i64 n.place] := by
  obtain ⟨ys, k, _, _, hlen, hyl, hf⟩ := DataW.trod_struct Tryz.underlying32 h
  rw [Tryz.cells32] at hlen
  match cs, hlen with
  | [v0, v1, v2, v3, v4], _ =>
    have l0 : ∃ y, ys[0]? = some y := ⟨_, List.getElem?_eq_getElem (by simp at hyl; omega)⟩
    have l1 : ∃ y, ys[1]? = some y := ⟨_, List.getElem?_eq_getElem (by simp at hyl; omega)⟩
    have l2 : ∃ y, ys[2]? = some y := ⟨_, List.getElem?_eq_getElem (by simp at hyl; omega)⟩
    have l3 : ∃ y, ys[3]? = some y := ⟨_, List.getElem?_eq_getElem (by simp at hyl; omega)⟩
    have l4 : ∃ y, ys[4]? = some y := ⟨_, List.getElem?_eq_getElem (by simp at hyl; omega)⟩
    obtain ⟨y0, l0⟩ := l0
    obtain ⟨y1, l1⟩ := l1
    obtain ⟨y2, l2⟩ := l2
    obtain ⟨y3, l3⟩ := l3
    obtain ⟨y4, l4⟩ := l4
    have g0 := (hf 0 { name := "Kind", type := 3, offset := 0, embedded := false, tag := "", pkgPath := "", byteOffset := 0 } rfl).trans l0
    have g1 := (hf 1 { name := "Num", type := 2, offset := 1, embedded := false, tag := "", pkgPath := "", byteOffset := 8 } rfl).trans l1
    have g2 := (hf 2 { name := "Text", type := 9, offset := 2, embedded := false, tag := "", pkgPath := "", byteOffset := 16 } rfl).trans l2
    have g3 := (hf 3 { name := "Kids", type := 3, offset := 3, embedded := false, tag := "", pkgPath := "", byteOffset := 32 } rfl).trans l3
    have g4 := (hf 4 { name := "At", type := 3, offset := 4, embedded := false, tag := "", pkgPath := "", byteOffset := 40 } rfl).trans l4
    simp only [Tryz.cells3, Tryz.cells2, Tryz.cells9, List.drop_zero, List.drop_succ_cons, List.take_succ_cons, List.take_zero] at g0 g1 g2 g3 g4
    obtain ⟨a0, e0, _, _⟩ := DataW.trod_int Tryz.underlying3 g0
    obtain ⟨a1, e1, _, hw⟩ := DataW.trod_int Tryz.underlying2 g1
    obtain ⟨a2, e2, _, hs⟩ := DataW.trod_string Tryz.underlying9 g2
    obtain ⟨a3, e3, _, _⟩ := DataW.trod_int Tryz.underlying3 g3
    obtain ⟨a4, e4, _, _⟩ := DataW.trod_int Tryz.underlying3 g4
    simp at e0 e1 e2 e3 e4
    subst e0 e1 e2 e3 e4
    exact ⟨⟨a0, a1, a2, a3, a4⟩, ⟨hs, hw⟩, rfl⟩
set_option maxRecDepth 4000 in
theorem open_nodesW {H : Type} {enc : TypeId × Value → H} {W : World} {base : Nat} {spare : Nat → Bool} {held : Bool} {fuel : Nat} {ao : Option Addr} {len cap : Nat} {x : DataW H × List MemPlace}
    (h : DataW.trod enc Tryz.prog W base spare held fuel 22 [.slice ao len cap] = some x) :
    ∃ xs : List Nd, xs.length = len ∧ len ≤ 9223372036854775807 ∧ Nodes W ao xs ∧ ∀ n ∈ xs, n.text.size ≤ maxLen ∧ (Lit.int .i64 n.num).wf = true := by
  rcases open_slice Tryz.underlying22 h with ⟨hcs, _⟩ | ⟨a, l, c, m, n, D, Pl, hcs, _, hl, hm, hmm, _, hx⟩
  · simp at hcs
    obtain ⟨rfl, rfl, rfl⟩ := hcs
    exact ⟨[], rfl, by omega, fun i hi => by simp at hi, by simp⟩
  · simp at hcs
    obtain ⟨rfl, rfl, rfl⟩ := hcs
    have hlm : len ≤ m := by rw [hmm]; split <;> omega
    unfold maxLen at hm
    have inh : Inhabited Nd := ⟨⟨0, 0, ByteArray.empty, 0, 0⟩⟩
    obtain ⟨F, hF⟩ := choose_lt (α := Nd) (n := len) (p := fun i nd => (nd.text.size ≤ maxLen ∧ (Lit.int .i64 nd.num).wf = true) ∧ ∃ b o, a = ⟨b, o, none⟩ ∧ NodeAt W b (o + i * 5) nd) (fun i hi => by
      obtain ⟨cs', h1, h2⟩ := hx i (by omega)
      obtain ⟨nd, hs, rfl⟩ := open_nodeW h2
      rw [Tryz.cells32] at h1
      obtain ⟨_, _, hc⟩ := World.cells?_some h1
      simp only [add_add] at hc
      have c0 := hc 0 (by omega)
      have c1 := hc 1 (by omega)
      have c2 := hc 2 (by omega)
      have c3 := hc 3 (by omega)
      have c4 := hc 4 (by omega)
      obtain ⟨b, o, sp⟩ := a
      have hsp : sp = none := by
        obtain ⟨cs0, z1, z2⟩ := hx 0 (by omega)
        obtain ⟨nd0, _, rfl⟩ := open_nodeW z2
        rw [Tryz.cells32] at z1
        obtain ⟨_, _, zc⟩ := World.cells?_some z1
        have z0 := zc 0 (by omega)
        simpa [Addr.add] using World.cell?_spot (z0.trans rfl)
      subst hsp
      have ad : ∀ j, Addr.add ⟨b, o, none⟩ j = ⟨b, o + j, none⟩ := by
        intro j
        unfold Addr.add
        split
        · simp_all
        · rfl
      simp [ad, ← Nat.add_assoc] at c0 c1 c2 c3 c4
      exact ⟨nd, hs, b, o, rfl, c0, c1, c2, c3, c4⟩)
    refine ⟨(List.range len).map F, by simp, by omega, ?_, ?_⟩
    · intro i hi
      have hi' : i < len := by simpa using hi
      obtain ⟨_, b, o, rfl, hn⟩ := hF i hi'
      exact ⟨b, o, rfl, by simpa using hn⟩
    · intro nd hnd
      simp at hnd
      obtain ⟨i, hi, rfl⟩ := hnd
      exact (hF i hi).1
end Go.Proofs.YtemancdlnakkmaaGreat
namespace Go.Proofs.YtemancdlnakkmaaGreat
open Go.RowKit
theorem nodes_news {w : World} {ad : Addr} {xs : List Nd} (h : Nodes w (some ad) xs) : ∀ j u, (flat xs)[j]? = some u → w.cell? (ad.add j) = some u := by
  intro j u hj
  have hl : j < (flat xs).length := (List.getElem?_eq_some_iff.1 hj).1
  rw [flat_length] at hl
  have hq : j / 5 < xs.length := by omega
  obtain ⟨b, o, e, hn⟩ := h (j / 5) hq
  simp only [Option.some.injEq] at e
  subst e
  have ej : j = (j / 5) * 5 + j % 5 := by omega
  have hr : j % 5 < 5 := by omega
  have hg := flat_get xs (j / 5) (j % 5) hq hr
  rw [← ej] at hg
  rw [hg] at hj
  have ad1 : ∀ k, Addr.add ⟨b, o, none⟩ k = ⟨b, o + k, none⟩ := by
    intro k
    unfold Addr.add
    split
    · rename_i h0; rw [h0]; rfl
    · rfl
  obtain ⟨c0, c1, c2, c3, c4⟩ := hn
  have ad2 : Addr.add ⟨b, o, none⟩ j = ⟨b, o + j / 5 * 5 + j % 5, none⟩ := by
    rw [ad1]
    congr 1
    omega
  rw [ad2]
  generalize j % 5 = r at hj hr ⊢
  match r, hr with
  | 0, _ => simp [Nd.row] at hj; subst hj; exact c0
  | 1, _ => simp [Nd.row] at hj; subst hj; exact c1
  | 2, _ => simp [Nd.row] at hj; subst hj; exact c2
  | 3, _ => simp [Nd.row] at hj; subst hj; exact c3
  | 4, _ => simp [Nd.row] at hj; subst hj; exact c4
set_option maxHeartbeats 400000 in
theorem clone_any (xs : List Nd) (m : Nat) (HM : Hid (xs.length = m)) (hm : m ≤ 1048576) (ad : Addr) (cap : Nat) (w : World) (hx : Nodes w (some ad) xs) :
    Calls Tryz.prog 18 #[.slice (some ad) m cap] w fun e w' => ∃ g c, e = .returned (.slice (some ⟨g, 0, none⟩) m c) ∧ w.heap.size ≤ g ∧ Row w' g xs ∧ Below w.heap.size w w' := by
  obtain ⟨i0, hi, hz0, hz1, hz2⟩ := info_parts Tryz.infoN
  have hO := OwnN.empty (w := w) (B := w.heap.size) (Nat.le_refl _)
  have hnil : ∀ (w : World), (binOp .eql 24 (.slice (some ad) m cap) (.slice none 0 0)).run Tryz.prog w = .ok (.bool false) w := fun w => Lib.run_eql_slice_nil w _ _ (some ad) m cap 0 0 Tryz.underlying24
  have hn := nodes_news (hx.below ((Below.refl _ w).alloc (Nat.le_refl _) (.cells #[] 34)))
  go_enter Tryz.func18, Tryz.ntmps18
  clear hx
  go_wp2_with (at_builtin; refine wpList_append2 _ rfl (.tmp 5) (.tmp 6) 24 rfl w.heap.size 34 i0 _ 5 48 Tryz.underlying24 hi hz0 hz1 hz2 rfl (by decide) w.heap.size 0 0 _ rfl hO.2 ad m cap (flat xs) rfl ?a1 hn (nd_flat_one xs) ?a3 ?a4 ?a5 ?_)
  case a1 => rw [flat_length, HM.out]
  case a3 => unfold maxLen; omega
  case a4 => omega
  case a5 => simp
  intro g2 c2 w2 hown2 hgrow2 hwh
  have hF : OwnN w2 w.heap.size g2 c2 m xs := ⟨HM.out, by simpa [flat] using hown2⟩
  obtain ⟨hg, hr⟩ := hF.row
  have hbb : Below w.heap.size w w2 := ((Below.refl _ w).alloc (Nat.le_refl _) _).grown hgrow2 (by simp) (fun q hq => by cases hq; exact Nat.le_refl _)
  clear hown2 hgrow2 hwh hF hO hn
  go_wp2
  go_ret
  exact ⟨_, _, rfl, hg, hr, hbb⟩
set_option maxRecDepth 20000 in
set_option maxHeartbeats 2000000 in
theorem implSimplify_any (t : List Nd) (m : Nat) (HM : Hid (t.length = m)) (hm : m ≤ 1048576) (htx : ∀ x ∈ t, x.text.size ≤ 1048576 ∧ (Lit.int .i64 x.num).wf = true) (ao : Option Addr) (cap : Nat) (w : World) (hx : Nodes w ao t) :
    Calls Tryz.prog 7 #[.slice ao m cap] w fun e w' => ∃ g c l zs, e = .returned (.slice (some ⟨g, 0, none⟩) l c) ∧ zs.length = l ∧ w.heap.size ≤ g ∧ Row w' g zs ∧ SimpS t zs ∧ Below w.heap.size w w' := by
  have HP := implPlain_any t m HM hm ao cap w hx
  have HX : Hid (Nodes w ao t) := hx
  have HT : Hid (∀ x ∈ t, x.text.size ≤ 1048576 ∧ (Lit.int .i64 x.num).wf = true) := htx
  clear hx htx
  go_enter Tryz.func7, Tryz.ntmps7
  go_wp2_with fail
  refine HP.mono ?_
  rintro e w1 ⟨⟨b, rfl, hb⟩, b1⟩
  rw [← plain_eq t] at hb
  clear HP
  cases b
  · have HF : Hid (SimpS t []) := .inr ⟨fun h => (by have := hb.2 h; cases this), rfl⟩
    have hO := (OwnN.empty (w := w1) (B := w.heap.size) b1.size).row
    have hB := b1.alloc b1.size (.cells #[] 34)
    have HO : Hid _ := hO
    have HB : Hid _ := hB
    clear hb hO hB b1
    go_wp2
    go_ret
    exact ⟨_, _, _, [], rfl, rfl, HO.out.1, HO.out.2, HF.out, HB.out⟩
  · have HPS : Hid (PlainS t) := hb.1 rfl
    have hN1 := HX.out.below b1
    obtain ⟨ad, had⟩ : ∃ ad, ao = some ad := by
      obtain ⟨b, o, e, -⟩ := HX.out 0 (by have := (one_of_raw HPS.out.2.1).1; omega)
      exact ⟨_, e⟩
    subst had
    have hC := clone_any t m HM hm _ cap w1 hN1
    have HS1 : Hid (w.heap.size ≤ w1.heap.size) := b1.size
    clear hb hN1
    go_wp2_with fail
    refine hC.mono ?_
    rintro e w2 ⟨g0, c0, rfl, hg0, hR0, b2⟩
    have HBB : Hid (Below w.heap.size w w2) := Below.step b1 b2
    have HR0 : Hid (Row w2 g0 t) := hR0
    have HG0 : Hid (w.heap.size ≤ g0) := by have := HS1.out; show _ ≤ _; omega
    have hm6 : Hid (m ≤ 60000) := by have := HPS.out.1; have := HM.out; show _ ≤ _; omega
    clear hC b1 b2 hg0 hR0
    go_wp2
    go_loopw [0, 10] (fun vo vi wr => ∃ (k g c l : Nat) (zs : List Nd), k ≤ 20 ∧ vi = .int .i64 (k : Int) ∧ vo = .slice (some ⟨g, 0, none⟩) l c ∧ l ≤ 60000 ∧ Hid (zs.length = l ∧ GoodS zs ∧ w.heap.size ≤ g ∧ Row wr g zs ∧ (∀ r, SimR (20 - k) zs r → SimR 20 t r) ∧ Below w.heap.size w wr)) (fun _ vi _ => 20 - (intOf vi).toNat)
    case atStart => exact ⟨0, g0, c0, m, t, Nat.zero_le _, rfl, rfl, hm6.out, HM.out, ⟨HPS.out, HT.out⟩, HG0.out, HR0.out, fun r h => h, HBB.out⟩
    case round =>
      clear HR0 HBB HG0
      obtain ⟨k, g, c, l, zs, hk, rfl, rfl, hl6, HZ⟩ := hrel
      by_cases hlt : k < 20
      · obtain ⟨hzl, hG, hgw, hR, hS, hb⟩ := HZ.out
        have HL : Hid (zs.length = l) := hzl
        have hG2 := hG.less
        have hek : 20 - k = (20 - (k + 1)) + 1 := by omega
        have hC := implLess_any zs l HL (by omega) hG.2 (some ⟨g, 0, none⟩) c wr hR.nodes
        go_wp2_with fail
        refine hC.mono ?_
        rintro e w3 ⟨g2, c2, l2, zs2, rfl, hO, hLS, b3⟩
        obtain rfl : zs2 = lessL zs l := by
          rcases hLS with ⟨-, h9⟩ | ⟨h9, -⟩
          · rw [h9, HL.out]
          · exact absurd hG.1 h9
        have HL2 : Hid ((lessL zs l).length = l2) := hO.1
        have hRL := hO.row.2
        have hg2 : w.heap.size ≤ g2 := by have := hO.row.1; have := hb.size; omega
        clear hC hO hLS
        have hl2 : l2 ≤ 60000 := by
          have h9 := hG2.2
          have h8 := HL2.out
          rw [HL.out] at h9
          omega
        have hR2 := hR.below b3
        have bb := Below.step hb b3
        have hE := equalN_any (lessL zs l) zs l2 l HL2 HL _ _ c2 c w3 hRL.nodes hR2.nodes (by omega) (by omega)
        go_wp2_with fail
        refine hE.mono ?_
        rintro e w4 ⟨⟨r, rfl, hr⟩, b4⟩
        rw [alikeE_iff] at hr
        clear hE
        have bc := Below.step bb b4
        have HQ : Hid (r = true ↔ lessL zs l = zs) := hr
        have HFIN : Hid (lessL zs l = zs → SimpS t zs) := fun h9 => .inl ⟨HPS.out, hS zs (by rw [hek]; exact .stop _ _ (by rw [hzl]; exact h9))⟩
        have HNEXT : Hid (¬ lessL zs l = zs → (lessL zs l).length = l2 ∧ GoodS (lessL zs l) ∧ w.heap.size ≤ g2 ∧ Row w4 g2 (lessL zs l) ∧ (∀ r, SimR (20 - (k + 1)) (lessL zs l) r → SimR 20 t r) ∧ Below w.heap.size w w4) := by
          intro h9
          refine ⟨HL2.out, by rw [← hzl]; exact hG2.1, hg2, hRL.below b4, fun r h => hS r ?_, bc⟩
          rw [hek]
          refine .go _ _ _ (by rw [hzl]; exact h9) ?_
          rw [hzl]
          exact h
        have HR4 : Hid (Row w4 g zs) := hR2.below b4
        have HBC : Hid (Below w.heap.size w w4) := bc
        have HGW : Hid (w.heap.size ≤ g) := hgw
        clear hzl hG hgw hR hS hb hG2 hek hR2 bb bc b3 b4 hr HZ hRL hg2 HL2
        cases r
        · have HN : Hid ((lessL zs l).length = l2 ∧ GoodS (lessL zs l) ∧ w.heap.size ≤ g2 ∧ Row w4 g2 (lessL zs l) ∧ (∀ r, SimR (20 - (k + 1)) (lessL zs l) r → SimR 20 t r) ∧ Below w.heap.size w w4) := HNEXT.out (fun h => by have := HQ.out.2 h; cases this)
          clear HNEXT HFIN HQ HR4 HBC
          go_wp2
          go_roundw
          case rel => exact ⟨k + 1, g2, c2, l2, lessL zs l, by omega, by go_num, rfl, hl2, HN.out⟩
          case measure => (simp [intOf]) <;> omega
        · have HN : Hid (SimpS t zs) := HFIN.out (HQ.out.1 rfl)
          clear HNEXT HFIN HQ
          go_wp2
          go_ret
          exact ⟨g, c, l, zs, rfl, HL.out, HGW.out, HR4.out, HN.out, HBC.out⟩
      · obtain rfl : k = 20 := by omega
        have HN : Hid (SimpS t zs) := .inl ⟨HPS.out, HZ.out.2.2.2.2.1 zs (.zero _)⟩
        go_wp2
        go_ret
        exact ⟨g, c, l, zs, rfl, HZ.out.1, HZ.out.2.2.1, HZ.out.2.2.2.1, HN.out, HZ.out.2.2.2.2.2⟩
theorem alike_LawSi (xs : List Nd) : Alike Nd.eqb xs xs := ⟨rfl, fun _ _ _ => Nd.eqb_refl _⟩
set_option maxHeartbeats 2000000 in
theorem lawSimplify (xs : List Nd) (ao : Option Addr) (cap : Nat) (w : World) (hx : Nodes w ao xs)
    (hsx : ∀ x ∈ xs, x.text.size ≤ maxLen ∧ (Lit.int .i64 x.num).wf = true) (hlx : xs.length ≤ 9223372036854775807) :
    Calls Tryz.prog 3 #[.slice ao xs.length cap] w fun e w' => e = .returned (.bool true) ∧ Below w.heap.size w w' := by
  go_enter Tryz.func3, Tryz.ntmps3
  go_wp2_with fail
  refine (szNodeT_any xs ao cap 1048576 w hx (fun x hx => (hsx x hx).1) hlx (by omega) (by omega)).mono ?_
  rintro e w1 ⟨⟨r, rfl, hr⟩, b1⟩
  rcases hr with hr | ⟨hr0, hr1, hr2⟩
  · subst hr
    clear hsx hx
    go_wp2
    go_ret
    exact ⟨rfl, b1⟩
  have lx : xs.length ≤ 1048576 := by omega
  obtain ⟨l, hl⟩ : ∃ l, xs.length = l := ⟨_, rfl⟩
  have HL : Hid (xs.length = l) := hl
  have HTX : Hid (∀ x ∈ xs, x.text.size ≤ 1048576 ∧ (Lit.int .i64 x.num).wf = true) := fun x hx => ⟨hr2 x hx, (hsx x hx).2⟩
  rw [hl] at lx ⊢
  clear hl hr1 hr2 hlx hsx
  have toN : ∀ W, Below w.heap.size w W → Calls Tryz.prog 6 #[.slice ao l cap] W fun e w' => ∃ g, e = .returned (.slice (some ⟨g, 0, none⟩) l l) ∧ W.heap.size ≤ g ∧ Row w' g xs ∧ Below W.heap.size W w' := by
    intro W hW
    have h9 := toNodeS_any xs ao cap W (hx.below hW) (by have := HL.out; omega)
    rw [HL.out] at h9
    exact h9
  have TON : Hid (∀ W, Below w.heap.size w W → Calls Tryz.prog 6 #[.slice ao l cap] W fun e w' => ∃ g, e = .returned (.slice (some ⟨g, 0, none⟩) l l) ∧ W.heap.size ≤ g ∧ Row w' g xs ∧ Below W.heap.size W w') := toN
  clear toN hx
  go_wp2_with fail
  refine (TON.out w1 b1).mono ?_
  rintro e w2 ⟨g1, rfl, _, R1, b2⟩
  have b2 := Below.step b1 b2
  clear b1
  go_wp2_with fail
  refine (specSimplify_any xs l HL lx HTX.out _ _ w2 R1.nodes).mono ?_
  rintro e w3 ⟨gw, cw, l3, Z, rfl, hl3, _, RW, hZS, b3⟩
  have hpl0 : Z.length ≤ l := by
    rw [← HL.out]
    exact SimpS.len HTX.out hZS
  have HI : Hid (∀ (g : Nat) (W : World), Row W g xs → Calls Tryz.prog 7 #[.slice (some ⟨g, 0, none⟩) l l] W fun e w' => ∃ ag cg, e = .returned (.slice ag Z.length cg) ∧ Ans w' W.heap.size ag Z ∧ Below W.heap.size W w') := by
    intro g W hR
    refine (implSimplify_any xs l HL lx HTX.out _ _ W hR.nodes).mono ?_
    rintro e w' ⟨g', c', l', Z', rfl, h8, h7, h9, hZ', hb'⟩
    obtain rfl : Z = Z' := hZS.same hZ'
    subst h8
    exact ⟨_, _, rfl, h9.ans h7, hb'⟩
  obtain ⟨p, hp⟩ : ∃ p, Z.length = p := ⟨_, rfl⟩
  have HP : Hid (Z.length = p) := hp
  have hpl : p ≤ 1048576 := by omega
  rw [hp] at HI
  have e3 : p = l3 := by omega
  subst e3
  clear hl3 hZS hp hpl0
  have lw := RW.lt
  have b3 := Below.step b2 b3
  clear b2 R1
  go_wp2_with fail
  refine (TON.out w3 b3).mono ?_
  rintro e w4 ⟨gx, rfl, hgx, RX, b4⟩
  have RW := RW.below b4
  have hwx : gw ≠ gx := by omega
  have hgx0 : w.heap.size ≤ gx := by have := b3.size; omega
  have lx4 := RX.lt
  have b4 := Below.step b3 b4
  clear b3
  go_wp2_with fail
  refine (HI.out gx w4 RX).mono ?_
  rintro e w5 ⟨ag, cg, rfl, RG, b5⟩
  obtain ⟨B5, hB5⟩ : ∃ B, w4.heap.size = B := ⟨_, rfl⟩
  have lw4 := RW.lt
  rw [hB5] at RG lx4 lw4
  have hw5 : w.heap.size ≤ B5 := by have := b4.size; omega
  have RW := RW.below b5
  have RX := RX.below b5
  have b5 := Below.step b4 b5
  clear b4 hB5
  go_wp2_with fail
  refine (eqNodeS_any Z Z p p HP HP _ _ _ _ w5 RG.nodes RW.nodes (by omega) (by omega)).mono ?_
  rintro e w6 ⟨⟨u6, rfl, hu⟩, b6⟩
  have hu1 : u6 = true := hu.2 (alike_LawSi Z)
  subst hu1
  have RW := RW.below b6
  have RX := RX.below b6
  have RG := RG.below b6
  have b6 := Below.step b5 b6
  clear b5 hu
  go_wp2_with fail
  refine (TON.out w6 b6).mono ?_
  rintro e w7 ⟨g7, rfl, _, R7, b7⟩
  have RW := RW.below b7
  have RX := RX.below b7
  have RG := RG.below b7
  have b7 := Below.step b6 b7
  clear b6
  go_wp2_with fail
  refine (eqNodeS_any xs xs l l HL HL _ _ _ _ w7 RX.nodes R7.nodes (by omega) (by omega)).mono ?_
  rintro e w8 ⟨⟨u8, rfl, hu⟩, b8⟩
  have hu1 : u8 = true := hu.2 (alike_LawSi xs)
  subst hu1
  have RW := RW.below b8
  have RX := RX.below b8
  have RG := RG.below b8
  have b8 := Below.step b7 b8
  clear b7 hu R7
  go_wp2_with fail
  refine (markNodeS_any xs l gx l 1 w8 HL RX (by omega) (by omega) (by omega)).mono ?_
  rintro e w9 ⟨rfl, _, bu⟩
  have RW := bu.row RW hwx
  have RG := RG.but bu (fun q _ hq _ e => by omega)
  have b9 : Below w.heap.size w w9 := b8.trans (bu.below b8.size (fun q hq => by rw [hq]; exact hgx0))
  clear b8 RX bu
  go_wp2_with fail
  refine (eqNodeS_any Z Z p p HP HP _ _ _ _ w9 RG.nodes RW.nodes (by omega) (by omega)).mono ?_
  rintro e w10 ⟨⟨u10, rfl, hu⟩, b10⟩
  have hu1 : u10 = true := hu.2 (alike_LawSi Z)
  subst hu1
  have RW := RW.below b10
  have RG := RG.below b10
  have b10 := Below.step b9 b10
  clear b9 hu
  go_wp2_with fail
  refine (markNodeS_ans Z p B5 ag cg 1 w10 HP RG (by omega) (by omega) (by omega)).mono ?_
  rintro e w11 ⟨rfl, RM, bu⟩
  have RW := bu.row RW (fun h => by have := h.2; omega)
  have b11 : Below w.heap.size w w11 := b10.trans (bu.below b10.size (fun q hq => by have := hq.2; omega))
  clear b10 RG bu
  go_wp2_with fail
  refine (heldNodeS_ans p B5 ag cg 1 w11 RM (by omega) (by omega) (by omega)).mono ?_
  rintro e w12 ⟨rfl, b12⟩
  have RW := RW.below b12
  have RM := RM.below b12
  have b12 := Below.step b11 b12
  clear b11
  go_wp2_with fail
  refine (TON.out w12 b12).mono ?_
  rintro e w13 ⟨g13, rfl, _, R13, b13⟩
  have RW := RW.below b13
  have RM := RM.below b13
  have b13 := Below.step b12 b13
  clear b12
  go_wp2_with fail
  refine (HI.out g13 w13 R13).mono ?_
  rintro e w14 ⟨ah, ch, rfl, RH, b14⟩
  have RW := RW.below b14
  have RM := RM.below b14
  have b14 := Below.step b13 b14
  clear b13 R13
  go_wp2_with fail
  refine (eqNodeS_any Z Z p p HP HP _ _ _ _ w14 RH.nodes RW.nodes (by omega) (by omega)).mono ?_
  rintro e w15 ⟨⟨u15, rfl, hu⟩, b15⟩
  have hu1 : u15 = true := hu.2 (alike_LawSi Z)
  subst hu1
  have RM := RM.below b15
  have b15 := Below.step b14 b15
  clear b14 hu RH RW
  go_wp2_with fail
  refine (heldNodeS_ans p B5 ag cg 1 w15 RM (by omega) (by omega) (by omega)).mono ?_
  rintro e w16 ⟨rfl, b16⟩
  have b16 := Below.step b15 b16
  clear b15 RM
  go_wp2
  go_ret
  exact ⟨rfl, b16⟩
end Go.Proofs.YtemancdlnakkmaaGreat

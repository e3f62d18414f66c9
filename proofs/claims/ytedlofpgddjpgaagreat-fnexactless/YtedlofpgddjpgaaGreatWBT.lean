import Derived.Test.YtedlofpgddjpgaaGreatWBS
import Derived.Test.YtedlofpgddjpgaaGreatWAO
import Derived.Test.YtedlofpgddjpgaaGreatPDem
import Derived.Test.YtedlofpgddjpgaaGreatWBP
import Derived.Test.YtedlofpgddjpgaaGreatWBJ
import Derived.Test.YtedlofpgddjpgaaGreatWAQ
namespace Go.Proofs.YtedlofpgddjpgaaGreat
open Go.RowKit Go.Maps
theorem write_any (L : LesAt) (bd us : Int → Nat) (T : Tre) : WrC L bd us T := by
  refine Tre.ind (p := WrC L bd us) ?_ T
  intro n ks ih b A w m P hP hG h hR hA hs
  by_cases hv : n.kind = 70 ∧ (P n.num).isSome = true
  · obtain ⟨h7, hsome⟩ := hv
    obtain ⟨V, hV⟩ := Option.isSome_iff_exists.1 hsome
    have e : lessT bd us (.mk n ks) P = (V, P) := by
      rw [lessT_eq]
      unfold lessStep
      rw [if_pos ⟨h7, hsome⟩, hV]
      rfl
    rw [e]
    exact write_var L bd us n ks V b A w m P h7 hV hP.node.num h hR _
  by_cases hl : n.kind = 80 ∧ singleT bd n.num = true ∧ (ks.head?.map (fun a => atomT bd a.nd)) = some true
  · obtain ⟨h8, hsi, hat⟩ := hl
    obtain ⟨x, y, rfl, -, -⟩ := hP.node.code2 (.inr (.inl h8))
    have hat2 : atomT bd x.nd = true := by simpa using hat
    have h2 : n.num ≤ 200000 := by
      unfold singleT at hsi
      simp only [Bool.and_eq_true, decide_eq_true_eq] at hsi
      exact hsi.1
    have e : lessT bd us (.mk n [x, y]) P = ((lessT bd us y (setP (lessT bd us x P).2 n.num (some (lessT bd us x P).1))).1, setP (lessT bd us y (setP (lessT bd us x P).2 n.num (some (lessT bd us x P).1))).2 n.num none) := by
      rw [lessT_eq]
      unfold lessStep
      rw [if_neg hv, if_pos ⟨h8, hsi, hat⟩]
      rfl
    rw [e]
    refine (write_let L bd us n x y b A w m P (fun e w' => WrR L bd us w A m (szT (.mk n [x, y])) ((lessT bd us y (setP (lessT bd us x P).2 n.num (some (lessT bd us x P).1))).1, setP (lessT bd us y (setP (lessT bd us x P).2 n.num (some (lessT bd us x P).1))).2 n.num none) e w') h8 hP hat2 hsi h hR (fun W hW => ?_)).mono (fun e w' h => h.1)
    refine (replace_any L bd us n x y b A W m P (ih x (by simp)) (ih y (by simp)) h8 hP hG hat2 h2 (h.under hW (fun q hq _ => hq) h.out) (hR.under hW) (fun q hq => hA q (by have := hW.size; omega)) hs).mono ?_
    rintro e w' ⟨b3, m3, rfl, h3, h4, h5, h6⟩
    exact ⟨⟨b3, m3, rfl, h3, h4, h5, (But.ofBelow hW).trans h6⟩, b3, rfl⟩
  · have e : lessT bd us (.mk n ks) P = (ruleT us (mkT n (seqF (ks.map (lessT bd us)) P).1), (seqF (ks.map (lessT bd us)) P).2) := by
      rw [lessT_eq]
      unfold lessStep
      rw [if_neg hv, if_neg hl]
    rw [e]
    refine write_rest L bd us n ks b A w m P ih hP hG h hR hA hs (fun h7 => ?_) (fun x y h8 e hsi => ?_)
    · cases hp : P n.num with
      | none => rfl
      | some V => exact absurd ⟨h7, by rw [hp]; rfl⟩ hv
    · cases ha : atomT bd x.nd with
      | false => rfl
      | true => exact absurd ⟨h8, hsi, by rw [e]; simp [ha]⟩ hl
end Go.Proofs.YtedlofpgddjpgaaGreat

namespace Go.Proofs.YtedlofpgddjpgaaGreat
end Go.Proofs.YtedlofpgddjpgaaGreat

namespace Go.Proofs.YtedlofpgddjpgaaGreat
open Go.RowKit
theorem OwnN.but9 {S : Nat → Prop} {w w' : World} {B g c l : Nat} {zs : List Nd} (h : OwnN w B g c l zs) (hb : But S w w') (hn : ¬ S g) : OwnN w' B g c l zs := ⟨h.1, owns_but h.2 hb hn⟩
theorem OwnN.made0 {w : World} {B n : Nat} (hB : B ≤ w.heap.size) (hn : n ≤ 1048576) : OwnN (w.alloc (.cells (madeCells #[.int .i64 0, .int .i64 0, .string ByteArray.empty, .int .i64 0, .int .i64 0] (n * 5)) 34)) B w.heap.size n 0 [] := by
  refine ⟨rfl, rfl, Or.inr ⟨_, n, _, rfl, hB, heap_alloc_new _ _, Nat.zero_le _, by unfold maxLen; omega, ?_, ?_⟩⟩
  · simp [madeCells]
  · simp [flat]
theorem make_nodes0 (n : Nat) (h : n ≤ 1048576) (w : World) :
    (Instr.makeSlice 24 (.int .i64 0) (.int .i64 (n : Int))).run Tryz.prog w = .ok (.slice (some ⟨w.heap.size, 0, none⟩) 0 n) (w.alloc (.cells (madeCells #[.int .i64 0, .int .i64 0, .string ByteArray.empty, .int .i64 0, .int .i64 0] (n * 5)) 34)) := by
  obtain ⟨i, hi, hzz⟩ := Option.map_eq_some_iff.1 Tryz.infoN
  simp only [Prod.mk.injEq] at hzz
  obtain ⟨hz, hs, hb⟩ := hzz
  have hr := run_make (P := Tryz.prog) w 24 34 i _ Tryz.underlying24 hi hz .i64 .i64 0 n (by omega) (by omega) (by rw [hb]; omega) (by omega)
  simp only [Int.toNat_natCast, Int.toNat_zero, hs] at hr
  exact hr
end Go.Proofs.YtedlofpgddjpgaaGreat

namespace Go.Proofs.YtedlofpgddjpgaaGreat
open Go.RowKit Go.Maps
def ApC (A : Nat → Prop) (T : Tre) : Prop := ∀ (b g c l : Nat) (out : List Nd) (w : World), PRep w A T b → OwnN w 0 g c l out → l + szT T ≤ 1000000000 → ¬ A g → (∀ q, A q → q < w.heap.size) → Calls Tryz.prog 21 #[.pointer (some ⟨b, 0, none⟩), .slice (some ⟨g, 0, none⟩) l c] w fun e w' => ∃ g' c', e = .returned (.slice (some ⟨g', 0, none⟩) (l + szT T) c') ∧ OwnN w' 0 g' c' (l + szT T) (out ++ outT T) ∧ ¬ A g' ∧ But (fun p => ¬ A p) w w'
theorem OwnN.lenL {w : World} {B g c l : Nat} {out : List Nd} (h : OwnN w B g c l out) : out.length = l := h.1
set_option maxRecDepth 20000 in
set_option maxHeartbeats 4000000 in
theorem append_any (A : Nat → Prop) (T : Tre) : ApC A T := by
  refine Tre.ind (p := ApC A) ?_ T
  intro n ks ih b g c l out w hR hO hs hAg hBw
  obtain ⟨hbB, so, sc, hblk, -, hsc, hq6, bs, h4⟩ := hR.opened
  obtain ⟨c0, c1, c2, c3, c4, c5⟩ := nine hblk
  obtain ⟨i0, hi, hz0, hz1, hz2⟩ := info_parts Tryz.infoN
  have lb : b < w.heap.size := lt_of_cell c0
  obtain ⟨q, hq⟩ : ∃ q, ks.length = q := ⟨_, rfl⟩
  have HQ : Hid (ks.length = q) := hq
  have hsz := szT_eq n ks
  have HSZ : Hid (szT (.mk n ks) = (ks.map szT).sum + 1) := hsz
  have HCK : Hid (∀ j (hj : j < q), ∃ gp, so = some ⟨gp, 0, none⟩ ∧ (∀ W, But (fun p => ¬ A p) w W → W.cell? ⟨gp, j, none⟩ = some (.pointer (some ⟨bs j, 0, none⟩))) ∧ ∀ (W : World) (g1 c1 l1 : Nat), But (fun p => ¬ A p) w W → OwnN W 0 g1 c1 l1 (out ++ ((ks.take j).map outT).flatten) → ¬ A g1 → Calls Tryz.prog 21 #[.pointer (some ⟨bs j, 0, none⟩), .slice (some ⟨g1, 0, none⟩) l1 c1] W fun e w' => ∃ g' c' l', e = .returned (.slice (some ⟨g', 0, none⟩) l' c') ∧ OwnN w' 0 g' c' l' (out ++ ((ks.take (j + 1)).map outT).flatten) ∧ But (fun p => ¬ A p) w w' ∧ ¬ A g') := by
    intro j hj
    have hj9 : j < ks.length := by omega
    obtain ⟨gp, e, hgp, hcp, hrp⟩ := h4 j hj9
    refine ⟨gp, e, fun W hW => hW.cellL hcp (fun h => h hgp), fun W g1 c1 l1 hW hO1 hB1 => ?_⟩
    have ek : ((ks.take (j + 1)).map outT).flatten = ((ks.take j).map outT).flatten ++ outT ks[j] := by
      rw [← List.take_append_getElem hj9, List.map_append, List.flatten_append]
      simp
    have e8 := take_sum ks (j + 1)
    rw [← List.take_append_getElem hj9, List.map_append, List.sum_append] at e8
    have e7 : (List.map szT [ks[j]]).sum = szT ks[j] := by simp
    have e6 : ((ks.take j).map outT).flatten.length = ((ks.take j).map szT).sum := by
      rw [List.length_flatten, List.map_map]
      rfl
    have e5 := hO1.lenL
    have e4 := hO.lenL
    rw [List.length_append, e6] at e5
    refine (ih ks[j] (List.getElem_mem hj9) (bs j) g1 c1 l1 _ W (hrp.but hW (fun q hq hn => hn hq) (fun q hq _ => hq)) hO1 (by omega) hB1 (fun q hq => Nat.lt_of_lt_of_le (hBw q hq) hW.size)).mono ?_
    rintro e w' ⟨g', c', rfl, h1, h3, h2⟩
    refine ⟨g', c', _, rfl, ?_, hW.trans h2, h3⟩
    rw [ek, ← List.append_assoc]
    exact h1
  have HFIN : Hid (∀ (W : World) (g1 c1 l1 : Nat), OwnN W 0 g1 c1 l1 (out ++ ((ks.take q).map outT).flatten) → l1 + 1 = l + szT (.mk n ks) ∧ l1 + 1 ≤ 1000000000) := by
    intro W g1 c1 l1 h1
    have e5 := h1.lenL
    have e4 := hO.lenL
    have e6 : ((ks.take q).map outT).flatten.length = (ks.map szT).sum := by
      rw [List.take_of_length_le (by omega), List.length_flatten, List.map_map]
      rfl
    rw [List.length_append, e6] at e5
    omega
  have HOU : Hid (outT (.mk n ks) = ((ks.take q).map outT).flatten ++ [n]) := by
    show _ = _
    rw [outT_eq, List.take_of_length_le (by omega)]
  have HST : Hid (OwnN w 0 g c l (out ++ ((ks.take 0).map outT).flatten)) := by
    show OwnN _ _ _ _ _ _
    simpa using hO
  have hg0 := owns_block hO.2
  rw [hq] at c5 hsc hq6
  obtain ⟨kd, nm, tx, kk, pl⟩ := n
  simp only at c0 c1 c2 c3 c4 c5
  have HC5 : Hid (∀ W, But (fun p => ¬ A p) w W → W.cell? ⟨b, 0, none⟩ = some (.int .i64 kd) ∧ W.cell? ⟨b, 1, none⟩ = some (.int .i64 nm) ∧ W.cell? ⟨b, 2, none⟩ = some (.string tx) ∧ W.cell? ⟨b, 3, none⟩ = some (.int .i64 kk) ∧ W.cell? ⟨b, 4, none⟩ = some (.int .i64 pl)) := fun W hW => ⟨hW.cellL c0 (fun h => h hbB), hW.cellL c1 (fun h => h hbB), hW.cellL c2 (fun h => h hbB), hW.cellL c3 (fun h => h hbB), hW.cellL c4 (fun h => h hbB)⟩
  clear ih hR hblk h4 hq hsz hs c0 c1 c2 c3 c4 hO
  go_enter Tryz.func21, Tryz.ntmps21
  go_wp2
  go_loopw [1, 12] (fun vo vi wr => ∃ (j g1 c1 l1 : Nat), j ≤ q ∧ vi = .int .i64 (j : Int) ∧ vo = .slice (some ⟨g1, 0, none⟩) l1 c1 ∧ OwnN wr 0 g1 c1 l1 (out ++ ((ks.take j).map outT).flatten) ∧ But (fun p => ¬ A p) w wr ∧ ¬ A g1) (fun _ vi _ => q - (intOf vi).toNat)
  case atStart => exact ⟨0, g, c, l, Nat.zero_le _, rfl, rfl, HST.out, But.refl _ _, hAg⟩
  case round =>
    clear c5 hg0
    obtain ⟨j, g1, c1, l1, hj, rfl, rfl, hO1, hb1, hB1⟩ := hrel
    by_cases hlt : j < q
    · obtain ⟨gp, rfl, hc, hcall⟩ := HCK.out j hlt
      have hc1 := hc wr hb1
      have lgp := lt_of_cell hc1
      have hcl := hcall wr g1 c1 l1 hb1 hO1 hB1
      clear hc hcall hO1
      go_wp2_with fail
      refine hcl.mono ?_
      rintro e w3 ⟨g3, c3, l3, rfl, hO3, hb3, hB3⟩
      clear hcl hc1
      go_wp2
      go_roundw
      case rel => exact ⟨j + 1, g3, c3, l3, by omega, by go_num, rfl, hO3, hb3, hB3⟩
      case measure => simp [intOf]; omega
    · obtain rfl : j = q := by omega
      obtain ⟨hl1, hl2⟩ := HFIN.out wr g1 c1 l1 hO1
      obtain ⟨Z, hZ⟩ : ∃ Z, ((ks.take j).map outT).flatten = Z := ⟨_, rfl⟩
      rw [hZ] at hO1 HOU
      have HL1 : Hid (l1 + 1 = l + szT (.mk ⟨kd, nm, tx, kk, pl⟩ ks)) := hl1
      obtain ⟨d0, d1, d2, d3, d4⟩ := HC5.out wr hb1
      have ld := lt_of_cell d0
      have hob := owns_block hO1.2
      have hlen := hO1.lenL
      have hown3 := hO1.alloc (.cells #[.int .i64 kd, .int .i64 nm, .string tx, .int .i64 kk, .int .i64 pl] 34)
      have hb3 := hb1.trans (But.ofBelow ((Below.refl wr.heap.size wr).alloc (Nat.le_refl _) (.cells #[.int .i64 kd, .int .i64 nm, .string tx, .int .i64 kk, .int .i64 pl] 34)))
      have hcells := nd_new_cells wr ⟨kd, nm, tx, kk, pl⟩
      clear hl1 HCK HST HC5 HFIN hO1 hZ
      go_wp2_with (at_builtin; refine wpList_append2 _ rfl (.tmp 20) (.tmp 25) 24 rfl 0 34 i0 _ 5 48 Tryz.underlying24 hi hz0 hz1 hz2 rfl (by decide) g1 l1 c1 _ rfl hown3.2 ⟨_, 0, none⟩ 1 1 (Nd.row ⟨kd, nm, tx, kk, pl⟩) rfl rfl hcells (nd_row_one _) ?a3 ?a4 ?a5 ?_)
      case a3 => unfold maxLen; omega
      case a4 => omega
      intro g2 c2 w2 hown4 hgrow2 hwh
      have hO4 := OwnN.push hown4 hown3.1 rfl
      have hbb : But (fun p => ¬ A p) w w2 := hb3.trans ((But.ofGrown hgrow2).mono (fun p hp hA => hB1 (hp ▸ hA)))
      have hA2 : ¬ A g2 := by
        rcases hwh with e | e
        · rw [e]; exact hB1
        · intro hA9
          have h9 := hBw _ hA9
          have h8 := hb1.size
          rw [e] at h9
          omega
      clear hown4 hgrow2 hwh hown3 hb3 hcells d0 d1 d2 d3 d4
      have HO4 : Hid (OwnN w2 0 g2 c2 (l1 + 1) (out ++ outT (.mk ⟨kd, nm, tx, kk, pl⟩ ks))) := by
        show OwnN _ _ _ _ _ _
        rw [HOU.out, ← List.append_assoc]
        exact hO4
      clear hO4
      go_wp2
      go_ret
      rw [← HL1.out]
      exact ⟨g2, c2, rfl, HO4.out, hA2, hbb⟩
end Go.Proofs.YtedlofpgddjpgaaGreat

namespace Go.Proofs.YtedlofpgddjpgaaGreat
open Go.RowKit
end Go.Proofs.YtedlofpgddjpgaaGreat

namespace Go.Proofs.YtedlofpgddjpgaaGreat
open Go.RowKit
theorem but_grownK {w w' : World} {g : Nat} (h : w.grownBy w' (some g)) : But (· = g) w w' :=
  ⟨h.os, h.tape, h.output, h.size, fun i hi hne => h.block i hi (fun e => hne (by cases e; rfl))⟩
structure StackK (w wr : World) (t : List Nd) (k g c : Nat) (bs : List Nat) (S : List Sp) : Prop where
  own : wr.ownsRow w.heap.size 41 1 (.slice (some ⟨g, 0, none⟩) bs.length c) bs.length (ptrK bs)
  len : S.length = bs.length
  run : ∃ ys, after t k = some (S, ys)
  trees : ∀ j (h1 : j < bs.length) (h2 : j < S.length), TreeAt t wr (fun q => q ≠ g ∧ w.heap.size ≤ q) bs[j] S[j].rt
  old : Below w.heap.size w wr
theorem ptrK_cells (w : World) (b : Nat) : ∀ j u, (ptrK [b])[j]? = some u → (w.alloc (.cells #[.pointer (some ⟨b, 0, none⟩)] 41)).cell? (Addr.add ⟨w.heap.size, 0, none⟩ j) = some u := by
  intro j u hj
  rw [addK, Nat.zero_add, cell_of_row _ w.heap.size j _ 41 (0, 0) (heap_alloc_new _ _), ← hj]
  simp [ptrK]
theorem stackK_next {w wr W w4 w5 : World} {t : List Nd} {k g c : Nat} {bs : List Nat} {S : List Sp} (hst : StackK w wr t k g c bs S) (hk : k < t.length) {nd : Nd} (hnd : t[k] = nd) {kd fi : Nat} (hkd : nd.kids = (kd : Int)) (hfi : bs.length = fi + kd) (hW : Below wr.heap.size wr W) {b : Nat}
    (hres : NewK W nd (bs.drop fi) b w4) {g5 c5 : Nat} (hown5 : w5.ownsRow w.heap.size 41 1 (.slice (some ⟨g5, 0, none⟩) (fi + 1) c5) (fi + 1) (ptrK (bs.take fi) ++ ptrK [b]))
    (hgrow5 : (w4.alloc (.cells #[.pointer (some ⟨b, 0, none⟩)] 41)).grownBy w5 (some g)) (hwh : g5 = g ∨ g5 = (w4.alloc (.cells #[.pointer (some ⟨b, 0, none⟩)] 41)).heap.size) :
    ∃ S', StackK w w5 t (k + 1) g5 c5 (bs.take fi ++ [b]) S' := by
  obtain ⟨gk, ck, cur, hb1, hg1, hblk, hrow, hcells, hcap, hB4⟩ := hres
  obtain ⟨ys, hrun⟩ := hst.run
  have hob := owns_block hst.own
  have hbA : Below w4.heap.size w4 (w4.alloc (.cells #[.pointer (some ⟨b, 0, none⟩)] 41)) := (Below.refl _ _).alloc (Nat.le_refl _) _
  have hb5 := but_grownK hgrow5
  have hWs := hW.size
  have hSl := hst.len
  have hstep : step S k t[k].kids = some (S.take fi ++ [over (S.drop fi) k], over (S.drop fi) k) := by
    rw [hnd, hkd, step_of (by omega) (by omega)]
    have e : S.length - (kd : Int).toNat = fi := by simp; omega
    rw [e]
  have hn := after_succ hrun hk hstep
  have hkr : kidsRt t k = (S.drop fi).map (fun s => s.rt) := by
    rw [kidsRt_eq hrun hk, hnd, hkd]
    have e : S.length - (kd : Int).toNat = fi := by simp; omega
    rw [e]
  have e4 : ∀ {b i}, TreeAt t wr (fun q => q ≠ g ∧ w.heap.size ≤ q) b i → TreeAt t w4 (fun q => q ≠ g ∧ w.heap.size ≤ q) b i := fun h => (h.under hW).under hB4
  have e5 : ∀ {b i}, TreeAt t w4 (fun q => q ≠ g ∧ w.heap.size ≤ q) b i → TreeAt t w5 (fun q => q ≠ g5 ∧ w.heap.size ≤ q) b i := by
    intro b i h
    refine ((h.under hbA).but hb5 (fun q h => h.1) (fun q h hl => ⟨?_, h.2⟩))
    rcases hwh with rfl | rfl
    · exact h.1
    · exact Nat.ne_of_lt hl
  have hws := hst.old.size
  have hnew : TreeAt t w4 (fun q => q ≠ g ∧ w.heap.size ≤ q) b k := by
    refine .mk b k (bs.drop fi) gk ck cur ⟨by omega, by omega⟩ ⟨by omega, by omega⟩ ?_ hrow hcells hcap (by rw [hkr]; simp; omega) ?_
    · rw [ndAt_get hk, hnd]; exact hblk
    · intro j h h'
      have h1 : fi + j < bs.length := by simp at h; omega
      have h2 : fi + j < S.length := by omega
      have h9 := e4 (hst.trees (fi + j) h1 h2)
      have q1 : (bs.drop fi)[j] = bs[fi + j] := by simp
      have q2 : (kidsRt t k)[j] = (S[fi + j]).rt := by simp only [hkr]; simp
      rw [q1, q2]
      exact h9
  have hfl : (bs.take fi).length = fi := by simp; omega
  have hln : (bs.take fi ++ [b]).length = fi + 1 := by simp; omega
  refine ⟨_, ⟨?_, ?_, ⟨_, hn⟩, ?_, ?_⟩⟩
  · rw [hln]
    have e9 : ptrK (bs.take fi ++ [b]) = ptrK (bs.take fi) ++ ptrK [b] := by simp [ptrK]
    rw [e9]
    exact hown5
  · rw [hln]; simp; omega
  · intro j h1 h2
    by_cases hj : j < fi
    · have q1 : (bs.take fi ++ [b])[j] = bs[j] := by rw [List.getElem_append_left (by omega)]; simp
      have q2 : (S.take fi ++ [over (S.drop fi) k])[j] = S[j] := by rw [List.getElem_append_left (by simp; omega)]; simp
      rw [q1, q2]
      exact e5 (e4 (hst.trees j (by omega) (by omega)))
    · have hj' : j = fi := by omega
      subst hj'
      have q1 : (bs.take j ++ [b])[j] = b := by rw [List.getElem_append_right (by omega)]; simp
      have q2 : (S.take j ++ [over (S.drop j) k])[j].rt = k := by rw [List.getElem_append_right (by simp; omega)]; simp [over]
      rw [q1, q2]
      exact e5 hnew
  · have h1 := Below.step hst.old hW
    have h2 := Below.step h1 hB4
    have h3 := Below.step h2 hbA
    exact h3.trans (hb5.below h3.size (fun q hq => by omega))
set_option maxRecDepth 20000 in
set_option maxHeartbeats 8000000 in
theorem foldK_any (w : World) (t : List Nd) (m : Nat) (HM : Hid (t.length = m)) (hm : m ≤ 60000) (hm0 : 0 < m) (S ys : List Sp) (HA : Hid (after t m = some (S, ys))) (hS1 : S.length = 1) (ao : Option Addr) (cap : Nat) (hx : Nodes w ao t) :
    Calls Tryz.prog 44 #[.slice ao m cap, .func (.func 45) #[] #[]] w fun e w' => ∃ b, e = .returned (.pointer (some ⟨b, 0, none⟩)) ∧ TreeAt t w' (fun q => w.heap.size ≤ q) b (m - 1) ∧ Below w.heap.size w w' := by
  obtain ⟨i0, hi, hz0, hz1, hz2⟩ := info_parts Tryz.infoPC
  go_enter Tryz.func44, Tryz.ntmps44
  go_wp2
  have hO0 : (w.alloc (.cells #[] 41)).ownsRow w.heap.size 41 1 (.slice (some ⟨w.heap.size, 0, none⟩) 0 0) 0 [] := ⟨rfl, Or.inr ⟨_, 0, #[], rfl, Nat.le_refl _, heap_alloc_new _ _, Nat.le_refl _, by simp [maxLen], rfl, rfl⟩⟩
  have hb0 : Below w.heap.size w (w.alloc (.cells #[] 41)) := (Below.refl _ w).alloc (Nat.le_refl _) _
  have HST0 : Hid (StackK w (w.alloc (.cells #[] 41)) t 0 w.heap.size 0 [] []) :=
    ⟨hO0, rfl, ⟨[], rfl⟩, fun j h1 => by simp at h1, hb0⟩
  have HX : Hid (Nodes w ao t) := hx
  clear hO0 hb0 hx
  go_loopw [5, 12] (fun v i wr => ∃ (k g c : Nat) (bs : List Nat) (S : List Sp), k ≤ m ∧ i = .int .i64 (k : Int) ∧ v = .slice (some ⟨g, 0, none⟩) bs.length c ∧ StackK w wr t k g c bs S) (fun _ i _ => m - (intOf i).toNat)
  case atStart => exact ⟨0, w.heap.size, 0, [], [], Nat.zero_le _, rfl, rfl, HST0.out⟩
  case round =>
    clear HST0
    obtain ⟨k, g, c, bs, Sk, hk, rfl, rfl, hst⟩ := hrel
    have HST : Hid (StackK w wr t k g c bs Sk) := hst
    clear hst
    by_cases hlt : k < m
    · have hltx : k < t.length := by have := HM.out; omega
      have hkk : 0 ≤ t[k].kids ∧ t[k].kids ≤ (bs.length : Int) ∧ bs.length ≤ k := by
        obtain ⟨Sx, hSx, hkx, hKx⟩ := kids_atS HA.out k hlt
        obtain ⟨yk, hyk⟩ := HST.out.run
        rw [hSx] at hyk
        simp only [Option.some.injEq, Prod.mk.injEq] at hyk
        obtain ⟨rfl, -⟩ := hyk
        obtain ⟨_, h9⟩ := hKx.num
        have h8 := HST.out.len
        have h7 := chain_len (after_fine hSx).chain
        rw [h9]
        simp
        omega
      obtain ⟨hk0, hkA, hbk⟩ := hkk
      obtain ⟨nd, hnd⟩ : ∃ x, t[k] = x := ⟨_, rfl⟩
      rw [hnd] at hk0 hkA
      obtain ⟨kd, hkd⟩ : ∃ kd : Nat, nd.kids = (kd : Int) := ⟨nd.kids.toNat, by omega⟩
      obtain ⟨fi, hfi⟩ : ∃ fi, bs.length = fi + kd := ⟨bs.length - kd, by omega⟩
      obtain ⟨bb, oo, rfl, hcx⟩ := HX.out.below HST.out.old k hltx
      rw [hnd] at hcx
      obtain ⟨c0, c1, c2, c3, c4⟩ := hcx
      have hlb : bb < wr.heap.size := lt_of_cell c0
      have hlc := ownsK_tag HST.out.own
      have hob := owns_block HST.out.own
      rw [hkd] at c3
      have HKD : Hid (nd.kids = (kd : Int)) := hkd
      obtain ⟨l, hl⟩ : ∃ l, bs.length = l := ⟨_, rfl⟩
      have HLB : Hid (bs.length = l) := hl
      rw [hl] at hfi hlc hbk ⊢
      have hfl : fi ≤ l := by omega
      have hfc : fi ≤ c := by omega
      have hsub : (l : Int) - (kd : Int) = (fi : Int) := by omega
      have h300 : l ≤ 60000 := by omega
      have hle : (fi : Int) ≤ (fi : Int) + (kd : Int) := by omega
      have hNB : Obj.cells #[.int .i64 nd.kind, .int .i64 nd.num, .string nd.text, .int .i64 nd.kids, .int .i64 nd.place] 34 = (Obj.cells #[.int .i64 nd.kind, .int .i64 nd.num, .string nd.text, .int .i64 (kd : Int), .int .i64 nd.place] 34) := by rw [HKD.out]
      have hbW : Below wr.heap.size wr (wr.alloc (.cells #[.int .i64 nd.kind, .int .i64 nd.num, .string nd.text, .int .i64 nd.kids, .int .i64 nd.place] 34)).drew := ((Below.refl _ wr).alloc (Nat.le_refl _) _).drew
      have HCALL : Hid (Calls Tryz.prog 45 #[.agg #[.int .i64 nd.kind, .int .i64 nd.num, .string nd.text, .int .i64 (kd : Int), .int .i64 nd.place], .slice (if c = fi then some ⟨g, 0, none⟩ else some ⟨g, fi, none⟩) kd (c - fi)] (wr.alloc (.cells #[.int .i64 nd.kind, .int .i64 nd.num, .string nd.text, .int .i64 (kd : Int), .int .i64 nd.place] 34)).drew fun e w' => ∃ b, e = .returned (.pointer (some ⟨b, 0, none⟩)) ∧ NewK (wr.alloc (.cells #[.int .i64 nd.kind, .int .i64 nd.num, .string nd.text, .int .i64 (kd : Int), .int .i64 nd.place] 34)).drew nd (bs.drop fi) b w') := by
        have key : Calls Tryz.prog 45 #[.agg #[.int .i64 nd.kind, .int .i64 nd.num, .string nd.text, .int .i64 nd.kids, .int .i64 nd.place], .slice (if c = fi then some ⟨g, 0, none⟩ else some ⟨g, fi, none⟩) kd (c - fi)] (wr.alloc (.cells #[.int .i64 nd.kind, .int .i64 nd.num, .string nd.text, .int .i64 nd.kids, .int .i64 nd.place] 34)).drew fun e w' => ∃ b, e = .returned (.pointer (some ⟨b, 0, none⟩)) ∧ NewK (wr.alloc (.cells #[.int .i64 nd.kind, .int .i64 nd.num, .string nd.text, .int .i64 nd.kids, .int .i64 nd.place] 34)).drew nd (bs.drop fi) b w' := by
          have hdl : (bs.drop fi).length = kd := by simp; have := HLB.out; omega
          by_cases hcf : c = fi
          · rw [if_pos hcf]
            have hk0 : kd = 0 := by omega
            refine treeOf1_any _ nd (bs.drop fi) kd (c - fi) hdl (by omega) ⟨g, 0, none⟩ (fun j u hj => ?_)
            have : bs.drop fi = [] := List.eq_nil_of_length_eq_zero (by omega)
            rw [this] at hj
            simp [ptrK] at hj
          · rw [if_neg hcf]
            refine treeOf1_any _ nd (bs.drop fi) kd (c - fi) hdl (by omega) ⟨g, fi, none⟩ (fun j u hj => ?_)
            have hj9 : j < kd := by
              have := (List.getElem?_eq_some_iff.1 hj).1
              simp only [ptrK, List.length_map] at this
              omega
            rw [addK]
            have h9 := owns_at (owns_but HST.out.own (But.ofBelow (S := fun _ => False) hbW) (fun h => h)) (fi + j) (by have := HLB.out; omega)
            rw [h9]
            simp only [ptrK, List.getElem?_map, List.getElem?_drop] at hj ⊢
            exact hj
        rw [hNB, HKD.out] at key
        exact key
      have HBW : Hid (Below wr.heap.size wr (wr.alloc (.cells #[.int .i64 nd.kind, .int .i64 nd.num, .string nd.text, .int .i64 (kd : Int), .int .i64 nd.place] 34)).drew) := by
        rw [hNB] at hbW
        exact hbW
      have HOWN : Hid (∀ w', Below (wr.alloc (.cells #[.int .i64 nd.kind, .int .i64 nd.num, .string nd.text, .int .i64 (kd : Int), .int .i64 nd.place] 34)).drew.heap.size (wr.alloc (.cells #[.int .i64 nd.kind, .int .i64 nd.num, .string nd.text, .int .i64 (kd : Int), .int .i64 nd.place] 34)).drew w' → w'.ownsRow w.heap.size 41 1 (.slice (some ⟨g, 0, none⟩) fi c) fi (ptrK (bs.take fi)) ∧ w.heap.size ≤ w'.heap.size) := by
        intro w' hb'
        have h1 := owns_but HST.out.own (But.ofBelow (S := fun _ => False) HBW.out) (fun h => h)
        have h2 := owns_but h1 (But.ofBelow (S := fun _ => False) hb') (fun h => h)
        have h3 := owns_take h2 fi (by have := HLB.out; omega)
        have e9 : (ptrK bs).take (fi * 1) = ptrK (bs.take fi) := by rw [Nat.mul_one]; simp [ptrK, List.map_take]
        rw [e9] at h3
        have h4 := hb'.size
        have h5 := HBW.out.size
        have h6 := HST.out.old.size
        exact ⟨h3, by omega⟩
      have HND : Hid (t[k] = nd) := hnd
      have HFI : Hid (bs.length = fi + kd) := by rw [Hid, HLB.out]; exact hfi
      clear hkd hl hnd hNB hbW
      go_wp2_with fail
      go_region_law (first
        | (go_simp; refine HCALL.out.mono ?_; rintro e w4 ⟨b, rfl, hres⟩; have hB4 : Below (wr.alloc (.cells #[.int .i64 nd.kind, .int .i64 nd.num, .string nd.text, .int .i64 (kd : Int), .int .i64 nd.place] 34)).drew.heap.size (wr.alloc (.cells #[.int .i64 nd.kind, .int .i64 nd.num, .string nd.text, .int .i64 (kd : Int), .int .i64 nd.place] 34)).drew w4 := (by obtain ⟨_, _, _, _, _, _, _, _, _, h9⟩ := hres; exact h9); obtain ⟨how4, hsz4⟩ := HOWN.out w4 hB4; have how5 := how4.alloc (.cells #[.pointer (some ⟨b, 0, none⟩)] 41); have hpc := ptrK_cells w4 b)
        | (refine step_append2 _ rfl (.tmp 23) (.tmp 30) 67 rfl w.heap.size 41 i0 _ 1 8 Tryz.underlying67 hi hz0 hz1 hz2 rfl (by decide) g fi c _ rfl how5 ⟨_, 0, none⟩ 1 1 (ptrK [b]) rfl rfl hpc (ptrK_one _) ?_ ?_ ?_ ?_; (unfold maxLen; omega); omega; ((try simp); omega); intro g5 c5 w5 hown5 hgrow5 hwh))
      all_goals
        have HN : Hid (∃ S', StackK w w5 t (k + 1) g5 c5 (bs.take fi ++ [b]) S') := stackK_next HST.out hltx HND.out HKD.out HFI.out HBW.out hres hown5 hgrow5 hwh
        have hlen : fi + 1 = (bs.take fi ++ [b]).length := by
          simp
          have := HFI.out
          omega
        clear hown5 hgrow5 hwh how4 how5 hpc hB4 hres HOWN HBW HCALL HST hob c0 c1 c2 c3 c4
        simp only [Act.put, List.getElem_toArray, List.getElem_cons_succ, List.getElem_cons_zero, List.setIfInBounds_toArray, List.set_cons_zero, List.set_cons_succ]
        obtain ⟨S', hnx⟩ := HN.out
        go_wp2
        go_roundw
        case rel => exact ⟨k + 1, g5, c5, bs.take fi ++ [b], S', by omega, by go_num, by rw [← hlen], hnx⟩
        case measure => simp [intOf]; omega
    · obtain rfl : k = m := by omega
      obtain ⟨yk, hyk⟩ := HST.out.run
      rw [HA.out] at hyk
      simp only [Option.some.injEq, Prod.mk.injEq] at hyk
      obtain ⟨rfl, -⟩ := hyk
      have hbl : bs.length = 1 := by rw [← HST.out.len]; exact hS1
      obtain ⟨b, rfl⟩ : ∃ b, bs = [b] := List.length_eq_one_iff.1 hbl
      have HT : Hid (TreeAt t wr (fun q => w.heap.size ≤ q) b (k - 1)) := by
        have h9 := HST.out.trees 0 (by simp) (by omega)
        have h8 := ((after_fine HA.out).chain).2.2.1 (by omega)
        have e : (S[0]'(by omega)).rt = k - 1 := by
          have h7 := h8.2
          simp only [hS1] at h7
          simp at h7
          omega
        rw [e] at h9
        exact h9.but (But.ofBelow (S := fun _ => False) (Below.refl _ _)) (fun _ _ h => h) (fun _ h _ => h.2)
      have q0 : wr.cell? ⟨g, 0, none⟩ = some (.pointer (some ⟨b, 0, none⟩)) := by
        have h9 := owns_at HST.out.own 0 (by simp)
        rw [h9]
        rfl
      have hold := HST.out.old
      go_wp2
      go_ret
      exact ⟨b, rfl, HT.out, hold⟩
end Go.Proofs.YtedlofpgddjpgaaGreat

namespace Go.Proofs.YtedlofpgddjpgaaGreat
open Go.RowKit
set_option maxRecDepth 100000 in
set_option maxHeartbeats 1000000 in
theorem implPlain_any (t : List Nd) (m : Nat) (HM : Hid (t.length = m)) (hm : m ≤ 1048576) (ao : Option Addr) (cap : Nat) (w : World) (hx : Nodes w ao t) :
    Calls Tryz.prog 18 #[.slice ao m cap] w fun e w' => (∃ b : Bool, e = .returned (.bool b) ∧ (b = true ↔ InForm plainOwn plainKids pCode t)) ∧ Below w.heap.size w w' := by
  go_enter Tryz.func18, Tryz.ntmps18
  go_wp2_with fail
  refine (plainDemands_any w).mono ?_
  rintro e w1 ⟨⟨tab, hts, rfl, htab⟩, hb1⟩
  have HF := isInForm_any plainOwn plainKids pCode tab (.func (.func 38) #[] #[]) t m HM hm ao cap w1 (hx.below hb1) htab (isCodeV w1)
  clear htab hx
  go_wp2_with fail
  refine HF.mono ?_
  rintro e w2 ⟨⟨b, rfl, hb⟩, hb2⟩
  have HB : Hid (b = true ↔ InForm plainOwn plainKids pCode t) := hb
  have hbb := Below.step hb1 hb2
  clear HF hb hb1 hb2
  go_wp2
  go_ret
  exact ⟨⟨b, rfl, HB.out⟩, hbb⟩
end Go.Proofs.YtedlofpgddjpgaaGreat

namespace Go.Proofs.YtedlofpgddjpgaaGreat
open Go.RowKit
theorem one_of_raw {t : List Nd} (h : rawDeep t ≠ 0) : 0 < t.length ∧ ∃ S ys, after t t.length = some (S, ys) ∧ S.length = 1 := by
  obtain ⟨h0, S, ys, hA⟩ := raw_after h
  refine ⟨h0, S, ys, hA, ?_⟩
  obtain ⟨s, hs, hd, -, -, -⟩ := raw_some rfl h0 hA
  have hf := after_fine hA
  have hfr : s.fr = 0 := by
    by_cases e : s.fr = 0
    · exact e
    · rw [hd, if_neg e] at h
      exact absurd rfl h
  have hc := hf.chain
  have hS0 : 0 < S.length := by
    rcases Nat.eq_zero_or_pos S.length with e | e
    · have := hc.2.2.2 e; omega
    · exact e
  obtain ⟨c1, c2⟩ := hc.2.2.1 hS0
  have hm := hf.mem (S.length - 1) (by omega)
  have er : (S[S.length - 1]'(by omega)).rt = t.length - 1 := by omega
  rw [er, hs] at hm
  simp only [Option.some.injEq] at hm
  rcases Nat.lt_or_ge 1 S.length with h1 | h1
  · have h9 := hc.2.1 (S.length - 2) (by omega)
    have e2 : S.length - 2 + 1 = S.length - 1 := by omega
    simp only [e2] at h9
    rw [← hm, hfr] at h9
    omega
  · omega
set_option maxRecDepth 20000 in
set_option maxHeartbeats 1000000 in
theorem treeOf_any (w : World) (t : List Nd) (m : Nat) (HM : Hid (t.length = m)) (hm : m ≤ 60000) (hm0 : 0 < m) (S ys : List Sp) (HA : Hid (after t m = some (S, ys))) (hS1 : S.length = 1) (ao : Option Addr) (cap : Nat) (hx : Nodes w ao t) :
    Calls Tryz.prog 20 #[.slice ao m cap] w fun e w' => ∃ b, e = .returned (.pointer (some ⟨b, 0, none⟩)) ∧ TreeAt t w' (fun q => w.heap.size ≤ q) b (m - 1) ∧ Below w.heap.size w w' := by
  have HF := foldK_any w t m HM hm hm0 S ys HA hS1 ao cap hx
  clear hx hS1
  go_enter Tryz.func20, Tryz.ntmps20
  go_wp2_with fail
  refine HF.mono ?_
  rintro e w1 ⟨b, rfl, hT, b1⟩
  have HT : Hid (TreeAt t w1 (fun q => w.heap.size ≤ q) b (m - 1)) := hT
  clear HF hT
  go_wp2
  go_ret
  exact ⟨b, rfl, HT.out, b1⟩
end Go.Proofs.YtedlofpgddjpgaaGreat

import Derived.Test.YtemancdlnakkmaaGreatWBX
import Derived.Test.YtemancdlnakkmaaGreatWBK
import Derived.Test.YtemancdlnakkmaaGreatWBJ
import Derived.Test.YtemancdlnakkmaaGreatLPt
import Derived.Test.YtemancdlnakkmaaGreatWBM
namespace Go.Proofs.YtemancdlnakkmaaGreat
open Go.RowKit Go.Maps
def ApC (A : Nat → Prop) (T : Tre) : Prop := ∀ (b g c l : Nat) (out : List Nd) (w : World), PRep w A T b → OwnN w 0 g c l out → l + szT T ≤ 1000000000 → ¬ A g → (∀ q, A q → q < w.heap.size) → Calls Tryz.prog 37 #[.pointer (some ⟨b, 0, none⟩), .slice (some ⟨g, 0, none⟩) l c] w fun e w' => ∃ g' c', e = .returned (.slice (some ⟨g', 0, none⟩) (l + szT T) c') ∧ OwnN w' 0 g' c' (l + szT T) (out ++ outT T) ∧ ¬ A g' ∧ But (fun p => ¬ A p) w w'
theorem OwnN.lenL {w : World} {B g c l : Nat} {out : List Nd} (h : OwnN w B g c l out) : out.length = l := h.1
set_option maxRecDepth 20000 in
set_option maxHeartbeats 4000000 in
theorem append_any (A : Nat → Prop) (T : Tre) : ApC A T := by
  refine Tre.ind (p := ApC A) ?_ T
  intro n ks ih b g c l out w hR hO hs hAg hBw
  obtain ⟨hbB, so, sc, hblk, -, hsc, hq6, bs, h4⟩ := hR.opened
  obtain ⟨c0, c1, c2, c3, c4, c5⟩ := nine hblk
  obtain ⟨i0, hi, hz0, hz1, hz2⟩ := info_parts Tryz.infoN
  have lb : b < w.heap.size := lt_of_cell c0
  obtain ⟨q, hq⟩ : ∃ q, ks.length = q := ⟨_, rfl⟩
  have HQ : Hid (ks.length = q) := hq
  have hsz := szT_eq n ks
  have HSZ : Hid (szT (.mk n ks) = (ks.map szT).sum + 1) := hsz
  have HCK : Hid (∀ j (hj : j < q), ∃ gp, so = some ⟨gp, 0, none⟩ ∧ (∀ W, But (fun p => ¬ A p) w W → W.cell? ⟨gp, j, none⟩ = some (.pointer (some ⟨bs j, 0, none⟩))) ∧ ∀ (W : World) (g1 c1 l1 : Nat), But (fun p => ¬ A p) w W → OwnN W 0 g1 c1 l1 (out ++ ((ks.take j).map outT).flatten) → ¬ A g1 → Calls Tryz.prog 37 #[.pointer (some ⟨bs j, 0, none⟩), .slice (some ⟨g1, 0, none⟩) l1 c1] W fun e w' => ∃ g' c' l', e = .returned (.slice (some ⟨g', 0, none⟩) l' c') ∧ OwnN w' 0 g' c' l' (out ++ ((ks.take (j + 1)).map outT).flatten) ∧ But (fun p => ¬ A p) w w' ∧ ¬ A g') := by
    intro j hj
    have hj9 : j < ks.length := by omega
    obtain ⟨gp, e, hgp, hcp, hrp⟩ := h4 j hj9
    refine ⟨gp, e, fun W hW => hW.cellL hcp (fun h => h hgp), fun W g1 c1 l1 hW hO1 hB1 => ?_⟩
    have ek : ((ks.take (j + 1)).map outT).flatten = ((ks.take j).map outT).flatten ++ outT ks[j] := by
      rw [← List.take_append_getElem hj9, List.map_append, List.flatten_append]
      simp
    have e8 := take_sum ks (j + 1)
    rw [← List.take_append_getElem hj9, List.map_append, List.sum_append] at e8
    have e7 : (List.map szT [ks[j]]).sum = szT ks[j] := by simp
    have e6 : ((ks.take j).map outT).flatten.length = ((ks.take j).map szT).sum := by
      rw [List.length_flatten, List.map_map]
      rfl
    have e5 := hO1.lenL
    have e4 := hO.lenL
    rw [List.length_append, e6] at e5
    refine (ih ks[j] (List.getElem_mem hj9) (bs j) g1 c1 l1 _ W (hrp.but hW (fun q hq hn => hn hq) (fun q hq _ => hq)) hO1 (by omega) hB1 (fun q hq => Nat.lt_of_lt_of_le (hBw q hq) hW.size)).mono ?_
    rintro e w' ⟨g', c', rfl, h1, h3, h2⟩
    refine ⟨g', c', _, rfl, ?_, hW.trans h2, h3⟩
    rw [ek, ← List.append_assoc]
    exact h1
  have HFIN : Hid (∀ (W : World) (g1 c1 l1 : Nat), OwnN W 0 g1 c1 l1 (out ++ ((ks.take q).map outT).flatten) → l1 + 1 = l + szT (.mk n ks) ∧ l1 + 1 ≤ 1000000000) := by
    intro W g1 c1 l1 h1
    have e5 := h1.lenL
    have e4 := hO.lenL
    have e6 : ((ks.take q).map outT).flatten.length = (ks.map szT).sum := by
      rw [List.take_of_length_le (by omega), List.length_flatten, List.map_map]
      rfl
    rw [List.length_append, e6] at e5
    omega
  have HOU : Hid (outT (.mk n ks) = ((ks.take q).map outT).flatten ++ [n]) := by
    show _ = _
    rw [outT_eq, List.take_of_length_le (by omega)]
  have HST : Hid (OwnN w 0 g c l (out ++ ((ks.take 0).map outT).flatten)) := by
    show OwnN _ _ _ _ _ _
    simpa using hO
  have hg0 := owns_block hO.2
  rw [hq] at c5 hsc hq6
  obtain ⟨kd, nm, tx, kk, pl⟩ := n
  simp only at c0 c1 c2 c3 c4 c5
  have HC5 : Hid (∀ W, But (fun p => ¬ A p) w W → W.cell? ⟨b, 0, none⟩ = some (.int .i64 kd) ∧ W.cell? ⟨b, 1, none⟩ = some (.int .i64 nm) ∧ W.cell? ⟨b, 2, none⟩ = some (.string tx) ∧ W.cell? ⟨b, 3, none⟩ = some (.int .i64 kk) ∧ W.cell? ⟨b, 4, none⟩ = some (.int .i64 pl)) := fun W hW => ⟨hW.cellL c0 (fun h => h hbB), hW.cellL c1 (fun h => h hbB), hW.cellL c2 (fun h => h hbB), hW.cellL c3 (fun h => h hbB), hW.cellL c4 (fun h => h hbB)⟩
  clear ih hR hblk h4 hq hsz hs c0 c1 c2 c3 c4 hO
  go_enter Tryz.func37, Tryz.ntmps37
  go_wp2
  go_loopw [1, 12] (fun vo vi wr => ∃ (j g1 c1 l1 : Nat), j ≤ q ∧ vi = .int .i64 (j : Int) ∧ vo = .slice (some ⟨g1, 0, none⟩) l1 c1 ∧ OwnN wr 0 g1 c1 l1 (out ++ ((ks.take j).map outT).flatten) ∧ But (fun p => ¬ A p) w wr ∧ ¬ A g1) (fun _ vi _ => q - (intOf vi).toNat)
  case atStart => exact ⟨0, g, c, l, Nat.zero_le _, rfl, rfl, HST.out, But.refl _ _, hAg⟩
  case round =>
    clear c5 hg0
    obtain ⟨j, g1, c1, l1, hj, rfl, rfl, hO1, hb1, hB1⟩ := hrel
    by_cases hlt : j < q
    · obtain ⟨gp, rfl, hc, hcall⟩ := HCK.out j hlt
      have hc1 := hc wr hb1
      have lgp := lt_of_cell hc1
      have hcl := hcall wr g1 c1 l1 hb1 hO1 hB1
      clear hc hcall hO1
      go_wp2_with fail
      refine hcl.mono ?_
      rintro e w3 ⟨g3, c3, l3, rfl, hO3, hb3, hB3⟩
      clear hcl hc1
      go_wp2
      go_roundw
      case rel => exact ⟨j + 1, g3, c3, l3, by omega, by go_num, rfl, hO3, hb3, hB3⟩
      case measure => simp [intOf]; omega
    · obtain rfl : j = q := by omega
      obtain ⟨hl1, hl2⟩ := HFIN.out wr g1 c1 l1 hO1
      obtain ⟨Z, hZ⟩ : ∃ Z, ((ks.take j).map outT).flatten = Z := ⟨_, rfl⟩
      rw [hZ] at hO1 HOU
      have HL1 : Hid (l1 + 1 = l + szT (.mk ⟨kd, nm, tx, kk, pl⟩ ks)) := hl1
      obtain ⟨d0, d1, d2, d3, d4⟩ := HC5.out wr hb1
      have ld := lt_of_cell d0
      have hob := owns_block hO1.2
      have hlen := hO1.lenL
      have hown3 := hO1.alloc (.cells #[.int .i64 kd, .int .i64 nm, .string tx, .int .i64 kk, .int .i64 pl] 34)
      have hb3 := hb1.trans (But.ofBelow ((Below.refl wr.heap.size wr).alloc (Nat.le_refl _) (.cells #[.int .i64 kd, .int .i64 nm, .string tx, .int .i64 kk, .int .i64 pl] 34)))
      have hcells := nd_new_cells wr ⟨kd, nm, tx, kk, pl⟩
      clear hl1 HCK HST HC5 HFIN hO1 hZ
      go_wp2_with (at_builtin; refine wpList_append2 _ rfl (.tmp 20) (.tmp 25) 24 rfl 0 34 i0 _ 5 48 Tryz.underlying24 hi hz0 hz1 hz2 rfl (by decide) g1 l1 c1 _ rfl hown3.2 ⟨_, 0, none⟩ 1 1 (Nd.row ⟨kd, nm, tx, kk, pl⟩) rfl rfl hcells (nd_row_one _) ?a3 ?a4 ?a5 ?_)
      case a3 => unfold maxLen; omega
      case a4 => omega
      intro g2 c2 w2 hown4 hgrow2 hwh
      have hO4 := OwnN.push hown4 hown3.1 rfl
      have hbb : But (fun p => ¬ A p) w w2 := hb3.trans ((But.ofGrown hgrow2).mono (fun p hp hA => hB1 (hp ▸ hA)))
      have hA2 : ¬ A g2 := by
        rcases hwh with e | e
        · rw [e]; exact hB1
        · intro hA9
          have h9 := hBw _ hA9
          have h8 := hb1.size
          rw [e] at h9
          omega
      clear hown4 hgrow2 hwh hown3 hb3 hcells d0 d1 d2 d3 d4
      have HO4 : Hid (OwnN w2 0 g2 c2 (l1 + 1) (out ++ outT (.mk ⟨kd, nm, tx, kk, pl⟩ ks))) := by
        show OwnN _ _ _ _ _ _
        rw [HOU.out, ← List.append_assoc]
        exact hO4
      clear hO4
      go_wp2
      go_ret
      rw [← HL1.out]
      exact ⟨g2, c2, rfl, HO4.out, hA2, hbb⟩
theorem treT_rep {t : List Nd} {S ys : List Sp} {m : Nat} (h : after t m = some (S, ys)) {w : World} {A : Nat → Prop} (hPL : ∀ f i, i < f → i < m → PlT (treT t f i)) : ∀ (f i b : Nat), i < f → i < m → TreeAt t w A b i → PRep w A (treT t f i) b := by
  intro f
  induction f with
  | zero => intro i b h1; omega
  | succ f ih =>
    intro i b h1 h2 hT
    have hlen := (hPL (f + 1) i h1 h2).node.len
    obtain ⟨bs, g, c, cur, hA, hG, blk, row, cells, cap, len, kids⟩ := hT.inv
    have hl : ((kidsRt t i).map (treT t f)).length = bs.length := by rw [List.length_map]; exact len.symm
    refine .mk (ndAt t i) ((kidsRt t i).map (treT t f)) b (some ⟨g, 0, none⟩, bs.length, c) (fun j => bs.getD j 0) hA hl.symm (by rw [hl]; exact cap) hlen blk (fun j hj => ?_) (fun j hj => ?_)
    · have hj2 : j < bs.length := by omega
      refine ⟨g, rfl, hG, ?_⟩
      rw [cell_of_row _ _ _ _ _ _ row, cells j hj2]
      simp [hj2]
    · have hj2 : j < bs.length := by omega
      have hj3 : j < (kidsRt t i).length := by omega
      have hk := kids j hj2 hj3
      have hlt := kidsRt_lt h h2 _ (List.getElem_mem hj3)
      have e1 : bs.getD j 0 = bs[j] := by simp [hj2]
      have e2 : ((kidsRt t i).map (treT t f))[j] = treT t f (kidsRt t i)[j] := by simp
      rw [e1, e2]
      exact ih _ _ (by omega) (by omega) hk
def CntN (w : World) (b : Nat) (n : Nat) (f : Int → Nat) : Prop := ∃ D : DataW Unit, w.ownsMap Tryz.prog 2 (plainElem Tryz.prog 3) b n D ∧ Tidy D ∧ ∀ x : Int, 1 ≤ x → D.atKey (.int .i64 x) (.lit (.int .i64 0)) = .lit (.int .i64 (f x : Int))
theorem CntN.cnt {w : World} {b n : Nat} {f : Int → Nat} (h : CntN w b n f) : CntM w b f := by
  obtain ⟨D, h1, -, h2⟩ := h
  exact ⟨n, D, h1, h2⟩
theorem CntN.but {S : Nat → Prop} {w w' : World} {b n : Nat} {f : Int → Nat} (h : CntN w b n f) (hb : But S w w') (hn : ¬ S b) : CntN w' b n f := by
  obtain ⟨D, h1, h2, h3⟩ := h
  exact ⟨D, ownsL_but h1 hb hn, h2, h3⟩
theorem CntN.inc {w : World} {b n : Nat} {f : Int → Nat} (h : CntN w b n f) (hn : n < maxLen) {x : Int} (hx : (Lit.int .i64 x).wf = true) (hf : (Lit.int .i64 ((f x : Int) + 1)).wf = true) :
    ∃ w', (Instr.mapUpdate 61 (.map (some b)) (.int .i64 x) (.int .i64 ((f x : Int) + 1))).run Tryz.prog w = .ok () w' ∧ CntN w' b (n + 1) (fun y => if y = x then f x + 1 else f y) ∧ But (fun p => p = b) w w' := by
  have hkl : ∀ z : Int, WideAt.IsKeyLit (.int .i64 z) := fun _ => trivial
  obtain ⟨D, h1, h2, h3⟩ := h
  obtain ⟨w', hr, ho, hg⟩ := h1.update Tryz.law2L Tryz.underlying61 hn (Tryz.keyL x hx) (val := .int .i64 ((f x : Int) + 1)) (d := .lit (.int .i64 ((f x : Int) + 1))) (ps := []) (plainElem_int Tryz.underlying3 hf)
  refine ⟨w', hr, ⟨D.put (.int .i64 x) (.lit (.int .i64 ((f x : Int) + 1))), ho, h2.put (hkl x) _, fun y hy => ?_⟩, But.ofGrown hg⟩
  by_cases e : y = x
  · subst e
    rw [atKey_put_same h2.isMap (hkl y)]
    simp
  · rw [atKey_put_other (fun h => e (by simpa using h)), h3 y hy]
    simp [e]
structure LesN (L : LesAt) (t : List Nd) (w : World) (k n1 n2 : Nat) : Prop where
  c0 : w.cell? ⟨L.lb, 0, none⟩ = some (.map (some L.m1))
  c1 : w.cell? ⟨L.lb, 1, none⟩ = some (.map (some L.m2))
  c2 : w.cell? ⟨L.lb, 2, none⟩ = some (.map (some L.m3))
  mb : CntN w L.m1 n1 (cntK bndK (t.take k))
  mu : CntN w L.m2 n2 (cntK (· == 70) (t.take k))
  ma : w.ownsMap Tryz.prog 2 heldPL L.m3 0 (.map [])
  apart : L.lb ≠ L.m1 ∧ L.lb ≠ L.m2 ∧ L.lb ≠ L.m3 ∧ L.m1 ≠ L.m2 ∧ L.m1 ≠ L.m3 ∧ L.m2 ≠ L.m3
  n1k : n1 ≤ k
  n2k : n2 ≤ k
theorem LesN.les {L : LesAt} {t : List Nd} {w : World} {n1 n2 : Nat} (h : LesN L t w t.length n1 n2) {A : Nat → Prop} (hA : ∀ q, A q → q ≠ L.m3) : LesS L (cntK bndK t) (cntK (· == 70) t) w A 0 (fun _ => none) := by
  have h1 := h.mb.cnt
  have h2 := h.mu.cnt
  rw [List.take_length] at h1 h2
  obtain ⟨a1, a2, a3, a4, a5, a6⟩ := h.apart
  exact ⟨h.c0, h.c1, h.c2, h1, h2, ⟨.map [], fun _ => none, h.ma, tidy_empty, fun x => ⟨rfl, rfl, fun T b h9 => by cases h9⟩⟩, ⟨a3, a5, a6⟩, hA⟩
theorem LesN.under {L : LesAt} {t : List Nd} {w w' : World} {k n1 n2 : Nat} (h : LesN L t w k n1 n2) (hb : Below w.heap.size w w') : LesN L t w' k n1 n2 := by
  have hbt := But.ofBelow (S := fun _ => False) hb
  exact ⟨hbt.cellL h.c0 (fun h => h), hbt.cellL h.c1 (fun h => h), hbt.cellL h.c2 (fun h => h), h.mb.but hbt (fun h => h), h.mu.but hbt (fun h => h), ownsL_but h.ma hbt (fun h => h), h.apart, h.n1k, h.n2k⟩
theorem CntN.congr {w : World} {b n : Nat} {f f' : Int → Nat} (h : CntN w b n f) (e : ∀ x, 1 ≤ x → f x = f' x) : CntN w b n f' := by
  obtain ⟨D, h1, h2, h3⟩ := h
  exact ⟨D, h1, h2, fun x hx => by rw [h3 x hx, e x hx]⟩
theorem LesN.bound {L : LesAt} {t : List Nd} {w : World} {k n1 n2 : Nat} (h : LesN L t w k n1 n2) (hk : k < t.length) (hl : t.length ≤ 1048576) (hb : bndK t[k].kind = true) (h1 : 1 ≤ t[k].num) (hx : (Lit.int .i64 t[k].num).wf = true) :
    ∃ w', (Instr.mapUpdate 61 (.map (some L.m1)) (.int .i64 t[k].num) (.int .i64 ((cntK bndK (t.take k) t[k].num : Int) + 1))).run Tryz.prog w = .ok () w' ∧ LesN L t w' (k + 1) (n1 + 1) n2 ∧ But (fun p => p = L.m1) w w' := by
  have hn1 := h.n1k
  have hn2 := h.n2k
  have hc := cntK_le bndK (t.take k) t[k].num
  have hc2 : (t.take k).length ≤ t.length := by rw [List.length_take]; omega
  obtain ⟨w', hr, hm, hbt⟩ := h.mb.inc (by unfold maxLen; omega) hx (by simp only [Lit.wf, Bool.and_eq_true, decide_eq_true_eq]; exact ⟨by show (-9223372036854775808 : Int) ≤ _; omega, by show _ ≤ (9223372036854775807 : Int); omega⟩)
  have ek : t.take (k + 1) = t.take k ++ [t[k]] := by rw [List.take_append_getElem hk]
  obtain ⟨a1, a2, a3, a4, a5, a6⟩ := h.apart
  have h70 : (t[k].kind == 70) = false := by
    rw [beq_eq_false_iff_ne]
    intro e
    rw [e] at hb
    cases hb
  refine ⟨w', hr, ⟨hbt.cellL h.c0 a1, hbt.cellL h.c1 a1, hbt.cellL h.c2 a1, ?_, ?_, ownsL_but h.ma hbt (fun e => a5 e.symm), h.apart, by omega, by omega⟩, hbt⟩
  · refine hm.congr (fun x h9 => ?_)
    rw [ek, cntK_push]
    by_cases e : x = t[k].num
    · subst e
      simp [hb, h1]
    · have e2 : ¬ t[k].num = x := fun h => e h.symm
      simp [e, e2]
  · refine (h.mu.but hbt (fun e => a4 e.symm)).congr (fun x h9 => ?_)
    rw [ek, cntK_push]
    simp [h70]
theorem LesN.used {L : LesAt} {t : List Nd} {w : World} {k n1 n2 : Nat} (h : LesN L t w k n1 n2) (hk : k < t.length) (hl : t.length ≤ 1048576) (hb : t[k].kind = 70) (h1 : 1 ≤ t[k].num) (hx : (Lit.int .i64 t[k].num).wf = true) :
    ∃ w', (Instr.mapUpdate 61 (.map (some L.m2)) (.int .i64 t[k].num) (.int .i64 ((cntK (· == 70) (t.take k) t[k].num : Int) + 1))).run Tryz.prog w = .ok () w' ∧ LesN L t w' (k + 1) n1 (n2 + 1) ∧ But (fun p => p = L.m2) w w' := by
  have hn1 := h.n1k
  have hn2 := h.n2k
  have hc := cntK_le (· == 70) (t.take k) t[k].num
  have hc2 : (t.take k).length ≤ t.length := by rw [List.length_take]; omega
  obtain ⟨w', hr, hm, hbt⟩ := h.mu.inc (by unfold maxLen; omega) hx (by simp only [Lit.wf, Bool.and_eq_true, decide_eq_true_eq]; exact ⟨by show (-9223372036854775808 : Int) ≤ _; omega, by show _ ≤ (9223372036854775807 : Int); omega⟩)
  have ek : t.take (k + 1) = t.take k ++ [t[k]] := by rw [List.take_append_getElem hk]
  obtain ⟨a1, a2, a3, a4, a5, a6⟩ := h.apart
  have hnb : bndK t[k].kind = false := by rw [hb]; rfl
  refine ⟨w', hr, ⟨hbt.cellL h.c0 a2, hbt.cellL h.c1 a2, hbt.cellL h.c2 a2, ?_, ?_, ownsL_but h.ma hbt (fun e => a6 e.symm), h.apart, by omega, by omega⟩, hbt⟩
  · refine (h.mb.but hbt (fun e => a4 e)).congr (fun x h9 => ?_)
    rw [ek, cntK_push]
    simp [hnb]
  · refine hm.congr (fun x h9 => ?_)
    rw [ek, cntK_push]
    by_cases e : x = t[k].num
    · subst e
      simp [hb, h1]
    · have e2 : ¬ t[k].num = x := fun h => e h.symm
      simp [e, e2]
theorem LesN.skip {L : LesAt} {t : List Nd} {w : World} {k n1 n2 : Nat} (h : LesN L t w k n1 n2) (hk : k < t.length) (hb : bndK t[k].kind = false) (h7 : t[k].kind ≠ 70) : LesN L t w (k + 1) n1 n2 := by
  have hn1 := h.n1k
  have hn2 := h.n2k
  have ek : t.take (k + 1) = t.take k ++ [t[k]] := by rw [List.take_append_getElem hk]
  have h70 : (t[k].kind == 70) = false := beq_eq_false_iff_ne.2 h7
  refine ⟨h.c0, h.c1, h.c2, h.mb.congr (fun x h9 => ?_), h.mu.congr (fun x h9 => ?_), h.ma, h.apart, by omega, by omega⟩
  · rw [ek, cntK_push]
    simp [hb]
  · rw [ek, cntK_push]
    simp [h70]
theorem LesN.start (w : World) (t : List Nd) : LesN ⟨w.heap.size + 3, w.heap.size, w.heap.size + 1, w.heap.size + 2⟩ t ((((w.alloc (.map #[] 0)).alloc (.map #[] 0)).alloc (.map #[] 0)).alloc (.cells #[.map (some w.heap.size), .map (some (w.heap.size + 1)), .map (some (w.heap.size + 2))] 64)) 0 0 0 := by
  have r := heap_alloc_new (((w.alloc (.map #[] 0)).alloc (.map #[] 0)).alloc (.map #[] 0)) (.cells #[.map (some w.heap.size), .map (some (w.heap.size + 1)), .map (some (w.heap.size + 2))] 64)
  simp only [World.size_alloc] at r
  have z0 : ∀ (p : Int → Bool) (x : Int), cntK p (t.take 0) x = 0 := fun p x => by unfold cntK; split <;> simp
  have m0 : ∀ W : World, (W.alloc (.map #[] 0)).ownsMap Tryz.prog 2 (plainElem (H := Unit) Tryz.prog 3) W.heap.size 0 (.map []) := fun W => World.ownsMap_made _ _ _ _
  have m1 : ∀ W : World, (W.alloc (.map #[] 0)).ownsMap Tryz.prog 2 heldPL W.heap.size 0 (.map []) := fun W => World.ownsMap_made _ _ _ _
  have up : ∀ {H : Type} {W : World} {R : Value → Option (DataW H × List MemPlace)} {b : Nat} {D : DataW H} (o : Obj), W.ownsMap Tryz.prog 2 R b 0 D → (W.alloc o).ownsMap Tryz.prog 2 R b 0 D := fun o h => ownsL_but h (But.ofBelow (S := fun _ => False) ((Below.refl _ _).alloc (Nat.le_refl _) o)) (fun h => h)
  have a1 := up (.cells #[.map (some w.heap.size), .map (some (w.heap.size + 1)), .map (some (w.heap.size + 2))] 64) (up (.map #[] 0) (up (.map #[] 0) (m0 w)))
  have a2 := up (.cells #[.map (some w.heap.size), .map (some (w.heap.size + 1)), .map (some (w.heap.size + 2))] 64) (up (.map #[] 0) (m0 (w.alloc (.map #[] 0))))
  have a3 := up (.cells #[.map (some w.heap.size), .map (some (w.heap.size + 1)), .map (some (w.heap.size + 2))] 64) (m1 ((w.alloc (.map #[] 0)).alloc (.map #[] 0)))
  simp only [World.size_alloc] at a2 a3
  refine ⟨by rw [cell_of_row _ _ _ _ _ _ r]; rfl, by rw [cell_of_row _ _ _ _ _ _ r]; rfl, by rw [cell_of_row _ _ _ _ _ _ r]; rfl, ⟨.map [], a1, tidy_empty, fun x _ => by rw [z0]; rfl⟩, ⟨.map [], a2, tidy_empty, fun x _ => by rw [z0]; rfl⟩, a3, ⟨by simp, by simp, by simp, by simp, by simp, by simp⟩, by omega, by omega⟩
theorem Tryz.mk37 (W : World) : (Instr.makeMap 61 none).run Tryz.prog W = .ok (.map (some W.heap.size)) (W.alloc (.map #[] 0)) := by kernel_rfl
theorem Tryz.mk38 (W : World) : (Instr.makeMap 62 none).run Tryz.prog W = .ok (.map (some W.heap.size)) (W.alloc (.map #[] 0)) := by kernel_rfl
theorem OwnN.lift {w : World} {B g c l : Nat} {zs : List Nd} (h : OwnN w 0 g c l zs) (hb : B ≤ g) : OwnN w B g c l zs := by
  obtain ⟨h1, h2, h3⟩ := h
  refine ⟨h1, h2, ?_⟩
  rcases h3 with h3 | ⟨g', cap, cur, e, h4, h5⟩
  · exact Or.inl h3
  · have e2 : g = g' := by
      simp only [Value.slice.injEq, Option.some.injEq, Addr.mk.injEq, and_true] at e
      exact e.1
    exact Or.inr ⟨g', cap, cur, e, by omega, h5⟩
theorem lesTree (t : List Nd) (m : Nat) (HM : Hid (t.length = m)) (hP : PlainS t) (htx : ∀ x ∈ t, x.text.size ≤ 1048576 ∧ (Lit.int .i64 x.num).wf = true) (ao : Option Addr) (cap : Nat) (W : World) (hx : Nodes W ao t) :
    Calls Tryz.prog 36 #[.slice ao m cap] W fun e w' => ∃ b, e = .returned (.pointer (some ⟨b, 0, none⟩)) ∧ PRep w' (fun q => W.heap.size ≤ q) (treT t m (m - 1)) b ∧ Below W.heap.size W w' := by
  obtain ⟨h0, S, ys, hA, hS⟩ := one_of_raw hP.2.1
  rw [HM.out] at hA
  have hm6 : m ≤ 60000 := by have := hP.1; have := HM.out; omega
  have hm0 : 0 < m := by have := HM.out; omega
  refine (treeOf_any W t m HM hm6 hm0 S ys hA hS ao cap hx).mono ?_
  rintro e w' ⟨b, rfl, hT, hb⟩
  exact ⟨b, rfl, treT_rep hA (plain_tree HM.out hA hP htx) m (m - 1) b (by omega) (by omega) hT, hb⟩
def lesT (t : List Nd) (m : Nat) : Tre := (lessT (cntK bndK t) (cntK (· == 70) t) (treT t m (m - 1)) (fun _ => none)).1
theorem lesT_facts {t : List Nd} {m : Nat} (HM : t.length = m) (hP : PlainS t) (htx : ∀ x ∈ t, x.text.size ≤ 1048576 ∧ (Lit.int .i64 x.num).wf = true) : PlT (treT t m (m - 1)) ∧ szT (treT t m (m - 1)) = m ∧ szT (lesT t m) ≤ m := by
  obtain ⟨h0, S, ys, hA, hS⟩ := one_of_raw hP.2.1
  rw [HM] at hA h0
  have hT := plain_tree HM hA hP htx m (m - 1) (by omega) (by omega)
  have hR := tree_root HM hA hS h0
  have hk := (less_kept (cntK bndK t) (cntK (· == 70) t) (treT t m (m - 1)) (fun _ => none) hT (fun x V h9 => by cases h9)).1
  have e : szT (treT t m (m - 1)) = m := by unfold szT; rw [hR, HM]
  refine ⟨hT, e, ?_⟩
  have h9 := hk.le
  unfold szT at e
  rw [e] at h9
  exact h9
theorem lesWrite (t : List Nd) (m : Nat) (HM : Hid (t.length = m)) (hP : PlainS t) (htx : ∀ x ∈ t, x.text.size ≤ 1048576 ∧ (Lit.int .i64 x.num).wf = true) (L : LesAt) (n1 n2 : Nat) (wr : World) (hL : LesN L t wr m n1 n2) (hl3 : L.m3 < wr.heap.size) (W : World) (hW : Below wr.heap.size wr W) (A : Nat → Prop) (b : Nat) (hR : PRep W A (treT t m (m - 1)) b) (hA1 : ∀ q, A q → wr.heap.size ≤ q) (hA2 : ∀ q, W.heap.size ≤ q → A q) :
    Calls Tryz.prog 35 #[.pointer (some ⟨L.lb, 0, none⟩), .pointer (some ⟨b, 0, none⟩)] W fun e w' => ∃ b', e = .returned (.pointer (some ⟨b', 0, none⟩)) ∧ PRep w' A (lesT t m) b' ∧ But (fun p => p = L.m3) W w' := by
  obtain ⟨hT, hsz, -⟩ := lesT_facts HM.out hP htx
  have hout : ∀ q, A q → q ≠ L.m3 := fun q hq => by have := hA1 q hq; omega
  have hm6 : m ≤ 60000 := by have := hP.1; have := HM.out; omega
  have hL2 : LesN L t wr t.length n1 n2 := by rw [HM.out]; exact hL
  have hS := (hL2.les hout).under hW (fun q hq _ => hq) hout
  refine (write_any L (cntK bndK t) (cntK (· == 70) t) (treT t m (m - 1)) b A W 0 (fun _ => none) hT (fun x V h9 => by cases h9) hS hR hA2 (by omega)).mono ?_
  rintro e w' h
  obtain ⟨b', m', rfl, h1, -, -, h4⟩ := h.out
  exact ⟨b', rfl, h1, h4⟩
theorem lesApp (t : List Nd) (m : Nat) (HM : Hid (t.length = m)) (hP : PlainS t) (htx : ∀ x ∈ t, x.text.size ≤ 1048576 ∧ (Lit.int .i64 x.num).wf = true) (w W : World) (hB : Below w.heap.size w W) (A : Nat → Prop) (b G c : Nat) (hR : PRep W A (lesT t m) b) (hG : w.heap.size ≤ G) (hAG : ¬ A G) (hO : OwnN W 0 G c 0 []) :
    Calls Tryz.prog 37 #[.pointer (some ⟨b, 0, none⟩), .slice (some ⟨G, 0, none⟩) 0 c] W fun e w' => ∃ g' c' l', e = .returned (.slice (some ⟨g', 0, none⟩) l' c') ∧ OwnN w' w.heap.size g' c' l' (lessL t m) ∧ Below w.heap.size w w' := by
  obtain ⟨-, -, hsz⟩ := lesT_facts HM.out hP htx
  have hm6 : m ≤ 60000 := by have := hP.1; have := HM.out; omega
  have hR2 := hR.wide (A' := fun q => q < W.heap.size ∧ q ≠ G) (fun q hq hl => ⟨hl, fun e => hAG (e ▸ hq)⟩)
  refine (append_any (fun q => q < W.heap.size ∧ q ≠ G) (lesT t m) b G c 0 [] W hR2 hO (by omega) (fun h => h.2 rfl) (fun q hq => hq.1)).mono ?_
  rintro e w' ⟨g', c', rfl, hO', hA', hb'⟩
  have hsw := hB.size
  have hg' : w.heap.size ≤ g' := by
    by_cases e : g' = G
    · omega
    · by_cases e2 : g' < W.heap.size
      · exact absurd ⟨e2, e⟩ hA'
      · omega
  refine ⟨g', c', _, rfl, ?_, hB.trans (hb'.below hB.size (fun q hq => ?_))⟩
  · rw [List.nil_append] at hO'
    exact hO'.lift hg'
  · by_cases e : q = G
    · omega
    · by_cases e2 : q < W.heap.size
      · exact absurd ⟨e2, e⟩ hq
      · omega
end Go.Proofs.YtemancdlnakkmaaGreat


import Derived.Test.YtocidoamfofefaaILev
namespace Go.Proofs.Ytocidoamfofefaa
open Go.RowKit Go.Shelf Go.Maps
attribute [local go_sem] Oper.semAt_some

/-- What the loop of levelsOf keeps: z the place of its map, l TAlls are behind it. -/
structure LRnd (w : World) (z : Nat) (ao : Option Addr) (q cap : Nat) (t : List Nd) (l : Nat) (W : World) : Prop where
  len : l ≤ q
  kinds : ∀ j, j < l → (ndAt t (t.length - 1 - j)).kind = 62
  nd : (bkL t l).Nodup
  own : ∃ D : DataW Unit, W.ownsMap Try.prog 2 (plainElem Try.prog 58) (z + 2) l D ∧ SgD (bkL t l) D
  r0 : W.heap[z]? = some (.cells #[.map none] 54 (0, 0))
  r1 : W.heap[z + 1]? = some (.cells #[.bool false] 4 (0, 0))
  box : W.heap[z + 3]? = some (.cells #[.map (some (z + 2))] 54 (0, 0))
  back : W.heap[z + 4]? = some (.cells #[.slice ao q cap] 25 (0, 0))
  nodes : Nodes W ao t
  below : Below w.heap.size w W

theorem nodes_butS {S : Nat → Prop} {w w' : World} {ao : Option Addr} {t : List Nd} (h : Nodes w ao t) (hb : But S w w') (hs : ∀ b o, ao = some ⟨b, o, none⟩ → 0 < t.length → ¬ S b) : Nodes w' ao t := by
  intro i hi
  obtain ⟨b, o, e, hn⟩ := h i hi
  have hl := lt_of_cell hn.1
  have hns := hs b o e (by omega)
  have hc : ∀ j, w'.cell? ⟨b, j, none⟩ = w.cell? ⟨b, j, none⟩ := by
    intro j
    have h9 := hb.block b hl hns
    simp only [World.cell?, h9]
  exact ⟨b, o, e, (hc _).trans hn.1, (hc _).trans hn.2.1, (hc _).trans hn.2.2.1, (hc _).trans hn.2.2.2.1, (hc _).trans hn.2.2.2.2⟩

theorem LRnd.but {S : Nat → Prop} {w W W' : World} {z : Nat} {ao : Option Addr} {q cap : Nat} {t : List Nd} {l : Nat} (h : LRnd w z ao q cap t l W) (hb : But S W W') (hz : w.heap.size ≤ z) (hs : ∀ k, S k → z + 5 ≤ k) (ha : ∀ b o, ao = some ⟨b, o, none⟩ → 0 < t.length → b < w.heap.size) : LRnd w z ao q cap t l W' := by
  obtain ⟨D, hD, hF⟩ := h.own
  have bl : ∀ j o, j < z + 5 → W.heap[j]? = some o → W'.heap[j]? = some o := fun j o hj hh => (hb.block j (Array.getElem?_eq_some_iff.1 hh).1 (fun h9 => by have := hs _ h9; omega)).trans hh
  refine ⟨h.len, h.kinds, h.nd, ⟨D, ownsS_same hD (hb.block _ hD.lt (fun h9 => by have := hs _ h9; omega)), hF⟩, bl _ _ (by omega) h.r0, bl _ _ (by omega) h.r1, bl _ _ (by omega) h.box, bl _ _ (by omega) h.back, nodes_butS h.nodes hb (fun b o e h0 h9 => by have := hs _ h9; have := ha b o e h0; omega), ?_⟩
  exact h.below.trans (hb.below h.below.size (fun k hk => by have := hs _ hk; omega))

theorem results_cell2 {fn : Func} {a b : Tmp} (h : fn.results = #[.cell a 54, .cell b 4]) (tmps : Array Value) (ad bd : Addr) (hta : tmps[a]?.getD undef = .pointer (some ad)) (htb : tmps[b]?.getD undef = .pointer (some bd)) (w : World) (u v : Value) (hu : w.cell? ad = some u) (hv : w.cell? bd = some v) : (results fn tmps).run Try.prog w = .ok (.tuple #[u, v]) w := by
  have e1 : ∀ w, (isAgg 54).run Try.prog w = .ok false w := fun w => by kernel_rfl
  have e2 : ∀ w, (isAgg 4).run Try.prog w = .ok false w := fun w => by kernel_rfl
  simp [results, h, go_sem, hta, htb, hu, hv, e1, e2]

theorem bkL_get {t : List Nd} {A j : Nat} (h : j < A) : (bkL t A)[j]? = some (ndAt t (t.length - 1 - j)).num := by
  simp [bkL, h]

theorem dup_of {t : List Nd} {l A : Nat} {nm : Int} (hl : l < A) (hs : bkL t (l + 1) = bkL t l ++ [nm]) (h : ¬ lastTo (bkL t l) nm (bkL t l).length = -1) : ¬ (bkL t A).Nodup := by
  intro hn
  rw [lastTo_none] at h
  simp only [Classical.not_forall, Classical.not_not] at h
  obtain ⟨i, hi, he⟩ := h
  have hil : i < l := by rw [bkL_len] at hi; exact hi
  have e1 : (bkL t A)[i]? = some nm := by rw [bkL_get (by omega), ← he, bkL_get hil]
  have e2 : (bkL t A)[l]? = some nm := by
    rw [bkL_get hl]
    have h9 := bkL_get (t := t) (A := l + 1) (j := l) (by omega)
    rw [hs, List.getElem?_append_right (by rw [bkL_len]; omega)] at h9
    rw [← h9]
    simp [bkL_len]
  have h1 : i < (bkL t A).length := by rw [bkL_len]; omega
  have h2 : l < (bkL t A).length := by rw [bkL_len]; omega
  have h3 : (bkL t A)[i] = (bkL t A)[l] := by
    rw [List.getElem?_eq_getElem h1] at e1
    rw [List.getElem?_eq_getElem h2] at e2
    simp only [Option.some.injEq] at e1 e2
    rw [e1, e2]
  exact List.pairwise_iff_getElem.1 hn i l h1 h2 hil h3

set_option maxRecDepth 100000 in
set_option maxHeartbeats 4000000 in
theorem levelsOf_any (t : List Nd) (q : Nat) (HP : Hid (t.length = q)) (hq : q ≤ 60000) (HW : Hid (∀ n ∈ t, (Lit.int .i64 n.num).wf = true)) (A : Nat) (HE : Hid (AllsEnd t A)) (ao : Option Addr) (cap : Nat) (w : World) (hx : Nodes w ao t) :
    Calls Try.prog 40 #[.slice ao q cap] w fun e w' => ((∃ (z : Nat) (D : DataW Unit), e = .returned (.tuple #[.map (some z), .bool true]) ∧ w.heap.size ≤ z ∧ (bkL t A).Nodup ∧ w'.ownsMap Try.prog 2 (plainElem Try.prog 58) z A D ∧ SgD (bkL t A) D) ∨ (e = .returned (.tuple #[.map none, .bool false]) ∧ ¬ (bkL t A).Nodup)) ∧ Below w.heap.size w w' := by
  obtain ⟨n, hn⟩ : ∃ n : Nat, 6 ≤ n := ⟨6, Nat.le_refl _⟩
  refine (callsIn_wide (n := n)).1 ?_
  refine callsIn_of_wp_marks Try.func40 rfl trivial ?_
  simp only [Try.ntmps40, List.size_toArray, List.length_cons, List.length_nil, Nat.reduceAdd, Nat.reduceSub, Array.replicate_succ, Array.replicate_zero, List.push_toArray, List.append_toArray, List.nil_append, List.cons_append]
  have hmm := @run_makeMap Try.prog
  gi_wp2_with fail
  refine ⟨trivial, fun h => (by cases h), callsIn_wide.2 ((backwardN_any _ q _ _).mono ?_)⟩
  rintro e w4 ⟨rfl, rfl⟩
  gi_wp2
  obtain ⟨z, hz⟩ : ∃ z, w.heap.size = z := ⟨_, rfl⟩
  have hT : LRnd w z ao q cap t 0 (((((w.alloc (.cells #[.map none] 54)).alloc (.cells #[.bool false] 4)).alloc (.map #[] 0)).alloc (.cells #[.map (some (z + 2))] 54)).alloc (.cells #[.slice ao q cap] 25)) := by
    subst hz
    have hA : Below w.heap.size w (w.alloc (.cells #[.map none] 54)) := (Below.refl _ w).alloc (Nat.le_refl _) _
    have hB := hA.alloc hA.size (.cells #[.bool false] 4)
    have hC := hB.alloc hB.size (.map #[] 0)
    have hD := hC.alloc hC.size (.cells #[.map (some (w.heap.size + 2))] 54)
    have hF := hD.alloc hD.size (.cells #[.slice ao q cap] 25)
    refine ⟨Nat.zero_le _, fun j hj => absurd hj (Nat.not_lt_zero _), by simp [bkL], ⟨.map [], ?_, SgD.start⟩, ?_, ?_, ?_, ?_, hx.below hF, hF⟩
    · have h9 := ((World.ownsMap_made ((w.alloc (.cells #[.map none] 54)).alloc (.cells #[.bool false] 4)) Try.prog 2 (plainElem (H := Unit) Try.prog 58)).alloc (.cells #[.map (some (w.heap.size + 2))] 54)).alloc (.cells #[.slice ao q cap] 25)
      simpa using h9
    · refine (Below.heap_alloc _ _ _ (by simp; try omega)).trans ((Below.heap_alloc _ _ _ (by simp; try omega)).trans ((Below.heap_alloc _ _ _ (by simp; try omega)).trans ((Below.heap_alloc _ _ _ (by simp)).trans (heap_alloc_new _ _))))
    · have h9 := heap_alloc_new (w.alloc (.cells #[.map none] 54)) (.cells #[.bool false] 4)
      rw [World.size_alloc] at h9
      exact (Below.heap_alloc _ _ _ (by simp; try omega)).trans ((Below.heap_alloc _ _ _ (by simp; try omega)).trans ((Below.heap_alloc _ _ _ (by simp)).trans h9))
    · have h9 := heap_alloc_new (((w.alloc (.cells #[.map none] 54)).alloc (.cells #[.bool false] 4)).alloc (.map #[] 0)) (.cells #[.map (some (w.heap.size + 2))] 54)
      rw [World.size_alloc, World.size_alloc, World.size_alloc] at h9
      exact (Below.heap_alloc _ _ _ (by simp)).trans h9
    · have h9 := heap_alloc_new ((((w.alloc (.cells #[.map none] 54)).alloc (.cells #[.bool false] 4)).alloc (.map #[] 0)).alloc (.cells #[.map (some (w.heap.size + 2))] 54)) (.cells #[.slice ao q cap] 25)
      rw [World.size_alloc, World.size_alloc, World.size_alloc, World.size_alloc] at h9
      exact h9
  have hal : ∀ b o, ao = some ⟨b, o, none⟩ → 0 < t.length → b < w.heap.size := by
    intro b o e h0
    obtain ⟨b', o', e', hn⟩ := hx 0 h0
    rw [e] at e'
    simp only [Option.some.injEq, Addr.mk.injEq, and_true] at e'
    rw [e'.1]
    exact lt_of_cell hn.1
  have hs1 : (((((w.alloc (.cells #[.map none] 54)).alloc (.cells #[.bool false] 4)).alloc (.map #[] 0)).alloc (.cells #[.map (some (z + 2))] 54)).alloc (.cells #[.slice ao q cap] 25)).heap.size = z + 5 := by simp [hz]
  simp only [hz]
  generalize ((((w.alloc (.cells #[.map none] 54)).alloc (.cells #[.bool false] 4)).alloc (.map #[] 0)).alloc (.cells #[.map (some (z + 2))] 54)).alloc (.cells #[.slice ao q cap] 25) = W1 at hT hs1 ⊢
  simp only [Nat.add_assoc, Nat.reduceAdd]
  have HT : Hid (LRnd w z ao q cap t 0 W1) := hT
  have HAL : Hid (∀ b o, ao = some ⟨b, o, none⟩ → 0 < t.length → b < w.heap.size) := hal
  have hqA : A < q := by have := HE.out.lt; have := HP.out; omega
  clear hx hT hal
  refine wpIn_range (α := Nat × Nd) rfl (by omega) (gf := 82) (lb := #[.pointer (some ⟨z + 4, 0, none⟩)]) rfl trivial (enters_of Try.func82 (by kernel_rfl) rfl)
    (encs := encPN) w.heap.size (by omega) (backwardN1_any q (by omega) ao cap (z + 4) t HP w.heap.size (n - 1) W1) (fun _ => rfl)
    (fun pre W => LRnd w z ao q cap t pre.length W)
    (fun c pre W => (c = .exit 0 ∧ ∃ l, (ndAt t (t.length - 1 - l)).kind ≠ 62 ∧ LRnd w z ao q cap t l W) ∨ (c = .ret ∧ ¬ (bkL t A).Nodup ∧ W.heap[z]? = some (.cells #[.map none] 54 (0, 0)) ∧ W.heap[z + 1]? = some (.cells #[.bool false] 4 (0, 0)) ∧ Below w.heap.size w W)) ?hI ?hIx ?hRd HT.out ?round ?done ?stop
  case hI =>
    rintro s B C h hb
    exact h.but (butB hb) (by omega) (fun k hk => by omega) HAL.out
  case hIx =>
    rintro c s B C h hb
    rcases h with ⟨h1, l, h2, h3⟩ | ⟨h1, h2, h3, h4, h5⟩
    · exact .inl ⟨h1, l, h2, h3.but hb (by omega) (fun k hk => by omega) HAL.out⟩
    · refine .inr ⟨h1, h2, (hb.block _ (Array.getElem?_eq_some_iff.1 h3).1 (by omega)).trans h3, (hb.block _ (Array.getElem?_eq_some_iff.1 h4).1 (by omega)).trans h4, h5.trans (hb.below h5.size (fun k hk => by omega))⟩
  case hRd =>
    rintro s B h
    exact ⟨h.back, h.nodes⟩
  case round =>
    rintro pre ⟨k, kd, nm, tx, ks, pl⟩ W hK hlen hfit hsz
    obtain ⟨hfit, hps⟩ := hfit
    simp only at hfit hps
    simp only [encPN]
    have HS1 : Hid (W1.heap.size = z + 5) := hs1
    have HZ : Hid (w.heap.size = z) := hz
    clear hs1 hz
    gi_wp2
    refine ⟨But.ofBelow ((Below.refl _ W).alloc (Nat.le_refl _) _), ?_⟩
    intro Wb hWb
    obtain ⟨l, hl⟩ : ∃ l, pre.length = l := ⟨_, rfl⟩
    rw [hl] at hK hfit
    have HPL : Hid ((pre ++ [(k, (⟨kd, nm, tx, ks, pl⟩ : Nd))]).length = l + 1) := by show _ = _; rw [List.length_append, hl]; rfl
    have hkt := (List.getElem?_eq_some_iff.1 hps).1
    have HND : Hid (ndAt t (t.length - 1 - l) = ⟨kd, nm, tx, ks, pl⟩) := by
      show _ = _
      have e : t.length - 1 - l = k := by have := HP.out; omega
      rw [e]
      simp [ndAt, hps]
    have hwf : (Lit.int .i64 nm).wf = true := HW.out _ (List.mem_of_getElem? hps)
    have hs1 := HS1.out
    have hz := HZ.out
    have hKa := hK.but (S := fun _ => False) (But.ofBelow ((Below.refl _ W).alloc (Nat.le_refl _) (.cells #[.int .i64 kd, .int .i64 nm, .string tx, .int .i64 ks, .int .i64 pl] 39))) (by omega) (fun _ h => h.elim) HAL.out
    have hKb := hKa.but hWb (by omega) (fun k hk => by omega) HAL.out
    have hblk : Wb.heap[W.heap.size]? = some (.cells #[.int .i64 kd, .int .i64 nm, .string tx, .int .i64 ks, .int .i64 pl] 39 (0, 0)) := (hWb.block W.heap.size (by simp) (by omega)).trans (heap_alloc_new _ _)
    have u0 : Wb.cell? ⟨W.heap.size, 0, none⟩ = some (.int .i64 kd) := by rw [cell_of_row _ _ _ _ _ _ hblk]; rfl
    have u1 : Wb.cell? ⟨W.heap.size, 1, none⟩ = some (.int .i64 nm) := by rw [cell_of_row _ _ _ _ _ _ hblk]; rfl
    have HK : Hid (LRnd w z ao q cap t l Wb) := hKb
    have hlA : l ≤ A := by
      rcases Nat.lt_or_ge A l with h | h
      · exact absurd (HK.out.kinds A h) HE.out.not
      · exact h
    clear hK hKa hWb hps hblk hl hfit
    by_cases h62 : kd = 62
    rotate_left
    · have t62 : (kd != 62) = true := by simpa using h62
      have HNE : Hid ((ndAt t (t.length - 1 - l)).kind ≠ 62) := by show _ ≠ _; rw [HND.out]; exact h62
      clear hKb u1
      gi_wp2
      exact ⟨But.refl _ _, .inl ⟨rfl, l, HNE.out, HK.out⟩⟩
    have hlA2 : l < A := by
      rcases Nat.lt_or_ge l A with h | h
      · exact h
      · have e : l = A := by omega
        exact absurd (by rw [← e, HND.out]; exact h62) HE.out.not
    subst h62
    obtain ⟨D, hown, hF⟩ := hKb.own
    have cbx : Wb.cell? ⟨z + 3, 0, none⟩ = some (.map (some (z + 2))) := by rw [cell_of_row _ _ _ _ _ _ hKb.box]; rfl
    have cr0 : Wb.cell? ⟨z, 0, none⟩ = some (.map none) := by rw [cell_of_row _ _ _ _ _ _ hKb.r0]; rfl
    have cr1 : Wb.cell? ⟨z + 1, 0, none⟩ = some (.bool false) := by rw [cell_of_row _ _ _ _ _ _ hKb.r1]; rfl
    have fr0 : Wb.frozen? ⟨z, 0, none⟩ = false := frozen_of_row _ _ _ _ _ hKb.r0
    have fr1 : Wb.frozen? ⟨z + 1, 0, none⟩ = false := frozen_of_row _ _ _ _ _ hKb.r1
    have hkey : keyOf Try.prog 2 (.int .i64 nm) = some (.int .i64 nm) := keyOf_int_mk Try.underlying2 hwf
    obtain ⟨c, hrun, hat, hwc⟩ := hown.lookup_int Try.law2S Try.underlying54 Try.underlying58 (Try.zeroS Wb) hkey
    have hc : c = sgAt (bkL t l) nm := by
      rw [(hF.2.2 nm).2] at hat
      simpa using hat.symm
    have HBS : Hid (bkL t (l + 1) = bkL t l ++ [nm]) := by show _ = _; rw [bkL_succ, HND.out]
    clear hwc hat
    by_cases hin : lastTo (bkL t l) nm (bkL t l).length = -1
    · have hc0 : c = 0 := by rw [hc]; unfold sgAt; rw [if_pos hin]
      subst hc0
      have hlen : ∀ ty, (Builtin.len_ #[54] ty #[.map (some (z + 2))]).run Try.prog Wb = .ok (.int .i64 (l : Int)) Wb := by
        intro ty
        rw [hown.len Try.underlying54 ty, hF.2.1, bkL_len]
      have hlq : l ≤ 60000 := by omega
      have hwf2 : (Lit.int .i32 (-1 - (l : Int))).wf = true := WalkArith.wf_i32 (by omega)
      obtain ⟨w2, hrun2, hown2, hgrow2⟩ := hown.update Try.law2S Try.underlying54 (by unfold maxLen; omega) hkey (val := .int .i32 (-1 - (l : Int))) (plainElem_int Try.underlying58 hwf2)
      have HFIN : Hid (But (Mine w.heap.size W1.heap.size) Wb w2 ∧ LRnd w z ao q cap t (l + 1) w2) := by
        have hbut : But (· = z + 2) Wb w2 := ⟨hgrow2.os, hgrow2.tape, hgrow2.output, hgrow2.size, fun i hi hne => hgrow2.block i hi (by simpa using hne)⟩
        have bl : ∀ j o, j ≠ z + 2 → Wb.heap[j]? = some o → w2.heap[j]? = some o := fun j o hj hh => (hbut.block j (Array.getElem?_eq_some_iff.1 hh).1 hj).trans hh
        refine ⟨⟨hbut.os, hbut.tape, hbut.output, hbut.size, fun i hi hn => hbut.block i hi (fun e => hn (by subst e; exact ⟨by omega, by omega⟩))⟩, ?_⟩
        have hst := hF.store nm hin
        rw [bkL_len, ← HBS.out] at hst
        refine ⟨by omega, ?_, ?_, ⟨_, hown2, hst⟩, bl _ _ (by omega) HK.out.r0, bl _ _ (by omega) HK.out.r1, bl _ _ (by omega) HK.out.box, bl _ _ (by omega) HK.out.back, nodes_butS HK.out.nodes hbut (fun b o e h0 e2 => by have := HAL.out b o e h0; omega), HK.out.below.trans (hbut.below HK.out.below.size (fun k hk => by omega))⟩
        · intro j hj
          by_cases e : j = l
          · rw [e, HND.out]
          · exact HK.out.kinds j (by omega)
        · rw [HBS.out, List.nodup_append]
          refine ⟨HK.out.nd, by simp, ?_⟩
          intro a ha b hb
          simp only [List.mem_singleton] at hb
          subst hb
          obtain ⟨i, hi, rfl⟩ := List.getElem_of_mem ha
          intro e
          exact lastTo_none.1 hin i hi (by rw [List.getElem?_eq_getElem hi, e])
      clear hKb hown hF hc hin hown2 hgrow2 hs1 hz hwf hwf2 fr0 fr1 cr0 cr1 HBS
      gi_wp2
      exact ⟨HFIN.out.1, by show LRnd _ _ _ _ _ _ _ _; rw [HPL.out]; exact HFIN.out.2⟩
    · have hge := lastTo_ge (bkL t l) nm (bkL t l).length
      have hc0 : (c != 0) = true := by
        rw [hc]
        unfold sgAt
        rw [if_neg hin]
        simp
        omega
      have HDUP : Hid (¬ (bkL t A).Nodup) := dup_of hlA2 HBS.out hin
      have HW2 : Hid (But (Mine w.heap.size W1.heap.size) Wb ((Wb.setCell ⟨z, 0, none⟩ (.map none)).setCell ⟨z + 1, 0, none⟩ (.bool false)) ∧ ((Wb.setCell ⟨z, 0, none⟩ (.map none)).setCell ⟨z + 1, 0, none⟩ (.bool false)).heap[z]? = some (.cells #[.map none] 54 (0, 0)) ∧ ((Wb.setCell ⟨z, 0, none⟩ (.map none)).setCell ⟨z + 1, 0, none⟩ (.bool false)).heap[z + 1]? = some (.cells #[.bool false] 4 (0, 0)) ∧ Below w.heap.size w ((Wb.setCell ⟨z, 0, none⟩ (.map none)).setCell ⟨z + 1, 0, none⟩ (.bool false))) := by
        refine ⟨((But.refl _ Wb).setCell (p := ⟨z, 0, none⟩) ⟨by show w.heap.size ≤ z; omega, by show z < W1.heap.size; omega⟩ _).setCell (p := ⟨z + 1, 0, none⟩) ⟨by show w.heap.size ≤ z + 1; omega, by show z + 1 < W1.heap.size; omega⟩ _, ?_, ?_, (HK.out.below.setCell (p := ⟨z, 0, none⟩) (by show w.heap.size ≤ z; omega) _).setCell (p := ⟨z + 1, 0, none⟩) (by show w.heap.size ≤ z + 1; omega) _⟩
        · rw [Below.heap_setCell _ _ _ _ (by show z ≠ z + 1; omega), heap_setCell_same _ _ _ _ _ _ HK.out.r0]; rfl
        · rw [heap_setCell_same _ _ _ _ _ _ ((Below.heap_setCell _ _ _ _ (by show z + 1 ≠ z; omega)).trans HK.out.r1)]; rfl
      clear hKb hown hF hc hin hge HBS hs1 hz
      gi_wp2
      exact ⟨HW2.out.1, .inr ⟨rfl, HDUP.out, HW2.out.2.1, HW2.out.2.2.1, HW2.out.2.2.2⟩⟩
  case done =>
    rintro xs W hxl hK hD
    exfalso
    have hxl : xs.length = q := hxl
    have h9 := hK.kinds A (by omega)
    exact HE.out.not h9
  case stop =>
    rintro c pre W _ hIx hD
    have hWl : W1.heap.size < W.heap.size := (Array.getElem?_eq_some_iff.1 hD).1
    rcases hIx with ⟨rfl, l, hne, hK⟩ | ⟨rfl, hdup, h0, h1, hb⟩
    · have hlA : l = A := by
        rcases Nat.lt_trichotomy l A with h | h | h
        · exact absurd (HE.out.all l h) hne
        · exact h
        · exact absurd (hK.kinds A h) HE.out.not
      subst hlA
      obtain ⟨D, hown, hF⟩ := hK.own
      have cbx : W.cell? ⟨z + 3, 0, none⟩ = some (.map (some (z + 2))) := by rw [cell_of_row _ _ _ _ _ _ hK.box]; rfl
      have cr0 : W.cell? ⟨z, 0, none⟩ = some (.map none) := by rw [cell_of_row _ _ _ _ _ _ hK.r0]; rfl
      have cr1 : W.cell? ⟨z + 1, 0, none⟩ = some (.bool false) := by rw [cell_of_row _ _ _ _ _ _ hK.r1]; rfl
      have fr0 : W.frozen? ⟨z, 0, none⟩ = false := frozen_of_row _ _ _ _ _ hK.r0
      have fr1 : W.frozen? ⟨z + 1, 0, none⟩ = false := frozen_of_row _ _ _ _ _ hK.r1
      obtain ⟨WE, hWE⟩ : ∃ WE, (W.setCell ⟨z, 0, none⟩ (.map (some (z + 2)))).setCell ⟨z + 1, 0, none⟩ (.bool true) = WE := ⟨_, rfl⟩
      have hbE : Below w.heap.size w WE := by
        rw [← hWE]
        exact (hK.below.setCell (p := ⟨z, 0, none⟩) (by show w.heap.size ≤ z; omega) _).setCell (p := ⟨z + 1, 0, none⟩) (by show w.heap.size ≤ z + 1; omega) _
      have hbl : ∀ j, j ≠ z → j ≠ z + 1 → WE.heap[j]? = W.heap[j]? := by
        intro j e1 e2
        rw [← hWE, Below.heap_setCell _ _ _ _ (by show j ≠ z + 1; omega), Below.heap_setCell _ _ _ _ (by show j ≠ z; omega)]
      have hD2 : WE.heap[W1.heap.size]? = some (.deferred (some [])) := (hbl _ (by omega) (by omega)).trans hD
      have hc0 : WE.heap[z]? = some (.cells #[.map (some (z + 2))] 54 (0, 0)) := by
        rw [← hWE, Below.heap_setCell _ _ _ _ (by show z ≠ z + 1; omega), heap_setCell_same _ _ _ _ _ _ hK.r0]; rfl
      have hc1 : WE.heap[z + 1]? = some (.cells #[.bool true] 4 (0, 0)) := by
        rw [← hWE, heap_setCell_same _ _ _ _ _ _ ((Below.heap_setCell _ _ _ _ (by show z + 1 ≠ z; omega)).trans hK.r1)]; rfl
      have hput : But (· = W1.heap.size) WE (WE.putObj W1.heap.size (.deferred none)) := But.putObj _ _ _ rfl
      have hown9 := ownsS_same (ownsS_same hown (hbl (z + 2) (by omega) (by omega))) (hput.block (z + 2) (by have := hown.lt; have := hbE.size; rw [← hWE]; simpa using hown.lt) (by omega))
      have hb9 := hbE.trans (hput.below hbE.size (fun k hk => by omega))
      have q0 : (WE.putObj W1.heap.size (.deferred none)).cell? ⟨z, 0, none⟩ = some (.map (some (z + 2))) := by rw [cell_of_row _ _ _ _ _ _ ((hput.block z (Array.getElem?_eq_some_iff.1 hc0).1 (by omega)).trans hc0)]; rfl
      have q1 : (WE.putObj W1.heap.size (.deferred none)).cell? ⟨z + 1, 0, none⟩ = some (.bool true) := by rw [cell_of_row _ _ _ _ _ _ ((hput.block (z + 1) (Array.getElem?_eq_some_iff.1 hc1).1 (by omega)).trans hc1)]; rfl
      have HND : Hid ((bkL t l).Nodup) := hK.nd
      have HZ2 : Hid (w.heap.size ≤ z + 2) := by show _ ≤ _; omega
      have HOWN : Hid (World.ownsMap (WE.putObj W1.heap.size (.deferred none)) Try.prog 2 (plainElem Try.prog 58) (z + 2) l D ∧ SgD (bkL t l) D) := ⟨hown9, hF⟩
      clear hK hown hown9 hF hbE hbl hput hc0 hc1 hne hs1 hz
      gi_wp2
      try rw [hWE]
      refine ⟨by simp, .inl ⟨_, _, rfl, run_takeDeferred hD2, ?_⟩⟩
      exact ⟨_, results_cell2 rfl _ ⟨z, 0, none⟩ ⟨z + 1, 0, none⟩ rfl rfl _ _ _ q0 q1, .inl ⟨z + 2, D, rfl, HZ2.out, HND.out, HOWN.out.1, HOWN.out.2⟩, hb9⟩
    · have hput : But (· = W1.heap.size) W (W.putObj W1.heap.size (.deferred none)) := But.putObj _ _ _ rfl
      have hb9 := hb.trans (hput.below hb.size (fun k hk => by omega))
      have q0 : (W.putObj W1.heap.size (.deferred none)).cell? ⟨z, 0, none⟩ = some (.map none) := by rw [cell_of_row _ _ _ _ _ _ ((hput.block z (Array.getElem?_eq_some_iff.1 h0).1 (by omega)).trans h0)]; rfl
      have q1 : (W.putObj W1.heap.size (.deferred none)).cell? ⟨z + 1, 0, none⟩ = some (.bool false) := by rw [cell_of_row _ _ _ _ _ _ ((hput.block (z + 1) (Array.getElem?_eq_some_iff.1 h1).1 (by omega)).trans h1)]; rfl
      have HDUP : Hid (¬ (bkL t A).Nodup) := hdup
      clear hput hb h0 h1 hdup hs1 hz
      gi_wp2
      refine ⟨by simp, .inl ⟨_, _, rfl, run_takeDeferred hD, ?_⟩⟩
      exact ⟨_, results_cell2 rfl _ ⟨z, 0, none⟩ ⟨z + 1, 0, none⟩ rfl rfl _ _ _ q0 q1, .inr ⟨rfl, HDUP.out⟩, hb9⟩

end Go.Proofs.Ytocidoamfofefaa

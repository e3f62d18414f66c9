
import Derived.Test.YtkmlfpfgiblcdaaIKids
import Derived.Test.YtkmlfpfgiblcdaaApp3
namespace Go.Proofs.Ytkmlfpfgiblcdaa
open Go.RowKit Go.Shelf

attribute [local go_sem] Oper.semAt_some

/-- What the loop of Kids keeps: its box at z + 1, the term's box at Bn, M where the loop began. -/
structure KInv (w : World) (z Bn M g m cm : Nat) (t : List Nd) (pre : List Sp) (U : Nat → Prop) (W : World) (G c : Nat) (ps : List (Nat × Nat)) : Prop where
  box : Box1 W (z + 1) 38 (.slice (some ⟨G, 0, none⟩) pre.length c)
  rag : RagO W z G c pre.length ps (kidsIn t pre)
  at_ : G = z ∨ M ≤ G
  rows : ∀ p ∈ ps, M ≤ p.1
  same : ∀ k, U k ↔ (M ≤ k ∧ (k = G ∨ ∃ p ∈ ps, p.1 = k))
  term : Box1 W Bn 25 (.slice (some ⟨g, 0, none⟩) m cm)
  below : Below z w W

theorem KInv.but {S : Nat → Prop} {w A C : World} {z Bn M g m cm G c : Nat} {t : List Nd} {pre : List Sp} {U : Nat → Prop} {ps : List (Nat × Nat)} (h : KInv w z Bn M g m cm t pre U A G c ps) (hb : But S A C) (hS : ∀ k, S k → M ≤ k ∧ ¬ U k) (hz : z + 1 < Bn) (hB : Bn < M) : KInv w z Bn M g m cm t pre U C G c ps := by
  have hl := h.term.lt
  refine ⟨h.box.but hb (fun hk => by have := (hS _ hk).1; omega), h.rag.but' hb (fun hk => (hS _ hk).2 ((h.same G).2 ⟨(hS _ hk).1, Or.inl rfl⟩)) (fun p hp hk => (hS _ hk).2 ((h.same p.1).2 ⟨(hS _ hk).1, Or.inr ⟨p, hp, rfl⟩⟩)), h.at_, h.rows, h.same, h.term.but hb (fun hk => by have := (hS _ hk).1; omega), ?_⟩
  exact h.below.trans (hb.below (by omega) (fun k hk => by have := (hS _ hk).1; omega))

theorem KInv.push {w Wb w5 w6 : World} {z Bn M g m cm G c g' c' h ch l : Nat} {t : List Nd} {pre : List Sp} {U : Nat → Prop} {ps : List (Nat × Nat)} {s : Sp} (hI : KInv w z Bn M g m cm t pre U Wb G c ps) (hz : z + 1 < Bn) (hB : Bn < M) (hM : M ≤ Wb.heap.size)
    (hb5 : Below Wb.drew.heap.size Wb.drew w5) (hh : Wb.drew.heap.size ≤ h) (hrow : Row w5 h (span t s.fr s.rt)) (hl : (span t s.fr s.rt).length = l)
    (hown6 : w6.ownsRow z 25 1 (.slice (some ⟨g', 0, none⟩) (pre.length + 1) c') (pre.length + 1) (leadsC ps (kidsIn t pre) ++ [.slice (some ⟨h, 0, none⟩) l ch]))
    (hgrow6 : (w5.alloc (.cells #[.slice (some ⟨h, 0, none⟩) l ch] 25)).grownBy w6 (some G)) (hwh : g' = G ∨ g' = (w5.alloc (.cells #[.slice (some ⟨h, 0, none⟩) l ch] 25)).heap.size) :
    ∃ U', KInv w z Bn M g m cm t (pre ++ [s]) U' (w6.setCell ⟨z + 1, 0, none⟩ (.slice (some ⟨g', 0, none⟩) (pre.length + 1) c')) g' c' (ps ++ [(h, ch)]) ∧ (∀ k, U' k → U k ∨ Wb.heap.size ≤ k) ∧ But (Turns z M U) Wb (w6.setCell ⟨z + 1, 0, none⟩ (.slice (some ⟨g', 0, none⟩) (pre.length + 1) c')) ∧
      w6.cell? ⟨z + 1, 0, none⟩ = some (.slice (some ⟨G, 0, none⟩) pre.length c) ∧ w6.frozen? ⟨z + 1, 0, none⟩ = false := by
  subst hl
  have hbd := undrew hb5
  have s2 := hbd.size
  have hh' : Wb.heap.size ≤ h := hh
  have hGl := hI.rag.lt
  have hba : Below Wb.heap.size Wb (w5.alloc (.cells #[.slice (some ⟨h, 0, none⟩) (span t s.fr s.rt).length ch] 25)) := hbd.alloc s2 _
  have hO := RagO.push hI.rag (But.ofBelow hba) (hrow.below ((Below.refl _ w5).alloc (Nat.le_refl _) _)) hh' (by omega) hown6 hgrow6
  have hb6 : But (· = G) Wb w6 := by
    refine ⟨hgrow6.os.trans hba.os, hgrow6.tape.trans hba.tape, hgrow6.output.trans hba.output, Nat.le_trans hba.size hgrow6.size, ?_⟩
    intro k hk hn
    exact (hgrow6.block k (Nat.lt_of_lt_of_le hk hba.size) (fun e => by cases e; exact hn rfl)).trans (hba.block k hk)
  have hGz : G ≠ z + 1 := by rcases hI.at_ with h | h <;> omega
  have hGB : G ≠ Bn := by rcases hI.at_ with h | h <;> omega
  have hbox6 := hI.box.but hb6 (fun e => hGz e.symm)
  have hset : But (· = z + 1) w6 (w6.setCell ⟨z + 1, 0, none⟩ (.slice (some ⟨g', 0, none⟩) (pre.length + 1) c')) := (But.refl (· = z + 1) w6).setCell (p := ⟨z + 1, 0, none⟩) rfl _
  have hat : g' = z ∨ M ≤ g' := by
    rcases hwh with rfl | rfl
    · exact hI.at_
    · right; simp; omega
  have hrows : ∀ p ∈ ps ++ [(h, ch)], M ≤ p.1 := by
    intro p hp
    rcases List.mem_append.1 hp with hp | hp
    · exact hI.rows p hp
    · simp at hp; subst hp; show M ≤ h; omega
  refine ⟨fun k => M ≤ k ∧ (k = g' ∨ ∃ p ∈ ps ++ [(h, ch)], p.1 = k), ⟨?_, ?_, hat, hrows, fun k => Iff.rfl, (hI.term.but hb6 (fun e => hGB e.symm)).but hset (by omega), ?_⟩, ?_, ?_, hbox6.cell, hbox6.frozen⟩
  · have e : (pre ++ [s]).length = pre.length + 1 := by simp
    rw [e]
    exact hbox6.set _
  · have e : (pre ++ [s]).length = pre.length + 1 := by simp
    have e2 : kidsIn t (pre ++ [s]) = kidsIn t pre ++ [span t s.fr s.rt] := by simp [kidsIn]
    rw [e, e2]
    refine hO.but' hset (by rcases hat with h | h <;> omega) ?_
    intro p hp
    have := hrows p hp
    omega
  · exact (hI.below.trans (hb6.below (by omega) (fun k hk => by omega))).trans (hset.below (by have := hb6.size; omega) (fun k hk => by omega))
  · rintro k ⟨hk, (rfl | ⟨p, hp, rfl⟩)⟩
    · rcases hwh with rfl | rfl
      · exact Or.inl ((hI.same _).2 ⟨hk, Or.inl rfl⟩)
      · right; simp; omega
    · rcases List.mem_append.1 hp with hp | hp
      · exact Or.inl ((hI.same _).2 ⟨hk, Or.inr ⟨p, hp, rfl⟩⟩)
      · simp at hp; subst hp; exact Or.inr hh'
  · refine (hb6.mono ?_).trans (hset.mono ?_)
    · rintro k rfl
      rcases hI.at_ with h | h
      · exact ⟨by omega, Or.inl (by omega)⟩
      · exact ⟨by omega, Or.inr ((hI.same _).2 ⟨h, Or.inl rfl⟩)⟩
    · rintro k rfl
      exact ⟨by omega, Or.inl (by omega)⟩

set_option maxRecDepth 100000 in
set_option maxHeartbeats 2000000 in
theorem implKids_goodC (t : List Nd) (m q cm : Nat) (hcm : m ≤ cm) (HM : Hid (t.length = m)) (g : Nat) (w : World) (hx : Row w g t) (hd : 0 < deepOf t) (S ys K : List Sp) (HA : Hid (after t m = some (S, ys))) (HK : Hid (KidsAt t ys (m - 1) K)) (HQ : Hid (K.length = q)) :
    Calls Try.prog 31 #[.slice (some ⟨g, 0, none⟩) m cm] w fun e w' => ∃ G c ps, e = .returned (.slice (some ⟨G, 0, none⟩) q c) ∧ Rag w' w.heap.size G ps (kidsIn t K) ∧ Below w.heap.size w w' := by
  obtain ⟨i0, hi, hz0, hz1, hz2⟩ := info_parts Try.infoSS
  obtain ⟨h0, h6, _, _, _, _⟩ := deep_after HM.out hd
  have e1 : decide (0 < deepOf t) = true := by simp [hd]
  have hqm : q ≤ 6000 := by have := HK.out.len; have := HQ.out; omega
  have hgl := hx.lt
  obtain ⟨n, hn⟩ : ∃ n : Nat, 6 ≤ n := ⟨6, Nat.le_refl _⟩
  refine (callsIn_wide (n := n)).1 ?_
  refine callsIn_of_wp_marks Try.func31 rfl trivial ?_
  simp only [Try.ntmps31, List.size_toArray, List.length_cons, List.length_nil, Nat.reduceAdd, Nat.reduceSub, Array.replicate_succ, Array.replicate_zero, List.push_toArray, List.append_toArray, List.nil_append, List.cons_append]
  have hA : Below w.heap.size w ((w.alloc (.cells #[] 25)).alloc (.cells #[.slice (some ⟨w.heap.size, 0, none⟩) 0 0] 38)) := ((Below.refl _ w).alloc (Nat.le_refl _) _).alloc (by simp) _
  have hO : RagO ((w.alloc (.cells #[] 25)).alloc (.cells #[.slice (some ⟨w.heap.size, 0, none⟩) 0 0] 38)) w.heap.size w.heap.size 0 0 [] [] := (RagO.empty (w := w) (B := w.heap.size) (Nat.le_refl _)).below ((Below.refl _ _).alloc (Nat.le_refl _) _)
  have hbx : Box1 ((w.alloc (.cells #[] 25)).alloc (.cells #[.slice (some ⟨w.heap.size, 0, none⟩) 0 0] 38)) (w.heap.size + 1) 38 (.slice (some ⟨w.heap.size, 0, none⟩) 0 0) := by
    have h9 := Box1.new (w.alloc (.cells #[] 25)) 38 (.slice (some ⟨w.heap.size, 0, none⟩) 0 0)
    rw [World.size_alloc] at h9
    exact h9
  have hxA := hx.below hA
  gi_wp2_with fail
  refine ⟨trivial, fun h => (by cases h), callsIn_wide.2 ((implGood_any t m HM (by omega) _ _ _ hxA.nodes).mono ?_)⟩
  rintro e w1 ⟨rfl, hb⟩
  rw [e1]
  have hb1 := Below.step hA hb
  have hO1 := hO.below hb
  have hbx1 := hbx.below hb hbx.lt
  have hs1 : w.heap.size + 1 < w1.heap.size := hbx1.lt
  clear hA hO hbx hxA hb e1
  gi_wp2_with fail
  refine ⟨trivial, fun h => (by cases h), callsIn_wide.2 ((kidsOf_any _ m cm _).mono ?_)⟩
  rintro e w2 ⟨rfl, rfl⟩
  gi_wp2
  obtain ⟨W1, hW1⟩ : ∃ W1, w1.alloc (.cells #[.slice (some ⟨g, 0, none⟩) m cm] 25) = W1 := ⟨_, rfl⟩
  have hS1 : W1.heap.size = w1.heap.size + 1 := by rw [← hW1]; simp
  have hI0 : KInv w w.heap.size w1.heap.size W1.heap.size g m cm t [] (fun _ => False) W1 w.heap.size 0 [] := by
    rw [← hW1]
    refine ⟨hbx1.alloc _, hO1.below ((Below.refl _ w1).alloc (Nat.le_refl _) _), Or.inl rfl, fun p hp => by simp at hp, fun k => ⟨fun h => h.elim, ?_⟩, Box1.new _ _ _, hb1.alloc hb1.size _⟩
    rintro ⟨h1, (h2 | ⟨p, hp, _⟩)⟩
    · simp at h1; omega
    · simp at hp
  try rw [hW1]
  clear hW1 hO1 hbx1 hb1
  refine wpIn_range2 (α := Sp) rfl (by omega) (gf := 51) (lb := #[.pointer (some ⟨w1.heap.size, 0, none⟩)]) rfl trivial (enters_of Try.func51 (by kernel_rfl) rfl)
    (encs := encK g) w.heap.size (by omega) (kidsOf1_turn t m q cm hcm HM h6 h0 S ys K HA HK HQ g w1.heap.size w.heap.size (n - 1) W1 w rfl hx) (fun _ => rfl)
    (fun pre U W => ∃ G c ps, KInv w w.heap.size w1.heap.size W1.heap.size g m cm t pre U W G c ps)
    (fun _ _ _ => False) ?hI (fun _ _ _ _ h _ => h) ?hRd ⟨_, _, _, hI0⟩ ?round ?done (fun _ _ _ _ h _ => h.elim)
  case hI =>
    rintro s U A C ⟨G, c, ps, h⟩ hb
    exact ⟨G, c, ps, h.but hb (fun k hk => hk) (by omega) (by omega)⟩
  case hRd =>
    rintro s U A ⟨G, c, ps, h⟩
    refine ⟨fun k hk => ?_, h.term, h.below⟩
    rcases ((h.same k).1 hk).2 with rfl | ⟨p, hp, rfl⟩
    · exact h.rag.lt.2
    · obtain ⟨i, hi, rfl⟩ := List.getElem_of_mem hp
      exact (h.rag.rows i hi (by rw [← h.rag.len]; exact hi)).lt
  case round =>
    rintro pre U s W ⟨G, c, ps, hK⟩ hU hlen hfit hsz
    simp only [encK]
    gi_wp2
    refine ⟨But.refl _ _, ?_⟩
    intro Wb hWb
    have hKb := hK.but hWb (fun k hk => ⟨by omega, fun h => by have := hU _ h; omega⟩) (by omega) (by omega)
    have hfit : K[pre.length]? = some s := hfit
    obtain ⟨hkK, hKk⟩ := List.getElem?_eq_some_iff.1 hfit
    obtain ⟨_, hfr, hrt⟩ := HK.out.mem pre.length hkK
    rw [hKk] at hfr hrt
    have v0 := hKb.box.cell
    have hxb : Row Wb g t := hx.below hKb.below
    have hnd : Nodes Wb.drew (some ⟨g, s.fr * 5, none⟩) (span t s.fr s.rt) := (span_nodes hxb s.fr s.rt (by have := HM.out; omega)).below ((Below.refl _ Wb).drew)
    have HL : Hid ((span t s.fr s.rt).length = s.rt + 1 - s.fr) := span_length t s.fr s.rt (by have := HM.out; omega)
    have hWs := hWb.size
    have hKd : RagO Wb.drew w.heap.size G c pre.length ps (kidsIn t pre) := hKb.rag.below (Below.refl _ Wb).drew
    have hbl : w.heap.size + 1 < Wb.heap.size := by omega
    have hpq : pre.length ≤ 6000 := by omega
    have hWM : W1.heap.size ≤ Wb.heap.size := by omega
    clear hK hxb hI0
    gi_wp2_with fail
    refine wpIn_region_any (by kernel_rfl) ?_
    change wpAnyIn _ _ _ _ _ _ _ _ _ (World.drew _)
    refine wpAnyIn_ready (rs := [0, 1]) (by kernel_rfl) (by simp) ?_
    refine AllReadyIn.cons rfl (fun K9 hK9 => ?_) ?_
    · go_simp
      refine hK9 _ _ ?_
      clear hK9 K9
      refine wpAnyIn_ready (rs := [1]) (by kernel_rfl) (by simp) ?_
      refine AllReadyIn.cons rfl (fun K9 hK9 => ?_) AllReadyIn.nil
      go_simp
      refine hK9 _ _ ?_
      clear hK9 K9
      refine wpAnyIn_ready (rs := [2]) (by kernel_rfl) (by simp) ?_
      refine AllReadyIn.cons rfl (fun K9 hK9 => ?_) AllReadyIn.nil
      go_simp
      refine ⟨trivial, fun h => (by cases h), CallsIn.inRound _ (callsIn_wide.2 ((clone_any (span t s.fr s.rt) (s.rt + 1 - s.fr) HL (by omega) _ _ _ hnd).mono ?_))⟩
      rintro e w5 ⟨h, ch, rfl, hh, hrow, hb5⟩
      have v5 : w5.cell? ⟨w.heap.size + 1, 0, none⟩ = some (.slice (some ⟨G, 0, none⟩) pre.length c) := (bcell_drew hb5 _ _ hbl).trans v0
      have hbl5 : w.heap.size + 1 < w5.heap.size := lt_of_cell v5
      refine hK9 _ _ ?_
      clear hK9 K9
      refine wpAnyIn_ready (rs := [3]) (by kernel_rfl) (by simp) ?_
      refine AllReadyIn.cons rfl (fun K9 hK9 => ?_) AllReadyIn.nil
      go_simp
      refine hK9 _ _ ?_
      clear hK9 K9
      refine wpAnyIn_ready (rs := [4]) (by kernel_rfl) (by simp) ?_
      refine AllReadyIn.cons rfl (fun K9 hK9 => ?_) AllReadyIn.nil
      refine stepIn_append2 _ rfl (.tmp 13) (.tmp 16) 38 rfl w.heap.size 25 i0 _ 1 24 Try.underlying38 hi hz0 hz1 hz2 rfl (by decide) G pre.length c _ rfl ((hKd.below hb5).own.alloc _) ⟨_, 0, none⟩ 1 1 [.slice (some ⟨h, 0, none⟩) (s.rt + 1 - s.fr) ch] rfl rfl (new1_cells _ _) (one_slice _ _ _) (by unfold maxLen; omega) (by omega) (by have h9 := hb5.size; simp at h9 ⊢; omega) ?_
      intro g' c' w6 hown6 hgrow6 hwh
      obtain ⟨U', hK', hsub, hbut, q6, f6⟩ := hKb.push (s := s) (by omega) (by omega) (by omega) hb5 hh hrow HL.out hown6 hgrow6 hwh
      refine hK9 _ _ ?_
      clear hK9 K9 hown6 hgrow6 hwh hrow hb5
      refine wpAnyIn_ready (rs := [5]) (by kernel_rfl) (by simp) ?_
      refine AllReadyIn.cons rfl (fun K9 hK9 => ?_) AllReadyIn.nil
      go_simp
      refine hK9 _ _ ?_
      clear hK9 K9
      refine wpAnyIn_done (by kernel_rfl) ?_ _
      exact ⟨hbut, U', ⟨_, _, _, hK'⟩, fun k hk => (hsub k hk).imp id (fun h => by omega)⟩
    refine AllReadyIn.cons rfl (fun K9 hK9 => ?_) AllReadyIn.nil
    go_simp
    refine hK9 _ _ ?_
    clear hK9 K9
    refine wpAnyIn_ready (rs := [0, 2]) (by kernel_rfl) (by simp) ?_
    refine AllReadyIn.cons rfl (fun K9 hK9 => ?_) ?_
    · go_simp
      refine hK9 _ _ ?_
      clear hK9 K9
      refine wpAnyIn_ready (rs := [2]) (by kernel_rfl) (by simp) ?_
      refine AllReadyIn.cons rfl (fun K9 hK9 => ?_) AllReadyIn.nil
      go_simp
      refine ⟨trivial, fun h => (by cases h), CallsIn.inRound _ (callsIn_wide.2 ((clone_any (span t s.fr s.rt) (s.rt + 1 - s.fr) HL (by omega) _ _ _ hnd).mono ?_))⟩
      rintro e w5 ⟨h, ch, rfl, hh, hrow, hb5⟩
      have v5 : w5.cell? ⟨w.heap.size + 1, 0, none⟩ = some (.slice (some ⟨G, 0, none⟩) pre.length c) := (bcell_drew hb5 _ _ hbl).trans v0
      have hbl5 : w.heap.size + 1 < w5.heap.size := lt_of_cell v5
      refine hK9 _ _ ?_
      clear hK9 K9
      refine wpAnyIn_ready (rs := [3]) (by kernel_rfl) (by simp) ?_
      refine AllReadyIn.cons rfl (fun K9 hK9 => ?_) AllReadyIn.nil
      go_simp
      refine hK9 _ _ ?_
      clear hK9 K9
      refine wpAnyIn_ready (rs := [4]) (by kernel_rfl) (by simp) ?_
      refine AllReadyIn.cons rfl (fun K9 hK9 => ?_) AllReadyIn.nil
      refine stepIn_append2 _ rfl (.tmp 13) (.tmp 16) 38 rfl w.heap.size 25 i0 _ 1 24 Try.underlying38 hi hz0 hz1 hz2 rfl (by decide) G pre.length c _ rfl ((hKd.below hb5).own.alloc _) ⟨_, 0, none⟩ 1 1 [.slice (some ⟨h, 0, none⟩) (s.rt + 1 - s.fr) ch] rfl rfl (new1_cells _ _) (one_slice _ _ _) (by unfold maxLen; omega) (by omega) (by have h9 := hb5.size; simp at h9 ⊢; omega) ?_
      intro g' c' w6 hown6 hgrow6 hwh
      obtain ⟨U', hK', hsub, hbut, q6, f6⟩ := hKb.push (s := s) (by omega) (by omega) (by omega) hb5 hh hrow HL.out hown6 hgrow6 hwh
      refine hK9 _ _ ?_
      clear hK9 K9 hown6 hgrow6 hwh hrow hb5
      refine wpAnyIn_ready (rs := [5]) (by kernel_rfl) (by simp) ?_
      refine AllReadyIn.cons rfl (fun K9 hK9 => ?_) AllReadyIn.nil
      go_simp
      refine hK9 _ _ ?_
      clear hK9 K9
      refine wpAnyIn_done (by kernel_rfl) ?_ _
      exact ⟨hbut, U', ⟨_, _, _, hK'⟩, fun k hk => (hsub k hk).imp id (fun h => by omega)⟩
    refine AllReadyIn.cons rfl (fun K9 hK9 => ?_) AllReadyIn.nil
    go_simp
    refine ⟨trivial, fun h => (by cases h), CallsIn.inRound _ (callsIn_wide.2 ((clone_any (span t s.fr s.rt) (s.rt + 1 - s.fr) HL (by omega) _ _ _ hnd).mono ?_))⟩
    rintro e w5 ⟨h, ch, rfl, hh, hrow, hb5⟩
    have v5 : w5.cell? ⟨w.heap.size + 1, 0, none⟩ = some (.slice (some ⟨G, 0, none⟩) pre.length c) := (bcell_drew hb5 _ _ hbl).trans v0
    have hbl5 : w.heap.size + 1 < w5.heap.size := lt_of_cell v5
    refine hK9 _ _ ?_
    clear hK9 K9
    refine wpAnyIn_ready (rs := [0, 3]) (by kernel_rfl) (by simp) ?_
    refine AllReadyIn.cons rfl (fun K9 hK9 => ?_) ?_
    · go_simp
      refine hK9 _ _ ?_
      clear hK9 K9
      refine wpAnyIn_ready (rs := [3]) (by kernel_rfl) (by simp) ?_
      refine AllReadyIn.cons rfl (fun K9 hK9 => ?_) AllReadyIn.nil
      go_simp
      refine hK9 _ _ ?_
      clear hK9 K9
      refine wpAnyIn_ready (rs := [4]) (by kernel_rfl) (by simp) ?_
      refine AllReadyIn.cons rfl (fun K9 hK9 => ?_) AllReadyIn.nil
      refine stepIn_append2 _ rfl (.tmp 13) (.tmp 16) 38 rfl w.heap.size 25 i0 _ 1 24 Try.underlying38 hi hz0 hz1 hz2 rfl (by decide) G pre.length c _ rfl ((hKd.below hb5).own.alloc _) ⟨_, 0, none⟩ 1 1 [.slice (some ⟨h, 0, none⟩) (s.rt + 1 - s.fr) ch] rfl rfl (new1_cells _ _) (one_slice _ _ _) (by unfold maxLen; omega) (by omega) (by have h9 := hb5.size; simp at h9 ⊢; omega) ?_
      intro g' c' w6 hown6 hgrow6 hwh
      obtain ⟨U', hK', hsub, hbut, q6, f6⟩ := hKb.push (s := s) (by omega) (by omega) (by omega) hb5 hh hrow HL.out hown6 hgrow6 hwh
      refine hK9 _ _ ?_
      clear hK9 K9 hown6 hgrow6 hwh hrow hb5
      refine wpAnyIn_ready (rs := [5]) (by kernel_rfl) (by simp) ?_
      refine AllReadyIn.cons rfl (fun K9 hK9 => ?_) AllReadyIn.nil
      go_simp
      refine hK9 _ _ ?_
      clear hK9 K9
      refine wpAnyIn_done (by kernel_rfl) ?_ _
      exact ⟨hbut, U', ⟨_, _, _, hK'⟩, fun k hk => (hsub k hk).imp id (fun h => by omega)⟩
    refine AllReadyIn.cons rfl (fun K9 hK9 => ?_) AllReadyIn.nil
    go_simp
    refine hK9 _ _ ?_
    clear hK9 K9
    refine wpAnyIn_ready (rs := [0]) (by kernel_rfl) (by simp) ?_
    refine AllReadyIn.cons rfl (fun K9 hK9 => ?_) AllReadyIn.nil
    go_simp
    refine hK9 _ _ ?_
    clear hK9 K9
    refine wpAnyIn_ready (rs := [4]) (by kernel_rfl) (by simp) ?_
    refine AllReadyIn.cons rfl (fun K9 hK9 => ?_) AllReadyIn.nil
    refine stepIn_append2 _ rfl (.tmp 13) (.tmp 16) 38 rfl w.heap.size 25 i0 _ 1 24 Try.underlying38 hi hz0 hz1 hz2 rfl (by decide) G pre.length c _ rfl ((hKd.below hb5).own.alloc _) ⟨_, 0, none⟩ 1 1 [.slice (some ⟨h, 0, none⟩) (s.rt + 1 - s.fr) ch] rfl rfl (new1_cells _ _) (one_slice _ _ _) (by unfold maxLen; omega) (by omega) (by have h9 := hb5.size; simp at h9 ⊢; omega) ?_
    intro g' c' w6 hown6 hgrow6 hwh
    obtain ⟨U', hK', hsub, hbut, q6, f6⟩ := hKb.push (s := s) (by omega) (by omega) (by omega) hb5 hh hrow HL.out hown6 hgrow6 hwh
    refine hK9 _ _ ?_
    clear hK9 K9 hown6 hgrow6 hwh hrow hb5
    refine wpAnyIn_ready (rs := [5]) (by kernel_rfl) (by simp) ?_
    refine AllReadyIn.cons rfl (fun K9 hK9 => ?_) AllReadyIn.nil
    go_simp
    refine hK9 _ _ ?_
    clear hK9 K9
    refine wpAnyIn_done (by kernel_rfl) ?_ _
    exact ⟨hbut, U', ⟨_, _, _, hK'⟩, fun k hk => (hsub k hk).imp id (fun h => by omega)⟩
  case done =>
    rintro xs U W rfl ⟨G, c, ps, hK⟩ hD
    have hput : But (· = W1.heap.size) W (W.putObj W1.heap.size (.deferred none)) := But.putObj _ _ _ rfl
    have hq := hK.box.cell
    have hlt := hK.box.lt
    have hne : ∀ h ys, Row W h ys → h ≠ W1.heap.size := by
      rintro h ys ⟨cur, rest, hh, _⟩ rfl
      rw [hD] at hh
      cases hh
    have hGne : G ≠ W1.heap.size := by
      rintro rfl
      obtain ⟨cur, rest, hh, _⟩ := (owns_ownR hK.rag.own).2
      rw [hD] at hh
      cases hh
    have hR : Rag (W.putObj W1.heap.size (.deferred none)) w.heap.size G ps (kidsIn t xs) := by
      refine (hK.rag.but' hput hGne ?_).rag
      intro p hp
      obtain ⟨i, hi, rfl⟩ := List.getElem_of_mem hp
      exact hne _ _ (hK.rag.rows i hi (by rw [← hK.rag.len]; exact hi))
    have hb9 := hK.below.trans (hput.below hK.below.size (fun k hk => by omega))
    have hxq : xs.length = q := HQ.out
    rw [hxq] at hq
    rw [hS1] at hD hR hb9 ⊢
    clear hK hne hGne hput hI0
    gi_wp2
    refine ⟨by simp, .inl ⟨_, _, rfl, run_takeDeferred hD, ?_⟩⟩
    exact ⟨_, results_tmp rfl _ _ _, _, _, _, rfl, hR, hb9⟩

set_option maxHeartbeats 1000000 in
theorem implKids_badC (t : List Nd) (m cm : Nat) (HM : Hid (t.length = m)) (hm : m ≤ 1048576) (g : Nat) (w : World) (hx : Row w g t) (hd : ¬ 0 < deepOf t) :
    Calls Try.prog 31 #[.slice (some ⟨g, 0, none⟩) m cm] w fun e w' => ∃ G c, e = .returned (.slice (some ⟨G, 0, none⟩) 0 c) ∧ Rag w' w.heap.size G [] [] ∧ Below w.heap.size w w' := by
  have hA : Below w.heap.size w ((w.alloc (.cells #[] 25)).alloc (.cells #[.slice (some ⟨w.heap.size, 0, none⟩) 0 0] 38)) := ((Below.refl _ w).alloc (Nat.le_refl _) _).alloc (by simp) _
  have hO : RagO ((w.alloc (.cells #[] 25)).alloc (.cells #[.slice (some ⟨w.heap.size, 0, none⟩) 0 0] 38)) w.heap.size w.heap.size 0 0 [] [] := (RagO.empty (w := w) (B := w.heap.size) (Nat.le_refl _)).below ((Below.refl _ _).alloc (Nat.le_refl _) _)
  have hbx : Box1 ((w.alloc (.cells #[] 25)).alloc (.cells #[.slice (some ⟨w.heap.size, 0, none⟩) 0 0] 38)) (w.heap.size + 1) 38 (.slice (some ⟨w.heap.size, 0, none⟩) 0 0) := by
    have h9 := Box1.new (w.alloc (.cells #[] 25)) 38 (.slice (some ⟨w.heap.size, 0, none⟩) 0 0)
    rw [World.size_alloc] at h9
    exact h9
  have hxA := hx.below hA
  have e1 : decide (0 < deepOf t) = false := by simp; omega
  go_enter Try.func31, Try.ntmps31
  go_wp2_with fail
  refine (implGood_any t m HM hm _ _ _ hxA.nodes).mono ?_
  rintro e w1 ⟨rfl, hb⟩
  rw [e1]
  have hR := (hO.below hb).rag
  have hbb := Below.step hA hb
  have hc := (hbx.below hb hbx.lt).cell
  clear hx hxA hO hb hA e1 hbx
  go_wp2
  go_ret
  exact ⟨_, _, rfl, hR, hbb⟩

theorem implKids_good (t : List Nd) (m q : Nat) (HM : Hid (t.length = m)) (g : Nat) (w : World) (hx : Row w g t) (hd : 0 < deepOf t) (S ys K : List Sp) (HA : Hid (after t m = some (S, ys))) (HK : Hid (KidsAt t ys (m - 1) K)) (HQ : Hid (K.length = q)) :
    Calls Try.prog 31 #[.slice (some ⟨g, 0, none⟩) m m] w fun e w' => ∃ G c ps, e = .returned (.slice (some ⟨G, 0, none⟩) q c) ∧ Rag w' w.heap.size G ps (kidsIn t K) ∧ Below w.heap.size w w' :=
  implKids_goodC t m q m (Nat.le_refl _) HM g w hx hd S ys K HA HK HQ

theorem implKids_bad (t : List Nd) (m : Nat) (HM : Hid (t.length = m)) (hm : m ≤ 1048576) (g : Nat) (w : World) (hx : Row w g t) (hd : ¬ 0 < deepOf t) :
    Calls Try.prog 31 #[.slice (some ⟨g, 0, none⟩) m m] w fun e w' => ∃ G c, e = .returned (.slice (some ⟨G, 0, none⟩) 0 c) ∧ Rag w' w.heap.size G [] [] ∧ Below w.heap.size w w' :=
  implKids_badC t m m HM hm g w hx hd

end Go.Proofs.Ytkmlfpfgiblcdaa

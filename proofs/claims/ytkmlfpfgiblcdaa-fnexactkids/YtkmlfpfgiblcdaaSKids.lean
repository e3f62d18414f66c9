
import Derived.Test.YtkmlfpfgiblcdaaRag
import Derived.Test.YtkmlfpfgiblcdaaCopy
namespace Go.Proofs.Ytkmlfpfgiblcdaa
open Go.RowKit

/-- The kids themselves. -/
def kidsIn (t : List Nd) (K : List Sp) : List (List Nd) := K.map fun s => span t s.fr s.rt

theorem Try.infoSS : (Try.prog.info? 25).map (fun i => (i.zero, i.size, i.bytes)) = some (some (.slice none 0 0), 1, 24) := by kernel_rfl

theorem kidsIn_step (t : List Nd) (K : List Sp) (k : Nat) (h : k < K.length) : kidsIn t (K.take (k + 1)) = kidsIn t (K.take k) ++ [span t K[k].fr K[k].rt] := by
  rw [List.take_succ_eq_append_getElem h]
  simp only [kidsIn, List.map_append, List.map_cons, List.map_nil]

theorem new1_cells (w : World) (v : Value) : ∀ j u, [v][j]? = some u → (w.alloc (.cells #[v] 25)).cell? (Addr.add ⟨w.heap.size, 0, none⟩ j) = some u := by
  intro j u hj
  have ad : Addr.add ⟨w.heap.size, 0, none⟩ j = ⟨w.heap.size, j, none⟩ := by
    unfold Addr.add
    split
    · simp_all
    · simp
  rw [ad, cell_of_row _ w.heap.size j _ 25 (0, 0) (heap_alloc_new _ _), ← hj]
  simp

theorem one_slice (a : Option Addr) (n c : Nat) : ∀ u ∈ [Value.slice a n c], u.oneCell' = true := by
  intro u hu
  simp at hu
  subst hu
  rfl

theorem kids_push {w3 wr w5 w6 : World} {B G c k g' c' h ch l : Nat} {ps : List (Nat × Nat)} {kss : List (List Nd)} {ks : List Nd} (hO : RagO wr B G c k ps kss) (hb : But (· = B) w3 wr) (hG : G = B ∨ w3.heap.size ≤ G)
    (hb5 : Below wr.drew.heap.size wr.drew w5) (hh : wr.drew.heap.size ≤ h) (hrow : Row w5 h ks) (hB : B < w3.heap.size) (hl : ks.length = l)
    (hown6 : w6.ownsRow B 25 1 (.slice (some ⟨g', 0, none⟩) (k + 1) c') (k + 1) (leadsC ps kss ++ [.slice (some ⟨h, 0, none⟩) l ch]))
    (hgrow6 : (w5.alloc (.cells #[.slice (some ⟨h, 0, none⟩) l ch] 25)).grownBy w6 (some G)) (hwh : g' = G ∨ g' = (w5.alloc (.cells #[.slice (some ⟨h, 0, none⟩) l ch] 25)).heap.size) :
    RagO w6 B g' c' (k + 1) (ps ++ [(h, ch)]) (kss ++ [ks]) ∧ (g' = B ∨ w3.heap.size ≤ g') ∧ But (· = B) w3 w6 := by
  subst hl
  have hbd := undrew hb5
  have s1 := hb.size
  have s2 := hbd.size
  have hh' : wr.heap.size ≤ h := hh
  have hba : Below wr.heap.size wr (w5.alloc (.cells #[.slice (some ⟨h, 0, none⟩) ks.length ch] 25)) := hbd.alloc s2 _
  refine ⟨RagO.push hO (But.ofBelow hba) (hrow.below ((Below.refl _ w5).alloc (Nat.le_refl _) _)) hh' (by omega) hown6 hgrow6, ?_, ?_⟩
  · rcases hwh with rfl | rfl
    · exact hG
    · right; simp; omega
  · have s3 := hba.size
    refine ⟨hgrow6.os.trans (hba.os.trans hb.os), hgrow6.tape.trans (hba.tape.trans hb.tape), hgrow6.output.trans (hba.output.trans hb.output), Nat.le_trans s1 (Nat.le_trans s3 hgrow6.size), ?_⟩
    intro b hb1 hb2
    refine (hgrow6.block b (by omega) ?_).trans ((hba.block b (by omega)).trans (hb.block b hb1 hb2))
    intro e
    cases e
    omega

set_option maxHeartbeats 1000000 in
theorem specKids_bad (t : List Nd) (m : Nat) (HM : Hid (t.length = m)) (hm : m ≤ 1048576) (g : Nat) (w : World) (hx : Row w g t) (hd : ¬ 0 < deepOf t) :
    Calls Try.prog 30 #[.slice (some ⟨g, 0, none⟩) m m] w fun e w' => ∃ G c, e = .returned (.slice (some ⟨G, 0, none⟩) 0 c) ∧ Rag w' w.heap.size G [] [] ∧ Below w.heap.size w w' := by
  have hO := RagO.empty (w := w) (B := w.heap.size) (Nat.le_refl _)
  have hA : Below w.heap.size w (w.alloc (.cells #[] 25)) := (Below.refl _ w).alloc (Nat.le_refl _) _
  have hxA := hx.below hA
  have e1 : decide (0 < deepOf t) = false := by simp; omega
  go_enter Try.func30, Try.ntmps30
  go_wp2_with fail
  refine (specGood_any t m HM hm _ _ _ hxA.nodes).mono ?_
  rintro e w1 ⟨rfl, hb⟩
  rw [e1]
  have hR := (hO.below hb).rag
  have hbb := Below.step hA hb
  clear hx hxA hO hb hA e1
  go_wp2
  go_ret
  exact ⟨_, _, rfl, hR, hbb⟩

set_option maxHeartbeats 4000000 in
theorem specKids_good (t : List Nd) (m q : Nat) (HM : Hid (t.length = m)) (g : Nat) (w : World) (hx : Row w g t) (hd : 0 < deepOf t) (S ys K : List Sp) (HA : Hid (after t m = some (S, ys))) (HK : Hid (KidsAt t ys (m - 1) K)) (HQ : Hid (K.length = q)) :
    Calls Try.prog 30 #[.slice (some ⟨g, 0, none⟩) m m] w fun e w' => ∃ G c ps, e = .returned (.slice (some ⟨G, 0, none⟩) q c) ∧ Rag w' w.heap.size G ps (kidsIn t K) ∧ Below w.heap.size w w' := by
  obtain ⟨i0, hi, hz0, hz1, hz2⟩ := info_parts Try.infoSS
  obtain ⟨h0, h6, _, _, _, _⟩ := deep_after HM.out hd
  have HYL : Hid (ys.length = m) := (after_fine HA.out).len
  have HSZ : Hid (sizesOf t = ys.map szOf) := by show sizesOf t = _; unfold sizesOf; rw [HM.out, HA.out]
  have hO := RagO.empty (w := w) (B := w.heap.size) (Nat.le_refl _)
  have hA : Below w.heap.size w (w.alloc (.cells #[] 25)) := (Below.refl _ w).alloc (Nat.le_refl _) _
  have hxA := hx.below hA
  have e1 : decide (0 < deepOf t) = true := by simp [hd]
  have hqm : q ≤ 6000 := by have := HK.out.len; have := HQ.out; omega
  go_enter Try.func30, Try.ntmps30
  go_wp2_with fail
  refine (specGood_any t m HM (by omega) _ _ _ hxA.nodes).mono ?_
  rintro e w1 ⟨rfl, hb⟩
  rw [e1]
  have hO1 := hO.below hb
  have hb1 := Below.step hA hb
  have hx1 := hxA.below hb
  have hS1 : w.heap.size < w1.heap.size := by have := hb.size; simp at this; omega
  clear hxA hO hb hA e1 hd
  go_wp2_with fail
  refine (sizes_any t m HM h6 _ _ w1 hx1.nodes).mono ?_
  rintro e w2 ⟨gz, cz, n, rfl, hz, hb2⟩
  rw [HSZ.out] at hz
  have hnm : n = m := by have h9 := hz.1; have := HYL.out; simp at h9; omega
  subst hnm
  have hO2 := hO1.below hb2
  have hx2 := hx1.below hb2
  have hbb2 := Below.step hb1 hb2
  have hS2 := hb2.size
  clear hx1 hO1 hb1 hb2
  have e2 : ((n : Int) - 1) = ((n - 1 : Nat) : Int) := by omega
  go_wp2_with fail
  refine (roots_any t ys K n (n - 1) q HM h6 HK HQ (by omega) HYL _ _ gz cz _ w2 hx2.nodes hz).mono ?_
  rintro e w3 ⟨gr, rfl, hrt, hb3⟩
  have hO3 := hO2.below hb3
  have hx3 := hx2.below hb3
  have hz3 := hz.below hb3
  have hbb3 := Below.step hbb2 hb3
  have HB3 : Hid (Below w.heap.size w w3) := hbb3
  have HGL : Hid (g < w.heap.size) := hx.lt
  have HWS : Hid (w.heap.size < w1.heap.size ∧ w1.heap.size ≤ w2.heap.size ∧ w2.heap.size ≤ w3.heap.size) := ⟨hS1, hS2, hb3.size⟩
  clear hx2 hO2 hbb2 hb3 hz hx hS1 hS2
  go_wp2
  go_loopw [3, 6] (fun v p wr => ∃ (k G c : Nat) (ps : List (Nat × Nat)), k ≤ q ∧ p = .int .i64 k ∧ v = .slice (some ⟨G, 0, none⟩) k c ∧ RagO wr w.heap.size G c k ps (kidsIn t (K.take k)) ∧ (G = w.heap.size ∨ w3.heap.size ≤ G) ∧ But (· = w.heap.size) w3 wr) (fun _ p _ => q - (intOf p).toNat)
  case atStart => exact ⟨0, w.heap.size, 0, [], Nat.zero_le _, rfl, rfl, hO3, Or.inl rfl, But.refl _ _⟩
  case round =>
    obtain ⟨k, G, c, ps, hk, rfl, rfl, hO, hG, hb⟩ := hrel
    clear hO3 hbb3
    by_cases hlt : k < q
    · have hltk : k < K.length := by have := HQ.out; omega
      obtain ⟨s, hs⟩ : ∃ s, K[k] = s := ⟨_, rfl⟩
      obtain ⟨hmem, hfr, hrn⟩ := HK.out.mem k hltk
      have HT : Hid (kidsIn t (K.take (k + 1)) = kidsIn t (K.take k) ++ [span t s.fr s.rt]) := by rw [← hs]; exact kidsIn_step t K k hltk
      rw [hs] at hmem hfr hrn
      have cr : wr.cell? ⟨gr, k, none⟩ = some (.int .i64 (s.rt : Int)) := by
        have h9 : Ints wr w2.heap.size gr q q (rts K) := ⟨hrt.1, owns_but hrt.2 hb (by have := HB3.out.size; have := hrt.block; have := HWS.out; omega)⟩
        rw [h9.at k (by simp [rts]; exact hltk)]
        simp [rts, hs]
      have cz1 : wr.cell? ⟨gz, s.rt, none⟩ = some (.int .i64 ((s.rt : Int) - (s.fr : Int) + 1)) := by
        have h9 : Ints wr w1.heap.size gz cz n (ys.map szOf) := ⟨hz3.1, owns_but hz3.2 hb (by have := hz3.block; have := HWS.out; omega)⟩
        have h8 := (List.getElem?_eq_some_iff.1 hmem)
        obtain ⟨h8a, h8b⟩ := h8
        rw [h9.at s.rt (by simp; exact h8a)]
        simp [szOf, h8b]
      have hxr : Row wr g t := hb.row hx3 (by have := HGL.out; omega)
      have hnd := (span_nodes hxr s.fr s.rt (by have := HM.out; omega)).below ((Below.refl _ wr).drew)
      have HL : Hid ((span t s.fr s.rt).length = s.rt + 1 - s.fr) := span_length t s.fr s.rt (by have := HM.out; omega)
      obtain ⟨f, hf⟩ : ∃ f, s.fr = f := ⟨_, rfl⟩
      obtain ⟨r, hr⟩ : ∃ r, s.rt = r := ⟨_, rfl⟩
      rw [hf, hr] at HT HL hnd hfr
      rw [hr] at hrn cr
      rw [hf, hr] at cz1
      have n1 : IntKind.i64.wrap ((r : Int) - ((r : Int) - (f : Int) + 1)) = (f : Int) - 1 := by rw [IntWalk.i64_in _ (by omega)]; omega
      have n2 : IntKind.i64.wrap (f : Int) = (f : Int) := by rw [IntWalk.i64_in _ (by omega)]
      have n3 : IntKind.i64.wrap ((r : Int) + 1) = ((r + 1 : Nat) : Int) := by rw [IntWalk.i64_in _ (by omega)]; omega
      have n4 : (r : Int) + 1 ≤ (n : Int) := by omega
      have n5 : (f : Int) ≤ (r : Int) + 1 := by omega
      have n7 : 0 ≤ (r : Int) + 1 := by omega
      have n6 : ¬ n = f := by omega
      have hgl1 : gr < wr.heap.size := lt_of_cell cr
      have hgl2 : gz < wr.heap.size := lt_of_cell cz1
      have hrn2 : r < n := by omega
      clear hs hmem hf hr hx3 hrt hz3 hxr
      have hownD := hO.below (Below.refl _ wr).drew
      have hob := hO.lt
      go_wp2_with fail
      go_region_law (first
        | (go_simp; refine (copy_any (span t f r) (r + 1 - f) HL (by omega) _ _ _ hnd).mono ?_; rintro e w5 ⟨h, ch, rfl, hh, hrow, hb5⟩)
        | (refine step_append2 _ rfl (.tmp 26) (.tmp 48) 38 rfl w.heap.size 25 i0 _ 1 24 Try.underlying38 hi hz0 hz1 hz2 rfl (by decide) G k c _ rfl ((hownD.below hb5).own.alloc _) ⟨_, 0, none⟩ 1 1 [.slice (some ⟨h, 0, none⟩) (r + 1 - f) ch] rfl rfl (new1_cells _ _) (one_slice _ _ _) ?_ ?_ ?_ ?_; (unfold maxLen; omega); omega; (have h9 := hb5.size; have h8 := hb.size; have h7 := HB3.out.size; simp at h9 ⊢; omega); intro g' c' w6 hown6 hgrow6 hwh))
      all_goals
        obtain ⟨hO6, hG6, hb6⟩ := kids_push hO hb hG hb5 hh hrow (by have := HB3.out.size; have := HWS.out; omega) HL.out hown6 hgrow6 hwh
        rw [← HT.out] at hO6
        clear hownD hO hb hb5 hrow hown6 hgrow6 hwh cz1 cr hnd hG n1 n2 n3 n4 n5 n6 n7
        go_wp2
        go_roundw
        case rel => exact ⟨k + 1, g', c', _, by omega, by go_num, rfl, hO6, hG6, hb6⟩
        case measure => simp [intOf]; omega
    · have HE : Hid (K.take k = K) := List.take_of_length_le (by have := HQ.out; omega)
      have hke : k = q := by omega
      subst hke
      have hR := hO.rag
      rw [HE.out] at hR
      have hbb := HB3.out.trans (hb.below HB3.out.size (fun k hk => by omega))
      clear hO hb
      go_wp2
      go_ret
      exact ⟨_, _, _, rfl, hR, hbb⟩

end Go.Proofs.Ytkmlfpfgiblcdaa


import Derived.Test.YtkmlfpfgiblcdaaBack
import Derived.Test.YtkmlfpfgiblcdaaRoots
import Derived.Test.YtkmlfpfgiblcdaaSpRow
namespace Go.Proofs.Ytkmlfpfgiblcdaa
open Go.RowKit Go.Shelf

attribute [local go_sem] Oper.semAt_some

theorem make_spans (n : Nat) (h : n ≤ 6000) (w : World) :
    (Instr.makeSlice 70 (.int .i64 (n : Int)) (.int .i64 (n : Int))).run Try.prog w = .ok (.slice (some ⟨w.heap.size, 0, none⟩) n n) (w.alloc (.cells (madeCells #[.int .i64 0, .int .i64 0, .int .i64 0] (n * 3)) 61)) := by
  obtain ⟨i, hi, hzz⟩ := Option.map_eq_some_iff.1 Try.infoSp
  simp only [Prod.mk.injEq] at hzz
  obtain ⟨hz, hs, hb⟩ := hzz
  have hr := run_make (P := Try.prog) w 70 61 i _ Try.underlying70 hi hz .i64 .i64 n n (by omega) (Int.le_refl _) (by rw [hb]; omega) (by omega)
  simp only [Int.toNat_natCast, hs] at hr
  exact hr

set_option maxHeartbeats 400000 in
theorem backward_any (g q : Nat) (w : World) :
    Calls Try.prog 55 #[.slice (some ⟨g, 0, none⟩) q q] w fun e w' => e = .returned (.func (.func 57) #[] #[.pointer (some ⟨w.heap.size, 0, none⟩)]) ∧ w' = w.alloc (.cells #[.slice (some ⟨g, 0, none⟩) q q] 70) := by
  go_enter Try.func55, Try.ntmps55
  go_wp2
  go_ret
  exact ⟨rfl, rfl⟩

theorem But.ofBelow' {B : Nat} {a b : World} (h : Below B a b) : But (B ≤ ·) a b := ⟨h.os, h.tape, h.output, h.size, fun i _ hn => h.block i (by omega)⟩

/-- What the loop of kidSpans keeps: z the place of its boxes. -/
structure KRnd (w : World) (z ga m ca q B : Nat) (ys K : List Sp) (pre : List (Nat × Sp)) (W : World) : Prop where
  len : pre.length ≤ q
  all : Box1 W z 70 (.slice (some ⟨ga, 0, none⟩) m ca)
  kids : OwnQ W (z + 1) (flat3 (List.replicate (q - pre.length) Sp.zero ++ K.drop (q - pre.length)))
  box : Box1 W (z + 1 + 1) 70 (.slice (some ⟨z + 1, 0, none⟩) q q)
  next : ∃ a : Int, Box1 W (z + 1 + 1 + 1) 3 (.int .i64 a) ∧ ∀ r, r + 1 + pre.length = q → ∀ h' : r < K.length, a = (K[r].rt : Int)
  back : Box1 W (z + 1 + 1 + 1 + 1) 70 (.slice (some ⟨z + 1, 0, none⟩) q q)
  free : Free W B ga m ca ys
  below : Below w.heap.size w W

theorem KRnd.but {S : Nat → Prop} {w A C : World} {z ga m ca q B : Nat} {ys K : List Sp} {pre : List (Nat × Sp)} (h : KRnd w z ga m ca q B ys K pre A) (hb : But S A C) (hS : ∀ k, S k → z + 5 ≤ k) (hga : ga < z) (hw : w.heap.size ≤ z) : KRnd w z ga m ca q B ys K pre C := by
  have hz := h.all.lt
  obtain ⟨a, ha, hr⟩ := h.next
  have hn : ∀ k, k < z + 5 → ¬ S k := fun k hk hs => by have := hS k hs; omega
  exact ⟨h.len, h.all.but hb (hn _ (by omega)), h.kids.but hb (hn _ (by omega)), h.box.but hb (hn _ (by omega)), ⟨a, ha.but hb (hn _ (by omega)), hr⟩, h.back.but hb (hn _ (by omega)), h.free.but hb (hn _ (by omega)),
    h.below.trans (hb.below (by omega) (fun k hk => by have := hS k hk; omega))⟩

theorem drop_pred {α : Type} (K : List α) (r : Nat) (h : r < K.length) : K.drop r = K[r] :: K.drop (r + 1) := List.drop_eq_getElem_cons h

theorem KRnd.step {w Wb : World} {z ga m ca q B k : Nat} {ys K : List Sp} {pre : List (Nat × Sp)} {x : Nat × Sp} {s : Sp} (h : KRnd w z ga m ca q B ys K pre Wb) (hk : k + 1 + pre.length = q) (hq : K.length = q) (hs : K[k]? = some s)
    (hnext : ∀ r, r + 1 = k → ∀ h' : r < K.length, (s.fr : Int) - 1 = (K[r].rt : Int)) (hga : ga < z) (hw : w.heap.size ≤ z) :
    KRnd w z ga m ca q B ys K (pre ++ [x]) ((((Wb.setCell ⟨z + 1, k * 3, none⟩ (.int .i64 (s.fr : Int))).setCell ⟨z + 1, k * 3 + 1, none⟩ (.int .i64 (s.rt : Int))).setCell ⟨z + 1, k * 3 + 2, none⟩ (.int .i64 (s.dp : Int))).drew.setCell ⟨z + 1 + 1 + 1, 0, none⟩ (.int .i64 ((s.fr : Int) - 1))) := by
  have hz := h.all.lt
  obtain ⟨a, ha, _⟩ := h.next
  have b0 : But (· = z + 1) Wb (((Wb.setCell ⟨z + 1, k * 3, none⟩ (.int .i64 (s.fr : Int))).setCell ⟨z + 1, k * 3 + 1, none⟩ (.int .i64 (s.rt : Int))).setCell ⟨z + 1, k * 3 + 2, none⟩ (.int .i64 (s.dp : Int))) :=
    (((But.refl (· = z + 1) Wb).setCell (p := ⟨z + 1, k * 3, none⟩) rfl _).setCell (p := ⟨z + 1, k * 3 + 1, none⟩) rfl _).setCell (p := ⟨z + 1, k * 3 + 2, none⟩) rfl _
  have b1 : But (· = z + 1) Wb (((Wb.setCell ⟨z + 1, k * 3, none⟩ (.int .i64 (s.fr : Int))).setCell ⟨z + 1, k * 3 + 1, none⟩ (.int .i64 (s.rt : Int))).setCell ⟨z + 1, k * 3 + 2, none⟩ (.int .i64 (s.dp : Int))).drew := b0.trans (But.ofBelow (Below.refl _ _).drew)
  generalize hW2 : (((Wb.setCell ⟨z + 1, k * 3, none⟩ (.int .i64 (s.fr : Int))).setCell ⟨z + 1, k * 3 + 1, none⟩ (.int .i64 (s.rt : Int))).setCell ⟨z + 1, k * 3 + 2, none⟩ (.int .i64 (s.dp : Int))).drew = W2 at b1 ⊢
  have hl0 : q - pre.length = k + 1 := by omega
  have hl1 : q - (pre ++ [x]).length = k := by simp; omega
  have hkK : k < K.length := by omega
  have hKk : K[k] = s := by
    rw [List.getElem?_eq_getElem hkK] at hs
    simpa using hs
  have hown : OwnQ W2 (z + 1) (flat3 (List.replicate k Sp.zero ++ K.drop k)) := by
    rw [← hW2]
    have h9 := h.kids
    rw [hl0] at h9
    have h7 := h9.put k (by simp; omega) s
    have e : (List.replicate (k + 1) Sp.zero ++ K.drop (k + 1)).set k s = List.replicate k Sp.zero ++ K.drop k := by
      rw [drop_pred K k hkK, hKk, List.set_append_left _ _ (by simp), List.replicate_succ', List.set_append_right _ _ (by simp)]
      simp
    rw [e] at h7
    exact h7.but (S := fun _ => False) (But.ofBelow (Below.refl _ _).drew) (fun h => h)
  have b2 : But (· = z + 1 + 1 + 1) W2 (W2.setCell ⟨z + 1 + 1 + 1, 0, none⟩ (.int .i64 ((s.fr : Int) - 1))) := (But.refl (· = z + 1 + 1 + 1) W2).setCell (p := ⟨z + 1 + 1 + 1, 0, none⟩) rfl _
  have ha2 : Box1 W2 (z + 1 + 1 + 1) 3 (.int .i64 a) := ha.but b1 (by omega)
  refine ⟨by simp; omega, (h.all.but b1 (by omega)).but b2 (by omega), ?_, (h.box.but b1 (by omega)).but b2 (by omega), ⟨_, ha2.set _, ?_⟩, (h.back.but b1 (by omega)).but b2 (by omega), (h.free.but b1 (by omega)).but b2 (by omega), ?_⟩
  · rw [hl1]
    exact hown.but b2 (by omega)
  · intro r hr h'
    exact hnext r (by simp at hr; omega) h'
  · exact (h.below.trans (b1.below (by omega) (fun k hk => by omega))).trans (b2.below (by have := h.below.size; have := b1.size; omega) (fun k hk => by omega))

theorem boxesK_facts {w w2 : World} {ga m ca q B : Nat} {ys K : List Sp} {a : Int} (hF : Free w2 B ga m ca ys) (hb : Below w.heap.size w w2) (hq : K.length = q) (ha : ∀ r, r + 1 = q → ∀ h' : r < K.length, a = (K[r].rt : Int)) :
    KRnd w w2.heap.size ga m ca q B ys K [] (((((w2.alloc (.cells #[.slice (some ⟨ga, 0, none⟩) m ca] 70)).alloc (.cells (madeCells #[.int .i64 0, .int .i64 0, .int .i64 0] (q * 3)) 61)).alloc (.cells #[.slice (some ⟨w2.heap.size + 1, 0, none⟩) q q] 70)).alloc (.cells #[.int .i64 a] 3)).alloc (.cells #[.slice (some ⟨w2.heap.size + 1, 0, none⟩) q q] 70)) := by
  have hal : ∀ (W : World) (o : Obj), But (fun _ => False) W (W.alloc o) := fun W o => But.ofBelow ((Below.refl _ W).alloc (Nat.le_refl _) o)
  have b0 := Box1.new w2 70 (.slice (some ⟨ga, 0, none⟩) m ca)
  have f1 := hF.but (hal _ (.cells #[.slice (some ⟨ga, 0, none⟩) m ca] 70)) (fun h => h)
  have z1 : (w2.alloc (.cells #[.slice (some ⟨ga, 0, none⟩) m ca] 70)).heap.size = w2.heap.size + 1 := by simp
  have B1 : Below w.heap.size w (w2.alloc (.cells #[.slice (some ⟨ga, 0, none⟩) m ca] 70)) := hb.alloc hb.size _
  generalize (w2.alloc (.cells #[.slice (some ⟨ga, 0, none⟩) m ca] 70)) = v1 at *
  have o1 := OwnQ.made v1 q
  have b02 := b0.alloc (.cells (madeCells #[.int .i64 0, .int .i64 0, .int .i64 0] (q * 3)) 61)
  have f2 := f1.but (hal _ (.cells (madeCells #[.int .i64 0, .int .i64 0, .int .i64 0] (q * 3)) 61)) (fun h => h)
  have z2 : (v1.alloc (.cells (madeCells #[.int .i64 0, .int .i64 0, .int .i64 0] (q * 3)) 61)).heap.size = w2.heap.size + 1 + 1 := by simp [z1]
  have B2 : Below w.heap.size w (v1.alloc (.cells (madeCells #[.int .i64 0, .int .i64 0, .int .i64 0] (q * 3)) 61)) := B1.alloc B1.size _
  rw [z1] at o1
  generalize (v1.alloc (.cells (madeCells #[.int .i64 0, .int .i64 0, .int .i64 0] (q * 3)) 61)) = v2 at *
  have b3 := Box1.new v2 70 (.slice (some ⟨w2.heap.size + 1, 0, none⟩) q q)
  rw [z2] at b3
  have o2 := o1.alloc (.cells #[.slice (some ⟨w2.heap.size + 1, 0, none⟩) q q] 70)
  have b03 := b02.alloc (.cells #[.slice (some ⟨w2.heap.size + 1, 0, none⟩) q q] 70)
  have f3 := f2.but (hal _ (.cells #[.slice (some ⟨w2.heap.size + 1, 0, none⟩) q q] 70)) (fun h => h)
  have z3 : (v2.alloc (.cells #[.slice (some ⟨w2.heap.size + 1, 0, none⟩) q q] 70)).heap.size = w2.heap.size + 1 + 1 + 1 := by simp [z2]
  have B3 : Below w.heap.size w (v2.alloc (.cells #[.slice (some ⟨w2.heap.size + 1, 0, none⟩) q q] 70)) := B2.alloc B2.size _
  generalize (v2.alloc (.cells #[.slice (some ⟨w2.heap.size + 1, 0, none⟩) q q] 70)) = v3 at *
  have b4 := Box1.new v3 3 (.int .i64 a)
  rw [z3] at b4
  have o3 := o2.alloc (.cells #[.int .i64 a] 3)
  have b04 := b03.alloc (.cells #[.int .i64 a] 3)
  have b34 := b3.alloc (.cells #[.int .i64 a] 3)
  have f4 := f3.but (hal _ (.cells #[.int .i64 a] 3)) (fun h => h)
  have z4 : (v3.alloc (.cells #[.int .i64 a] 3)).heap.size = w2.heap.size + 1 + 1 + 1 + 1 := by simp [z3]
  have B4 : Below w.heap.size w (v3.alloc (.cells #[.int .i64 a] 3)) := B3.alloc B3.size _
  generalize (v3.alloc (.cells #[.int .i64 a] 3)) = v4 at *
  have b5 := Box1.new v4 70 (.slice (some ⟨w2.heap.size + 1, 0, none⟩) q q)
  rw [z4] at b5
  refine ⟨Nat.zero_le _, b04.alloc _, ?_, b34.alloc _, ⟨a, b4.alloc _, fun r hr h' => ha r (by simpa using hr) h'⟩, b5, f4.but (hal _ _) (fun h => h), B4.alloc B4.size _⟩
  have e : List.replicate (q - ([] : List (Nat × Sp)).length) Sp.zero ++ K.drop (q - ([] : List (Nat × Sp)).length) = List.replicate q Sp.zero := by
    simp [hq]
  rw [e]
  exact o3.alloc _

set_option maxRecDepth 100000 in
set_option maxHeartbeats 2000000 in
theorem spansBelow_any (t : List Nd) (m q r0 : Nat) (HM : Hid (t.length = m)) (hm : m ≤ 6000) (h0 : r0 < m) (ys K : List Sp) (HK : Hid (KidsAt t ys r0 K)) (HQ : Hid (K.length = q)) (ao : Option Addr) (cap : Nat) (w : World) (hx : Nodes w ao t) (B ga ca : Nat) (hF : Free w B ga m ca ys) :
    Calls Try.prog 53 #[.slice ao m cap, .slice (some ⟨ga, 0, none⟩) m ca, .int .i64 (r0 : Int)] w fun e w' => ∃ G, e = .returned (.slice (some ⟨G, 0, none⟩) q q) ∧ Sps w' (some ⟨G, 0, none⟩) K ∧ w.heap.size ≤ G ∧ Below w.heap.size w w' := by
  obtain ⟨n, hn⟩ : ∃ n : Nat, 6 ≤ n := ⟨6, Nat.le_refl _⟩
  refine (callsIn_wide (n := n)).1 ?_
  refine callsIn_of_wp_marks Try.func53 rfl trivial ?_
  simp only [Try.ntmps53, List.size_toArray, List.length_cons, List.length_nil, Nat.reduceAdd, Nat.reduceSub, Array.replicate_succ, Array.replicate_zero, List.push_toArray, List.append_toArray, List.nil_append, List.cons_append]
  have hmt : r0 < t.length := by have := HM.out; omega
  have hA : Below w.heap.size w (w.alloc (.cells #[.slice (some ⟨ga, 0, none⟩) m ca] 70)) := (Below.refl _ w).alloc (Nat.le_refl _) _
  obtain ⟨b, o, rfl, hnn⟩ := (hx.below hA) r0 hmt
  have c3 := hnn.2.2.2.1
  have hkn : t[r0].kids = (q : Int) := by obtain ⟨h, e⟩ := HK.out.num; rw [e, HQ.out]
  rw [hkn] at c3
  have hqm : q ≤ 6000 := by have := HK.out.len; have := HQ.out; omega
  have hmk := make_spans q hqm
  clear hkn hnn hA
  gi_wp2_with fail
  refine ⟨trivial, fun h => (by cases h), callsIn_wide.2 ((backward_any _ q _).mono ?_)⟩
  rintro e w4 ⟨rfl, rfl⟩
  gi_wp2
  have hga : ga < w.heap.size := (owns_any_lt hF.2 ga rfl).2
  have hyl := hF.1
  have hKR := boxesK_facts (w := w) (K := K) (a := (r0 : Int) - 1) hF (Below.refl _ w) HQ.out (by
    intro r hr h'
    have h9 := HK.out.last (by omega)
    have e : K.length - 1 = r := by have := HQ.out; omega
    simp only [e] at h9
    omega)
  have hs1 : (((((w.alloc (.cells #[.slice (some ⟨ga, 0, none⟩) m ca] 70)).alloc (.cells (madeCells #[.int .i64 0, .int .i64 0, .int .i64 0] (q * 3)) 61)).alloc (.cells #[.slice (some ⟨w.heap.size + 1, 0, none⟩) q q] 70)).alloc (.cells #[.int .i64 ((r0 : Int) - 1)] 3)).alloc (.cells #[.slice (some ⟨w.heap.size + 1, 0, none⟩) q q] 70)).heap.size = w.heap.size + 5 := by simp
  generalize (((((w.alloc (.cells #[.slice (some ⟨ga, 0, none⟩) m ca] 70)).alloc (.cells (madeCells #[.int .i64 0, .int .i64 0, .int .i64 0] (q * 3)) 61)).alloc (.cells #[.slice (some ⟨w.heap.size + 1, 0, none⟩) q q] 70)).alloc (.cells #[.int .i64 ((r0 : Int) - 1)] 3)).alloc (.cells #[.slice (some ⟨w.heap.size + 1, 0, none⟩) q q] 70)) = W1 at hKR hs1 ⊢
  obtain ⟨z, hz⟩ : ∃ z, w.heap.size = z := ⟨_, rfl⟩
  have hws : w.heap.size ≤ z := by omega
  have hKR : KRnd w z ga m ca q B ys K [] W1 := hz ▸ hKR
  rw [hz] at hga hs1
  simp only [hz]
  clear hF hmk c3 hx hmt
  refine wpIn_range (α := Nat × Sp) rfl (by omega) (gf := 57) (lb := #[.pointer (some ⟨z + 1 + 1 + 1 + 1, 0, none⟩)]) rfl trivial (enters_of Try.func57 (by kernel_rfl) rfl)
    (encs := encB) w.heap.size (by omega) (backward1_any q hqm (z + 1) (z + 1 + 1 + 1 + 1) w.heap.size (n - 1) W1) (fun _ => rfl)
    (fun pre W => KRnd w z ga m ca q B ys K pre W)
    (fun _ _ _ => False) ?hI (fun _ _ _ _ h _ => h) ?hRd hKR ?round ?done (fun _ _ _ _ h _ => h.elim)
  case hI =>
    rintro s A C h hb
    exact h.but (But.ofBelow' hb) (fun k hk => by omega) hga (by omega)
  case hRd =>
    rintro s A h
    have hl := h.len
    exact ⟨h.back, _, by have := HQ.out; simp; omega, h.kids.sps⟩
  case round =>
    rintro pre ⟨k, s0⟩ W hK hlen hfit hsz
    have hfit : k + 1 + pre.length = q := hfit
    simp only [encB]
    gi_wp2
    refine ⟨But.refl _ _, ?_⟩
    intro Wb hWb
    have hKb := hK.but hWb (fun k hk => by omega) hga (by omega)
    have hkK : k < K.length := by have := HQ.out; omega
    obtain ⟨s, hs⟩ : ∃ s, K[k]? = some s := ⟨_, List.getElem?_eq_getElem hkK⟩
    have hKk : K[k] = s := by rw [List.getElem?_eq_getElem hkK] at hs; simpa using hs
    obtain ⟨hmem, hfr, hrt⟩ := HK.out.mem k hkK
    rw [hKk] at hmem hfr hrt
    obtain ⟨hry, hye⟩ := List.getElem?_eq_some_iff.1 hmem
    obtain ⟨a, hnx, hna⟩ := hKb.next
    have ha := hna k hfit hkK
    rw [hKk] at ha
    subst ha
    have hat := hKb.free.at s.rt hry
    rw [hye] at hat
    obtain ⟨u0, u1, u2⟩ := hat
    have v0 := hKb.all.cell
    have v1 := hKb.box.cell
    have v2 := hnx.cell
    have f2 := hnx.frozen
    have hkid := hKb.kids
    have g0 := hkid.frozen (k * 3)
    have g1 := hkid.frozen (k * 3 + 1)
    have g2 := hkid.frozen (k * 3 + 2)
    have hll : (flat3 (List.replicate (q - pre.length) Sp.zero ++ K.drop (q - pre.length))).length = q * 3 := by
      rw [flat3_length]; have := HQ.out; simp; omega
    obtain ⟨x0, y0⟩ : ∃ v, Wb.cell? ⟨z + 1, k * 3, none⟩ = some v := ⟨_, (hkid.at _).trans (List.getElem?_eq_getElem (by omega))⟩
    obtain ⟨x1, y1⟩ : ∃ v, Wb.cell? ⟨z + 1, k * 3 + 1, none⟩ = some v := ⟨_, (hkid.at _).trans (List.getElem?_eq_getElem (by omega))⟩
    obtain ⟨x2, y2⟩ : ∃ v, Wb.cell? ⟨z + 1, k * 3 + 2, none⟩ = some v := ⟨_, (hkid.at _).trans (List.getElem?_eq_getElem (by omega))⟩
    have hstep := KRnd.step (x := (k, s0)) hKb hfit HQ.out hs (by
      intro r hr h'
      have h9 := HK.out.next k (by omega) hkK
      rw [hKk] at h9
      have e : k - 1 = r := by omega
      simp only [e] at h9
      omega) hga (by omega)
    have hzl : z + 5 ≤ Wb.heap.size := by have := hKb.back.lt; omega
    have hrm : s.rt < m := by omega
    have hkq : k < q := by omega
    have hne1 : ga ≠ z + 1 := by omega
    have HST : Hid (KRnd w z ga m ca q B ys K (pre ++ [(k, s0)]) ((((Wb.setCell ⟨z + 1, k * 3, none⟩ (.int .i64 (s.fr : Int))).setCell ⟨z + 1, k * 3 + 1, none⟩ (.int .i64 (s.rt : Int))).setCell ⟨z + 1, k * 3 + 2, none⟩ (.int .i64 (s.dp : Int))).drew.setCell ⟨z + 1 + 1 + 1, 0, none⟩ (.int .i64 ((s.fr : Int) - 1)))) := hstep
    clear hstep hKb hK hWb hna hkid hll hnx hmem hye hs hKk hKR
    have hbut : But (Mine z (z + 5)) Wb ((((Wb.setCell ⟨z + 1, k * 3, none⟩ (.int .i64 (s.fr : Int))).setCell ⟨z + 1, k * 3 + 1, none⟩ (.int .i64 (s.rt : Int))).setCell ⟨z + 1, k * 3 + 2, none⟩ (.int .i64 (s.dp : Int))).drew.setCell ⟨z + 1 + 1 + 1, 0, none⟩ (.int .i64 ((s.fr : Int) - 1))) :=
      (((((But.refl (Mine z (z + 5)) Wb).setCell (p := ⟨z + 1, k * 3, none⟩) ⟨by show z ≤ z + 1; omega, by show z + 1 < z + 5; omega⟩ _).setCell (p := ⟨z + 1, k * 3 + 1, none⟩) ⟨by show z ≤ z + 1; omega, by show z + 1 < z + 5; omega⟩ _).setCell (p := ⟨z + 1, k * 3 + 2, none⟩) ⟨by show z ≤ z + 1; omega, by show z + 1 < z + 5; omega⟩ _).trans (But.ofBelow (Below.refl _ _).drew)).setCell (p := ⟨z + 1 + 1 + 1, 0, none⟩) ⟨by show z ≤ z + 1 + 1 + 1; omega, by show z + 1 + 1 + 1 < z + 5; omega⟩ _
    have HBUT : Hid (But (Mine z (z + 5)) Wb ((((Wb.setCell ⟨z + 1, k * 3, none⟩ (.int .i64 (s.fr : Int))).setCell ⟨z + 1, k * 3 + 1, none⟩ (.int .i64 (s.rt : Int))).setCell ⟨z + 1, k * 3 + 2, none⟩ (.int .i64 (s.dp : Int))).drew.setCell ⟨z + 1 + 1 + 1, 0, none⟩ (.int .i64 ((s.fr : Int) - 1)))) := hbut
    clear hbut
    gi_wp2_with fail
    rename_i Q0 K0 A0 hf0 Q1 K1 A1
    have hcont : Exit.then K1 (Exit.inBlock 1 Q1) Exit.normal
        { tmps := #[.slice (some ⟨b, o, none⟩) m cap, .slice (some ⟨ga, 0, none⟩) m ca, .int .i64 (r0 : Int), undef, .pointer (some ⟨z, 0, none⟩), undef, .slice none 0 0, .pointer (some ⟨z + 1 + 1, 0, none⟩), .pointer (some ⟨z + 1 + 1 + 1, 0, none⟩), .int .i64 (k : Int),
          .slice (some ⟨b, o, none⟩) m cap, .int .i64 (r0 : Int), .pointer (some ⟨b, o + r0 * 5, none⟩), .pointer (some ⟨b, o + r0 * 5 + 3, none⟩), .int .i64 (q : Int), .slice (some ⟨z + 1, 0, none⟩) q q, .int .i64 (r0 : Int), .int .i64 ((r0 : Int) - 1), .slice (some ⟨z + 1, 0, none⟩) q q,
          .func (.func 57) #[] #[.pointer (some ⟨z + 1 + 1 + 1 + 1, 0, none⟩)], .int .i64 (k : Int), .agg #[.int .i64 (s0.fr : Int), .int .i64 (s0.rt : Int), .int .i64 (s0.dp : Int)],
          .slice (some ⟨z + 1, 0, none⟩) q q, .int .i64 (k : Int), .slice (some ⟨ga, 0, none⟩) m ca, .int .i64 (s.rt : Int), .pointer (some ⟨ga, s.rt * 3, none⟩), .agg #[.int .i64 (s.fr : Int), .int .i64 (s.rt : Int), .int .i64 (s.dp : Int)], .pointer (some ⟨z + 1, k * 3, none⟩), undef, undef, undef, undef, undef, undef, undef], defers := [] }
        (((Wb.setCell ⟨z + 1, k * 3, none⟩ (.int .i64 (s.fr : Int))).setCell ⟨z + 1, k * 3 + 1, none⟩ (.int .i64 (s.rt : Int))).setCell ⟨z + 1, k * 3 + 2, none⟩ (.int .i64 (s.dp : Int))).drew := by
      gi_wp2
      exact ⟨HBUT.out, HST.out⟩
    clear HST HBUT hfr hlen hsz hfit hkK hry hf0
    gi_region
    all_goals exact hcont
  case done =>
    rintro xs W hxl hK hD
    have hxl : xs.length = q := hxl
    have hrow : OwnQ W (z + 1) (flat3 K) := by
      have h9 := hK.kids
      rw [hxl, Nat.sub_self] at h9
      simpa using h9
    have hput : But (· = W1.heap.size) W (W.putObj W1.heap.size (.deferred none)) := But.putObj _ _ _ rfl
    have hq := hK.box.cell
    have hsps := (hrow.but hput (by omega)).sps
    have hb9 := hK.below.trans (hput.below hK.below.size (fun k hk => by omega))
    rw [hs1] at hD hput hsps hb9 ⊢
    clear hK hrow
    gi_wp2
    refine ⟨by simp, .inl ⟨_, _, rfl, run_takeDeferred hD, ?_⟩⟩
    exact ⟨_, results_tmp rfl _ _ _, _, rfl, hsps, by omega, hb9⟩

set_option maxHeartbeats 400000 in
theorem kidSpans_any (t : List Nd) (m q : Nat) (HM : Hid (t.length = m)) (hm : m ≤ 6000) (h0 : 0 < m) (S ys K : List Sp) (HA : Hid (after t m = some (S, ys))) (HK : Hid (KidsAt t ys (m - 1) K)) (HQ : Hid (K.length = q)) (ao : Option Addr) (cap : Nat) (w : World) (hx : Nodes w ao t) :
    Calls Try.prog 52 #[.slice ao m cap] w fun e w' => ∃ G, e = .returned (.slice (some ⟨G, 0, none⟩) q q) ∧ Sps w' (some ⟨G, 0, none⟩) K ∧ w.heap.size ≤ G ∧ Below w.heap.size w w' := by
  obtain ⟨n, hn⟩ : ∃ n : Nat, 6 ≤ n := ⟨6, Nat.le_refl _⟩
  refine (callsIn_wide (n := n)).1 ?_
  refine callsIn_of_wp_marks Try.func52 rfl trivial ?_
  simp only [Try.ntmps52, List.size_toArray, List.length_cons, List.length_nil, Nat.reduceAdd, Nat.reduceSub, Array.replicate_succ, Array.replicate_zero, List.push_toArray, List.append_toArray, List.nil_append, List.cons_append]
  have hA : Below w.heap.size w (w.alloc (.cells #[.slice ao m cap] 25)) := (Below.refl _ w).alloc (Nat.le_refl _) _
  have hbN := Box1.new w 25 (.slice ao m cap)
  have hxA := hx.below hA
  gi_wp2_with fail
  refine ⟨trivial, fun h => (by cases h), callsIn_wide.2 ((spans_any ao m cap _).mono ?_)⟩
  rintro e w1 ⟨rfl, rfl⟩
  gi_wp2_with fail
  refine ⟨trivial, fun h => (by cases h), callsIn_wide.2 ((collect_any t m HM hm h0 S ys HA ao cap _ _ hxA hbN).mono ?_)⟩
  rintro e w2 ⟨ga, ca, rfl, hF, hb⟩
  have hb2 := Below.step hA hb
  have e2 : ((m : Int) - 1) = ((m - 1 : Nat) : Int) := by omega
  gi_wp2_with fail
  refine ⟨trivial, fun h => (by cases h), callsIn_wide.2 ((spansBelow_any t m q (m - 1) HM hm (by omega) ys K HK HQ ao cap w2 (hx.below hb2) _ ga ca hF).mono ?_)⟩
  rintro e w3 ⟨G, rfl, hs, hG, hb3⟩
  gi_wp2
  exact ⟨_, results_tmp rfl _ _ _, G, rfl, hs, by have := hb2.size; omega, Below.step hb2 hb3⟩

end Go.Proofs.Ytkmlfpfgiblcdaa

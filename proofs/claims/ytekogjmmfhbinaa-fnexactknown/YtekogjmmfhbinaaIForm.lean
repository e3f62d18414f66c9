import Derived.Test.YtekogjmmfhbinaaFit
import Derived.Test.YtekogjmmfhbinaaKid2
namespace Go.Proofs.Ytekogjmmfhbinaa
open Go.RowKit Go.Shelf

theorem run_store_fn {P : Program} {w : World} {a : Addr} {m : Mode} (f : Fn) (b c : Array Value) : (store a (.func f b c) m).run P w = stored P w a (.func f b c) m := run_store P w a _ m rfl

theorem run_store_nilFn {P : Program} {w : World} {a : Addr} {m : Mode} : (store a .nilFunc m).run P w = stored P w a .nilFunc m := run_store P w a _ m rfl

theorem eql_nil2 (w : World) : (binOp .eql 48 .nilFunc .nilFunc).run Try.prog w = .ok (.bool true) w := by kernel_rfl

theorem eql_nil1 (f : Fn) (b c : Array Value) (w : World) : (binOp .eql 48 (.func f b c) .nilFunc).run Try.prog w = .ok (.bool false) w := by kernel_rfl

attribute [local go_sem] Oper.semAt_some run_store_fn run_store_nilFn eql_nil1 eql_nil2

/-- A table of what the kinds ask for: two functions a kind, or none. -/
structure TabOk (w : World) (tab : Array Value) (own : Nat → Option (Nd → Bool)) (kids : Nat → Nd → List Nd → Bool) : Prop where
  no : ∀ i, i < 92 → own i = none → tab[i * 2]? = some .nilFunc ∧ tab[i * 2 + 1]? = some .nilFunc
  yes : ∀ i p, i < 92 → own i = some p → ∃ u v, tab[i * 2]? = some u ∧ tab[i * 2 + 1]? = some v ∧ FitV w u p ∧ KidsV w v (kids i)

/-- What a round of the loop finds. -/
structure FRnd (own : Nat → Option (Nd → Bool)) (kids : Nat → Nd → List Nd → Bool) (t : List Nd) (w : World) (tab : Array Value) (ab k : Nat) (W : World) : Prop where
  ok : okTo own kids t k
  tb : W.heap[w.heap.size]? = some (.cells tab 56 (0, 0))
  rs : ∃ b, W.heap[w.heap.size + 1]? = some (.cells #[.bool b] 4 (0, 0))
  al : W.heap[ab]? = some (.cells #[.int .i64 (alls t k : Int)] 3 (0, 0))
  below : Below w.heap.size w W

theorem results_cellB {fn : Func} {a : Tmp} (h : fn.results = #[.cell a 4]) (tmps : Array Value) (ad : Addr) (ht : tmps[a]?.getD undef = .pointer (some ad)) (w : World) (v : Value) (hc : w.cell? ad = some v) : (results fn tmps).run Try.prog w = .ok v w := by
  simp [results, h, ht, asAddr, loadVar, isAgg, underlying, Try.underlying4, hc, Result.andThen]

set_option maxRecDepth 100000 in
set_option maxHeartbeats 4000000 in
theorem isInForm_any (own : Nat → Option (Nd → Bool)) (kids : Nat → Nd → List Nd → Bool) (root : Nd → Bool) (tab : Array Value) (rv : Value) (t : List Nd) (m : Nat) (HM : Hid (t.length = m)) (hm : m ≤ 1048576) (ao : Option Addr) (cap : Nat) (w : World) (hx : Nodes w ao t)
    (ht : TabOk w tab own kids) (hrv : FitV w rv root) :
    Calls Try.prog 33 #[.slice ao m cap, .agg tab, rv] w fun e w' => (∃ b : Bool, e = .returned (.bool b) ∧ (b = true ↔ InForm own kids root t)) ∧ Below w.heap.size w w' := by
  obtain ⟨n, hn⟩ : ∃ n : Nat, 6 ≤ n := ⟨6, Nat.le_refl _⟩
  refine (callsIn_wide (n := n)).1 ?_
  refine callsIn_of_wp_marks Try.func33 rfl trivial ?_
  simp only [Try.ntmps33, List.size_toArray, List.length_cons, List.length_nil, Nat.reduceAdd, Nat.reduceSub, Array.replicate_succ, Array.replicate_zero, List.push_toArray, List.append_toArray, List.nil_append, List.cons_append]
  have HT : Hid (TabOk w tab own kids) := ht
  have HRV : Hid (FitV w rv root) := hrv
  obtain ⟨N, lb, rfl, -, -⟩ := hrv
  clear ht
  have hB0 : Below w.heap.size w ((w.alloc (Obj.cells tab 56)).alloc (Obj.cells #[Value.bool false] 4)) := ((Below.refl _ _).alloc (Nat.le_refl _) _).alloc (by simp) _
  have rs0 : ((w.alloc (Obj.cells tab 56)).alloc (Obj.cells #[Value.bool false] 4)).heap[w.heap.size + 1]? = some (.cells #[.bool false] 4 (0, 0)) := by
    have := heap_alloc_new (w.alloc (Obj.cells tab 56)) (Obj.cells #[Value.bool false] 4)
    rwa [World.size_alloc] at this
  by_cases h6 : m ≤ 60000
  · have t6 : decide ((60000 : Int) < (m : Int)) = false := decide_eq_false (by omega)
    have HD := implDeepOf_any t m HM h6 ao cap _ (hx.below hB0)
    obtain ⟨d, hd⟩ : ∃ d, rawDeep t = d := ⟨_, rfl⟩
    have HDD : Hid (rawDeep t = d) := hd
    rw [hd] at HD
    clear hd
    gi_wp2_with fail
    refine ⟨trivial, fun h => (by cases h), callsIn_wide.2 (HD.mono ?_)⟩
    rintro e w1 ⟨rfl, hb1⟩
    have hB1 := Below.step hB0 hb1
    have tb1 : w1.heap[w.heap.size]? = some (.cells tab 56 (0, 0)) := (hb1.block _ (by simp; omega)).trans ((Below.heap_alloc _ _ _ (by simp)).trans (heap_alloc_new _ _))
    have rs1 : w1.heap[w.heap.size + 1]? = some (.cells #[.bool false] 4 (0, 0)) := (hb1.block _ (by simp)).trans rs0
    have hs1 : w.heap.size + 2 ≤ w1.heap.size := by have := hb1.size; simp at this; omega
    clear HD hb1 rs0
    by_cases hd0 : d = 0
    · subst hd0
      have HNF : Hid (¬ InForm own kids root t) := fun h => h.2.1 HDD.out
      have cr : w1.cell? ⟨w.heap.size + 1, 0, none⟩ = some (.bool false) := by rw [cell_of_row _ _ _ _ _ _ rs1]; rfl
      have fr : w1.frozen? ⟨w.heap.size + 1, 0, none⟩ = false := frozen_of_row _ _ _ _ _ rs1
      have ce : (w1.setCell ⟨w.heap.size + 1, 0, none⟩ (.bool false)).cell? ⟨w.heap.size + 1, 0, none⟩ = some (.bool false) := by rw [cell_of_row _ _ _ _ _ _ (heap_setCell_same _ _ _ _ _ _ rs1)]; rfl
      have hbe : Below w.heap.size w (w1.setCell ⟨w.heap.size + 1, 0, none⟩ (.bool false)) := hB1.setCell (p := ⟨w.heap.size + 1, 0, none⟩) (by show w.heap.size ≤ w.heap.size + 1; omega) _
      clear hx tb1 rs1 hB0 hB1
      gi_wp2
      exact ⟨_, results_cellB rfl _ ⟨w.heap.size + 1, 0, none⟩ rfl _ _ ce, ⟨false, rfl, by simp; exact HNF.out⟩, hbe⟩
    · have td : ((d : Int) == 0) = false := by simp; omega
      have HRD : Hid (rawDeep t ≠ 0) := by show rawDeep t ≠ 0; rw [HDD.out]; exact hd0
      have HAF : Hid (∃ S ys, after t m = some (S, ys)) := by
        obtain ⟨_, S, ys, h⟩ := raw_after HRD.out
        rw [HM.out] at h
        exact ⟨S, ys, h⟩
      have hm0 : 0 < m := by have := (raw_after HRD.out).1; have := HM.out; omega
      clear hd0 hB0
      gi_wp2_with fail
      refine ⟨trivial, fun h => (by cases h), callsIn_wide.2 ((families_any ao m cap _).mono ?_)⟩
      rintro e w2 ⟨rfl, rfl⟩
      gi_wp2
      obtain ⟨W1, hW1⟩ : ∃ W1, ((w1.alloc (Obj.cells #[Value.int IntKind.i64 0] 3)).alloc (.cells #[.slice ao m cap] 28)) = W1 := ⟨_, rfl⟩
      have hbW : Below w1.heap.size w1 W1 := by rw [← hW1]; exact ((Below.refl _ _).alloc (Nat.le_refl _) _).alloc (by simp) _
      have hBW : Below w.heap.size w W1 := Below.step hB1 hbW
      have sW1 : W1.heap.size = w1.heap.size + 2 := by rw [← hW1]; simp
      have al1 : W1.heap[w1.heap.size]? = some (.cells #[.int .i64 ((alls t 0 : Nat) : Int)] 3 (0, 0)) := by
        rw [← hW1]
        exact (Below.heap_alloc _ _ _ (by simp)).trans (heap_alloc_new _ _)
      have bT : W1.cell? ⟨w1.heap.size + 1, 0, none⟩ = some (.slice ao m cap) := by
        rw [← hW1]
        have := cell_of_row _ (w1.heap.size + 1) 0 _ _ _ (by have := heap_alloc_new (w1.alloc (Obj.cells #[Value.int IntKind.i64 0] 3)) (.cells #[.slice ao m cap] 28); rw [World.size_alloc] at this; exact this)
        rw [this]; rfl
      have tbW : W1.heap[w.heap.size]? = some (.cells tab 56 (0, 0)) := (hbW.block _ (by omega)).trans tb1
      have rsW : W1.heap[w.heap.size + 1]? = some (.cells #[.bool false] 4 (0, 0)) := (hbW.block _ (by omega)).trans rs1
      try rw [hW1]
      clear hW1 tb1 rs1 hB1 hbW
      refine wpIn_rangeW (α := Fm) rfl (by omega) (gf := 59) (lb := #[.pointer (some ⟨w1.heap.size + 1, 0, none⟩)]) rfl trivial (enters_of Try.func59 (by kernel_rfl) rfl)
        (encs := encFm) w.heap.size hBW.size (fams_any t m HM h6 HAF ao cap (w1.heap.size + 1) w.heap.size (n - 1) W1 hBW.size (by omega) bT w rfl hx hBW) (fun _ => rfl)
        (fun pre W => FRnd own kids t w tab w1.heap.size pre.length W)
        (fun c _ W => c = .ret ∧ W.heap[w.heap.size + 1]? = some (.cells #[.bool false] 4 (0, 0)) ∧ Below w.heap.size w W ∧ ¬ InForm own kids root t) ?hI ?hIx (fun _ _ _ => trivial) ⟨fun i hi => absurd hi (by simp), tbW, ⟨_, rsW⟩, al1, hBW⟩ ?round ?done ?stop
      case hI =>
        rintro s A C ⟨h1, h2, ⟨b, h3⟩, h4, h5⟩ hb
        exact ⟨h1, (hb.block _ (by omega)).trans h2, ⟨b, (hb.block _ (by omega)).trans h3⟩, (hb.block _ (by omega)).trans h4, h5.trans (hb.mono (by omega))⟩
      case hIx =>
        rintro c s A C ⟨h1, h2, h3, h4⟩ hb
        have hlt := (Array.getElem?_eq_some_iff.1 h2).1
        exact ⟨h1, (hb.block _ hlt (by omega)).trans h2, h3.trans (hb.below (by have := h3.size; omega) (fun k hk => by omega)), h4⟩
      case round =>
        rintro pre x W ⟨hok, htb, ⟨b0, hrs⟩, hal, hbel⟩ hlen ⟨hxn, hxk, hql, hq6, hqc, hqb, hnd⟩ hsz
        obtain ⟨⟨kd, nm, tx, kk, pl⟩, ks, kao, q, c⟩ := x
        simp only at hxn hxk hql hq6 hqc hqb hnd
        simp only [encFm]
        obtain ⟨k, hk⟩ : ∃ k, pre.length = k := ⟨_, rfl⟩
        rw [hk] at hok hal hxn hxk hlen
        have HOK : Hid (okTo own kids t k) := hok
        have HXN : Hid ((⟨kd, nm, tx, kk, pl⟩ : Nd) = ndAt t k) := hxn
        have HKS : Hid (ks = kidsN t k) := hxk
        have HQL : Hid (ks.length = q) := hql
        have HPL : Hid ((pre ++ [(⟨⟨kd, nm, tx, kk, pl⟩, ks, kao, q, c⟩ : Fm)]).length = k + 1) := by show (pre ++ [_]).length = k + 1; rw [List.length_append, hk]; rfl
        have hkt : k < t.length := by have := HM.out; omega
        have HNF : Hid (okAt own kids t k = false → ¬ InForm own kids root t) := fun h hf => by have h9 := hf.2.2.1 k hkt; rw [h] at h9; cases h9
        have HOA : Hid (okAt own kids t k = (nodeOk own kids ⟨kd, nm, tx, kk, pl⟩ ks && decide (alls t (k + 1) ≤ 1000))) := by
          show okAt own kids t k = _
          unfold okAt
          rw [← HXN.out, ← HKS.out]
        have HAL : Hid (alls t (k + 1) = if kd = 62 then alls t k + 1 else 0) := by
          show (if (ndAt t k).kind = 62 then alls t k + 1 else 0) = _
          rw [← HXN.out]
        clear hok hxn hxk hql hx hk bT tbW rsW al1
        gi_wp2
        refine ⟨But.ofBelow ((Below.refl _ W).alloc (Nat.le_refl _) _), ?_⟩
        intro Wb hWb
        have hbA : Below W.heap.size W (W.alloc (Obj.cells #[.int .i64 kd, .int .i64 nm, .string tx, .int .i64 kk, .int .i64 pl] 39)) := (Below.refl _ W).alloc (Nat.le_refl _) _
        have hblk : ∀ j o, j < W1.heap.size → W.heap[j]? = some o → Wb.heap[j]? = some o := fun j o hj h => (hWb.block j (by simp; omega) (by omega)).trans ((hbA.block j (by omega)).trans h)
        have nb : Wb.heap[W.heap.size]? = some (.cells #[.int .i64 kd, .int .i64 nm, .string tx, .int .i64 kk, .int .i64 pl] 39 (0, 0)) := (hWb.block _ (by simp) (by omega)).trans (heap_alloc_new _ _)
        have tbB := hblk _ _ (by omega) htb
        have rsB := hblk _ _ (by omega) hrs
        have alB := hblk _ _ (by omega) hal
        have hbB : Below w.heap.size w Wb := (hbel.alloc hbel.size _).trans (hWb.below (by have := hbel.size; simp; omega) (fun j hj => by omega))
        have ndB : Nodes Wb kao ks := by
          intro i hi
          obtain ⟨b, o, e, hn⟩ := hnd i hi
          have hB := hqb _ e
          simp only at hB
          have hlt := lt_of_cell hn.1
          simp only at hlt
          have hcell : ∀ j, Wb.cell? ⟨b, j, none⟩ = W.cell? ⟨b, j, none⟩ := by
            intro j
            have h1 : Wb.heap[b]? = W.heap[b]? := (hWb.block b (by simp; omega) (by omega)).trans (hbA.block b hlt)
            simp only [World.cell?, h1]
          exact ⟨b, o, e, (hcell _).trans hn.1, (hcell _).trans hn.2.1, (hcell _).trans hn.2.2.1, (hcell _).trans hn.2.2.2.1, (hcell _).trans hn.2.2.2.2⟩
        have hszB : W.heap.size < Wb.heap.size := by have := hWb.size; simp at this; omega
        obtain ⟨d0, d1, d2, d3, d4⟩ : NodeAt Wb W.heap.size 0 ⟨kd, nm, tx, kk, pl⟩ := ⟨by rw [cell_of_row _ _ _ _ _ _ nb]; rfl, by rw [cell_of_row _ _ _ _ _ _ nb]; rfl, by rw [cell_of_row _ _ _ _ _ _ nb]; rfl, by rw [cell_of_row _ _ _ _ _ _ nb]; rfl, by rw [cell_of_row _ _ _ _ _ _ nb]; rfl⟩
        simp only [Nat.zero_add] at d0 d1 d2 d3 d4
        have cr : Wb.cell? ⟨w.heap.size + 1, 0, none⟩ = some (.bool b0) := by rw [cell_of_row _ _ _ _ _ _ rsB]; rfl
        have fr : Wb.frozen? ⟨w.heap.size + 1, 0, none⟩ = false := frozen_of_row _ _ _ _ _ rsB
        have ca : Wb.cell? ⟨w1.heap.size, 0, none⟩ = some (.int .i64 ((alls t k : Nat) : Int)) := by rw [cell_of_row _ _ _ _ _ _ alB]; rfl
        have fa : Wb.frozen? ⟨w1.heap.size, 0, none⟩ = false := frozen_of_row _ _ _ _ _ alB
        have hmr : Mine w.heap.size W1.heap.size (w.heap.size + 1) := ⟨by omega, by omega⟩
        have hma : Mine w.heap.size W1.heap.size w1.heap.size := ⟨by have := hBW.size; omega, by omega⟩
        have hAlls := alls_le t k
        clear hWb hbA hblk hnd hqb htb hrs hal hbel
        have hq1 : w.heap.size + 1 < W1.heap.size := by omega
        have hq2 : w1.heap.size < W1.heap.size := by omega
        have HSW : Hid (W1.heap.size = w1.heap.size + 2) := sW1
        clear sW1
        have HFS : Hid (∀ WW, But (Mine w.heap.size W1.heap.size) Wb WW → (∃ b, WW.heap[w.heap.size + 1]? = some (.cells #[.bool b] 4 (0, 0))) →
            But (Mine w.heap.size W1.heap.size) Wb (WW.setCell ⟨w.heap.size + 1, 0, none⟩ (.bool false)) ∧ (WW.setCell ⟨w.heap.size + 1, 0, none⟩ (.bool false)).heap[w.heap.size + 1]? = some (.cells #[.bool false] 4 (0, 0)) ∧ Below w.heap.size w (WW.setCell ⟨w.heap.size + 1, 0, none⟩ (.bool false))) := by
          rintro WW hb ⟨b, hr⟩
          refine ⟨hb.setCell (p := ⟨w.heap.size + 1, 0, none⟩) hmr _, by rw [heap_setCell_same _ _ _ _ _ _ hr]; rfl, ?_⟩
          exact (hbB.trans (hb.below (by have := hbB.size; omega) (fun j hj => hj.1))).setCell (p := ⟨w.heap.size + 1, 0, none⟩) (by show w.heap.size ≤ w.heap.size + 1; omega) _
        have hq3 : w.heap.size + 1 < Wb.heap.size := by omega
        have hq4 : w1.heap.size < Wb.heap.size := by omega
        by_cases k1 : kd < 0
        · have HN : Hid (¬ InForm own kids root t) := HNF.out (by rw [HOA.out]; simp [nodeOk]; omega)
          have u1 : decide (kd < 0) = true := decide_eq_true k1
          obtain ⟨f1, f2, f3⟩ := HFS.out Wb (But.refl _ _) ⟨_, rsB⟩
          gi_wp2
          exact ⟨f1, rfl, f2, f3, HN.out⟩
        have u1 : decide (kd < 0) = false := decide_eq_false k1
        by_cases k2 : 92 ≤ kd
        · have HN : Hid (¬ InForm own kids root t) := HNF.out (by rw [HOA.out]; simp [nodeOk]; omega)
          have u2 : decide (92 ≤ kd) = true := decide_eq_true k2
          obtain ⟨f1, f2, f3⟩ := HFS.out Wb (But.refl _ _) ⟨_, rsB⟩
          gi_wp2
          exact ⟨f1, rfl, f2, f3, HN.out⟩
        have u2 : decide (92 ≤ kd) = false := decide_eq_false k2
        by_cases k3 : pl = 0
        rotate_left
        · have HN : Hid (¬ InForm own kids root t) := HNF.out (by rw [HOA.out]; simp [nodeOk, k3])
          have u3 : (pl != 0) = true := by simpa using k3
          obtain ⟨f1, f2, f3⟩ := HFS.out Wb (But.refl _ _) ⟨_, rsB⟩
          gi_wp2
          exact ⟨f1, rfl, f2, f3, HN.out⟩
        subst k3
        obtain ⟨i, rfl⟩ : ∃ i : Nat, kd = (i : Int) := ⟨kd.toNat, by omega⟩
        have hi92 : i < 92 := by omega
        have HNO : Hid (nodeOk own kids ⟨(i : Int), nm, tx, kk, 0⟩ ks = ((match own i with | none => false | some p => p ⟨(i : Int), nm, tx, kk, 0⟩) && kids i ⟨(i : Int), nm, tx, kk, 0⟩ ks)) := by
          show nodeOk own kids ⟨(i : Int), nm, tx, kk, 0⟩ ks = _
          unfold nodeOk
          simp only [Int.toNat_natCast]
          rw [decide_eq_true (by omega : (0 : Int) ≤ (i : Int)), decide_eq_true (by omega : (i : Int) < 92)]
          rfl
        have tcell : ∀ j v, tab[j]? = some v → Wb.cell? ⟨w.heap.size, j, none⟩ = some v := fun j v h => by rw [cell_of_row _ _ _ _ _ _ tbB]; exact h
        cases hown : own i with
        | none =>
          obtain ⟨h1, h2⟩ := HT.out.no i hi92 hown
          have e1 := tcell _ _ h1
          have e2 := tcell _ _ h2
          have HN : Hid (¬ InForm own kids root t) := HNF.out (by rw [HOA.out, HNO.out, hown]; rfl)
          obtain ⟨f1, f2, f3⟩ := HFS.out Wb (But.refl _ _) ⟨_, rsB⟩
          clear tcell h1 h2 hown
          gi_wp2
          (repeat (refine ⟨fun f h => (by cases h), ?_⟩; gi_wp2))
          exact ⟨f1.trans (But.ofBelow ((Below.refl _ _).alloc (Nat.le_refl _) _)), rfl, (Below.heap_alloc _ _ _ (by rw [size_setCell]; omega)).trans f2, f3.alloc f3.size _, HN.out⟩
        | some p =>
          obtain ⟨u, v, h1, h2, hu, hv⟩ := HT.out.yes i p hi92 hown
          have e1 := tcell _ _ h1
          have e2 := tcell _ _ h2
          rw [hown] at HNO
          have hu := hu.below hbB
          have hv := hv.below hbB
          obtain ⟨N1, lb1, rfl, hN1, HU⟩ := hu
          obtain ⟨N2, lb2, rfl, hN2, HV⟩ := hv
          have hb5 : Below Wb.heap.size Wb (Wb.alloc (.cells #[.func (.func N1) #[] lb1, .func (.func N2) #[] lb2] 55)) := (Below.refl _ Wb).alloc (Nat.le_refl _) _
          have HU1 := HU ⟨(i : Int), nm, tx, kk, 0⟩ _ hb5
          have HVV : Hid (∀ W', Below Wb.heap.size Wb W' → Calls Try.prog N2 (#[.agg #[.int .i64 (i : Int), .int .i64 nm, .string tx, .int .i64 kk, .int .i64 0], .slice kao q c] ++ lb2) W' fun e w' => e = .returned (.bool (kids i ⟨(i : Int), nm, tx, kk, 0⟩ ks)) ∧ Below W'.heap.size W' w') :=
            fun W' hW' => HV ⟨(i : Int), nm, tx, kk, 0⟩ ks q kao c W' hW' HQL hq6 hqc (ndB.below hW')
          obtain ⟨z, hz⟩ : ∃ z, p ⟨(i : Int), nm, tx, kk, 0⟩ = z := ⟨_, rfl⟩
          obtain ⟨y, hy⟩ : ∃ y, kids i ⟨(i : Int), nm, tx, kk, 0⟩ ks = y := ⟨_, rfl⟩
          simp only at HNO
          rw [hz] at HU1 HNO
          rw [hy] at HVV HNO
          have ab5 : (Wb.alloc (.cells #[.func (.func N1) #[] lb1, .func (.func N2) #[] lb2] 55)).heap[Wb.heap.size]? = some (.cells #[.func (.func N1) #[] lb1, .func (.func N2) #[] lb2] 55 (0, 0)) := heap_alloc_new _ _
          clear HU HV hown hz hy h1 h2 tcell ndB
          gi_wp2_with fail
          refine ⟨trivial, fun h => (by cases h), CallsIn.inRound _ (callsIn_wide.2 (HU1.mono ?_))⟩
          rintro e w5 ⟨rfl, hb6⟩
          have hb7 := Below.step hb5 hb6
          have nb5 := (hb7.block _ hszB).trans nb
          have rs5 := (hb7.block _ (by omega)).trans rsB
          have al5 := (hb7.block _ (by omega)).trans alB
          have tb5 := (hb7.block _ (by omega)).trans tbB
          have ab6 := (hb6.block _ (by simp)).trans ab5
          have hs5 : Wb.heap.size < w5.heap.size := by have := hb6.size; simp at this; omega
          have g0 : w5.cell? ⟨W.heap.size, 0, none⟩ = some (.int .i64 (i : Int)) := by rw [cell_of_row _ _ _ _ _ _ nb5]; rfl
          have g1 : w5.cell? ⟨W.heap.size, 1, none⟩ = some (.int .i64 nm) := by rw [cell_of_row _ _ _ _ _ _ nb5]; rfl
          have g2 : w5.cell? ⟨W.heap.size, 2, none⟩ = some (.string tx) := by rw [cell_of_row _ _ _ _ _ _ nb5]; rfl
          have g3 : w5.cell? ⟨W.heap.size, 3, none⟩ = some (.int .i64 kk) := by rw [cell_of_row _ _ _ _ _ _ nb5]; rfl
          have g4 : w5.cell? ⟨W.heap.size, 4, none⟩ = some (.int .i64 0) := by rw [cell_of_row _ _ _ _ _ _ nb5]; rfl
          have g5 : w5.cell? ⟨Wb.heap.size, 1, none⟩ = some (.func (.func N2) #[] lb2) := by rw [cell_of_row _ _ _ _ _ _ ab6]; rfl
          have cr5 : w5.cell? ⟨w.heap.size + 1, 0, none⟩ = some (.bool b0) := by rw [cell_of_row _ _ _ _ _ _ rs5]; rfl
          have fr5 : w5.frozen? ⟨w.heap.size + 1, 0, none⟩ = false := frozen_of_row _ _ _ _ _ rs5
          clear HU1 hb5 hb6 d0 d1 d2 d3 d4 e1 e2 cr fr ca fa ab5 nb rsB alB tbB
          cases z
          · have HN : Hid (¬ InForm own kids root t) := HNF.out (by rw [HOA.out, HNO.out]; rfl)
            obtain ⟨f1, f2, f3⟩ := HFS.out w5 (But.ofBelow hb7) ⟨_, rs5⟩
            gi_wp2
            (repeat (refine ⟨fun f h => (by cases h), ?_⟩; gi_wp2))
            exact ⟨f1, rfl, f2, f3, HN.out⟩
          · gi_wp2_with fail
            refine ⟨trivial, fun h => (by cases h), CallsIn.inRound _ (callsIn_wide.2 ((HVV.out _ hb7).mono ?_))⟩
            rintro e w6 ⟨rfl, hb8⟩
            have hb9 := Below.step hb7 hb8
            have nb6 := (hb8.block _ (by omega)).trans nb5
            have rs6 := (hb8.block _ (by omega)).trans rs5
            have al6 := (hb8.block _ (by omega)).trans al5
            have tb6 := (hb8.block _ (by omega)).trans tb5
            have hs6 : Wb.heap.size < w6.heap.size := by have := hb8.size; omega
            have i0 : w6.cell? ⟨W.heap.size, 0, none⟩ = some (.int .i64 (i : Int)) := by rw [cell_of_row _ _ _ _ _ _ nb6]; rfl
            have cr6 : w6.cell? ⟨w.heap.size + 1, 0, none⟩ = some (.bool b0) := by rw [cell_of_row _ _ _ _ _ _ rs6]; rfl
            have fr6 : w6.frozen? ⟨w.heap.size + 1, 0, none⟩ = false := frozen_of_row _ _ _ _ _ rs6
            have ca6 : w6.cell? ⟨w1.heap.size, 0, none⟩ = some (.int .i64 ((alls t k : Nat) : Int)) := by rw [cell_of_row _ _ _ _ _ _ al6]; rfl
            have fa6 : w6.frozen? ⟨w1.heap.size, 0, none⟩ = false := frozen_of_row _ _ _ _ _ al6
            clear g0 g1 g2 g3 g4 g5 cr5 fr5 nb5 rs5 al5 tb5 HVV hb7 hb8
            cases y
            · have HN : Hid (¬ InForm own kids root t) := HNF.out (by rw [HOA.out, HNO.out]; rfl)
              obtain ⟨f1, f2, f3⟩ := HFS.out w6 (But.ofBelow hb9) ⟨_, rs6⟩
              gi_wp2
              exact ⟨f1, rfl, f2, f3, HN.out⟩
            · have HNOK : Hid (nodeOk own kids ⟨(i : Int), nm, tx, kk, 0⟩ ks = true) := HNO.out
              have al7 : (w6.setCell ⟨w1.heap.size, 0, none⟩ (.int .i64 ((alls t k : Int) + 1))).heap[w1.heap.size]? = some (.cells #[.int .i64 ((alls t k : Int) + 1)] 3 (0, 0)) := by rw [heap_setCell_same _ _ _ _ _ _ al6]; rfl
              have hne : w.heap.size + 1 ≠ w1.heap.size := by omega
              have hne2 : w.heap.size ≠ w1.heap.size := by omega
              have rs7 : (w6.setCell ⟨w1.heap.size, 0, none⟩ (.int .i64 ((alls t k : Int) + 1))).heap[w.heap.size + 1]? = some (.cells #[.bool b0] 4 (0, 0)) := (Below.heap_setCell w6 ⟨w1.heap.size, 0, none⟩ _ _ hne).trans rs6
              have tb7 : (w6.setCell ⟨w1.heap.size, 0, none⟩ (.int .i64 ((alls t k : Int) + 1))).heap[w.heap.size]? = some (.cells tab 56 (0, 0)) := (Below.heap_setCell w6 ⟨w1.heap.size, 0, none⟩ _ _ hne2).trans tb6
              have hbt7 : But (Mine w.heap.size W1.heap.size) Wb (w6.setCell ⟨w1.heap.size, 0, none⟩ (.int .i64 ((alls t k : Int) + 1))) := (But.ofBelow hb9).setCell (p := ⟨w1.heap.size, 0, none⟩) hma _
              have hbl : ∀ WW, But (Mine w.heap.size W1.heap.size) Wb WW → Below w.heap.size w WW := fun WW hb => hbB.trans (hb.below (by have := hbB.size; omega) (fun j hj => hj.1))
              by_cases k62 : i = 62
              · subst k62
                have HA1 : Hid (alls t (k + 1) = alls t k + 1) := by show alls t (k + 1) = _; rw [HAL.out]; rfl
                by_cases hal9 : alls t k + 1 ≤ 1000
                · have HOKK : Hid (okAt own kids t k = true) := by show okAt own kids t k = true; rw [HOA.out, HNOK.out, HA1.out, decide_eq_true hal9]; rfl
                  have HFR : Hid (FRnd own kids t w tab w1.heap.size (k + 1) (w6.setCell ⟨w1.heap.size, 0, none⟩ (.int .i64 ((alls t k : Int) + 1)))) := by
                    refine ⟨fun j hj => ?_, tb7, ⟨_, rs7⟩, ?_, hbl _ hbt7⟩
                    · by_cases hjk : j = k
                      · subst hjk; exact HOKK.out
                      · exact HOK.out j (by omega)
                    · rw [HA1.out]; exact al7
                  have HBT : Hid (But (Mine w.heap.size W1.heap.size) Wb (w6.setCell ⟨w1.heap.size, 0, none⟩ (.int .i64 ((alls t k : Int) + 1)))) := hbt7
                  clear al7 rs7 tb7 hbt7 hbl
                  gi_wp2
                  exact ⟨HBT.out, by have h9 := HFR.out; rw [← HPL.out] at h9; exact h9⟩
                · have HN : Hid (¬ InForm own kids root t) := HNF.out (by rw [HOA.out, HA1.out, decide_eq_false hal9]; simp)
                  have u9 : decide ((1000 : Int) < (alls t k : Int) + 1) = true := decide_eq_true (by omega)
                  obtain ⟨f1, f2, f3⟩ := HFS.out _ hbt7 ⟨_, rs7⟩
                  clear al7 tb7 hbt7 hbl
                  gi_wp2
                  exact ⟨f1, rfl, f2, f3, HN.out⟩
              · have u62 : ((i : Int) != 62) = true := by simp; omega
                have HA1 : Hid (alls t (k + 1) = 0) := by show alls t (k + 1) = _; rw [HAL.out, if_neg (by omega)]
                have HOKK : Hid (okAt own kids t k = true) := by show okAt own kids t k = true; rw [HOA.out, HNOK.out, HA1.out]; rfl
                have al8 : ((w6.setCell ⟨w1.heap.size, 0, none⟩ (.int .i64 ((alls t k : Int) + 1))).setCell ⟨w1.heap.size, 0, none⟩ (.int .i64 0)).heap[w1.heap.size]? = some (.cells #[.int .i64 0] 3 (0, 0)) := by rw [heap_setCell_same _ _ _ _ _ _ al7]; rfl
                have hbt8 := hbt7.setCell (p := ⟨w1.heap.size, 0, none⟩) hma (.int .i64 0)
                have HFR : Hid (FRnd own kids t w tab w1.heap.size (k + 1) ((w6.setCell ⟨w1.heap.size, 0, none⟩ (.int .i64 ((alls t k : Int) + 1))).setCell ⟨w1.heap.size, 0, none⟩ (.int .i64 0))) := by
                  refine ⟨fun j hj => ?_, (Below.heap_setCell _ ⟨w1.heap.size, 0, none⟩ _ _ hne2).trans tb7, ⟨_, (Below.heap_setCell _ ⟨w1.heap.size, 0, none⟩ _ _ hne).trans rs7⟩, ?_, hbl _ hbt8⟩
                  · by_cases hjk : j = k
                    · subst hjk; exact HOKK.out
                    · exact HOK.out j (by omega)
                  · rw [HA1.out]; exact al8
                have HBT : Hid (But (Mine w.heap.size W1.heap.size) Wb ((w6.setCell ⟨w1.heap.size, 0, none⟩ (.int .i64 ((alls t k : Int) + 1))).setCell ⟨w1.heap.size, 0, none⟩ (.int .i64 0))) := hbt8
                have fa8 : (w6.setCell ⟨w1.heap.size, 0, none⟩ (.int .i64 ((alls t k : Int) + 1))).frozen? ⟨w1.heap.size, 0, none⟩ = false := frozen_of_row _ _ _ _ _ al7
                clear al7 rs7 tb7 hbt7 hbl al8 hbt8
                gi_wp2
                exact ⟨HBT.out, by have h9 := HFR.out; rw [← HPL.out] at h9; exact h9⟩
      case done =>
        rintro xs W hxl ⟨hok, htb, ⟨b0, hrs⟩, hal, hbel⟩ hK
        have hq1 : w.heap.size + 1 < W1.heap.size := by omega
        clear sW1
        rw [hxl] at hok
        have hlast : m - 1 < t.length := by have := HM.out; omega
        obtain ⟨b, o, rfl, hnn⟩ := (hx.below hbel) (m - 1) hlast
        obtain ⟨x, hxe⟩ : ∃ x, ndAt t (m - 1) = x := ⟨_, rfl⟩
        rw [← ndAt_get hlast, hxe] at hnn
        have HRT : Hid (InForm own kids root t ↔ root x = true) := by
          have e1 : t.length = m := HM.out
          constructor
          · intro h
            have h9 := h.2.2.2
            rw [e1, hxe] at h9
            exact h9
          · intro h
            refine ⟨by omega, HRD.out, by rw [e1]; exact hok, by rw [e1, hxe]; exact h⟩
        obtain ⟨d0, d1, d2, d3, d4⟩ := hnn
        have hbl : b < W.heap.size := lt_of_cell d0
        obtain ⟨hN0, HF0⟩ := HRV.out.later
        have HP := HF0.out x
        obtain ⟨z, hz⟩ : ∃ z, root x = z := ⟨_, rfl⟩
        rw [hz] at HP HRT
        obtain ⟨kd, nm, tx, kk, pl⟩ := x
        simp only at HP d0 d1 d2 d3 d4
        obtain ⟨r, rfl⟩ : ∃ r, m = r + 1 := ⟨m - 1, by omega⟩
        simp only [Nat.add_sub_cancel] at d0 d1 d2 d3 d4
        have hsw : W1.heap.size < W.heap.size := (Array.getElem?_eq_some_iff.1 hK).1
        clear HF0 hz hxe hok hx bT tbW rsW al1
        gi_wp2_with fail
        refine ⟨trivial, fun h => (by cases h), callsIn_wide.2 ((HP _ hbel).mono ?_)⟩
        rintro e w5 ⟨rfl, hb5⟩
        have hrs5 := (hb5.block _ (by omega)).trans hrs
        have hK5 := (hb5.block _ hsw).trans hK
        have hB5 := hbel.trans (hb5.mono hbel.size)
        have cr5 : w5.cell? ⟨w.heap.size + 1, 0, none⟩ = some (.bool b0) := by rw [cell_of_row _ _ _ _ _ _ hrs5]; rfl
        have fr5 : w5.frozen? ⟨w.heap.size + 1, 0, none⟩ = false := frozen_of_row _ _ _ _ _ hrs5
        have rs6 : (w5.setCell ⟨w.heap.size + 1, 0, none⟩ (.bool z)).heap[w.heap.size + 1]? = some (.cells #[.bool z] 4 (0, 0)) := by rw [heap_setCell_same _ _ _ _ _ _ hrs5]; rfl
        have hK6 : (w5.setCell ⟨w.heap.size + 1, 0, none⟩ (.bool z)).heap[W1.heap.size]? = some (.deferred (some [])) := (Below.heap_setCell w5 ⟨w.heap.size + 1, 0, none⟩ _ _ (by show W1.heap.size ≠ w.heap.size + 1; omega)).trans hK5
        have hB6 : Below w.heap.size w (w5.setCell ⟨w.heap.size + 1, 0, none⟩ (.bool z)) := hB5.setCell (p := ⟨w.heap.size + 1, 0, none⟩) (by show w.heap.size ≤ w.heap.size + 1; omega) _
        have hB7 : Below w.heap.size w ((w5.setCell ⟨w.heap.size + 1, 0, none⟩ (.bool z)).putObj W1.heap.size (.deferred none)) := hB6.trans ((But.putObj (S := (· = W1.heap.size)) _ _ _ rfl).below hB6.size (fun k hk => by omega))
        have cz : ((w5.setCell ⟨w.heap.size + 1, 0, none⟩ (.bool z)).putObj W1.heap.size (.deferred none)).cell? ⟨w.heap.size + 1, 0, none⟩ = some (.bool z) := by
          rw [cell_of_row _ _ _ _ _ _ ((World.putObj_heap_other (by omega)).trans rs6)]; rfl
        clear HP hb5 hbel d0 d1 d2 d3 d4 hrs hK htb hal hB5 hrs5 hK5 rs6 hB6
        gi_wp2
        refine ⟨by simp, .inl ⟨_, _, rfl, run_takeDeferred hK6, ?_⟩⟩
        exact ⟨_, results_cellB rfl _ ⟨w.heap.size + 1, 0, none⟩ rfl _ _ cz, ⟨z, rfl, HRT.out.symm⟩, hB7⟩
      case stop =>
        rintro c pre W hpl ⟨rfl, hrs, hbel, hno⟩ hK
        have hq1 : w.heap.size + 1 < W1.heap.size := by omega
        clear sW1
        have hHN : Hid (¬ InForm own kids root t) := hno
        have hB7 : Below w.heap.size w (W.putObj W1.heap.size (.deferred none)) := hbel.trans ((But.putObj (S := (· = W1.heap.size)) _ _ _ rfl).below hbel.size (fun k hk => by omega))
        have cz : (W.putObj W1.heap.size (.deferred none)).cell? ⟨w.heap.size + 1, 0, none⟩ = some (.bool false) := by
          rw [cell_of_row _ _ _ _ _ _ ((World.putObj_heap_other (by omega)).trans hrs)]; rfl
        clear hno hrs hbel hx bT tbW rsW al1
        gi_wp2
        refine ⟨by simp, .inl ⟨_, _, rfl, run_takeDeferred hK, ?_⟩⟩
        exact ⟨_, results_cellB rfl _ ⟨w.heap.size + 1, 0, none⟩ rfl _ _ cz, ⟨false, rfl, by simp; exact hHN.out⟩, hB7⟩
  · have t6 : decide ((60000 : Int) < (m : Int)) = true := decide_eq_true (by omega)
    have HNF : Hid (¬ InForm own kids root t) := fun h => by have := h.1; have := HM.out; omega
    have cr : ((w.alloc (Obj.cells tab 56)).alloc (Obj.cells #[Value.bool false] 4)).cell? ⟨w.heap.size + 1, 0, none⟩ = some (.bool false) := by rw [cell_of_row _ _ _ _ _ _ rs0]; rfl
    have ce : (((w.alloc (Obj.cells tab 56)).alloc (Obj.cells #[Value.bool false] 4)).setCell ⟨w.heap.size + 1, 0, none⟩ (.bool false)).cell? ⟨w.heap.size + 1, 0, none⟩ = some (.bool false) := by rw [cell_of_row _ _ _ _ _ _ (heap_setCell_same _ _ _ _ _ _ rs0)]; rfl
    have hbe : Below w.heap.size w (((w.alloc (Obj.cells tab 56)).alloc (Obj.cells #[Value.bool false] 4)).setCell ⟨w.heap.size + 1, 0, none⟩ (.bool false)) := hB0.setCell (p := ⟨w.heap.size + 1, 0, none⟩) (by show w.heap.size ≤ w.heap.size + 1; omega) _
    clear hx
    gi_wp2
    refine ⟨trivial, ?_⟩
    gi_wp2
    first
      | exact ⟨_, results_cellB rfl _ ⟨w.heap.size + 1, 0, none⟩ rfl _ _ ce, ⟨false, rfl, by simp; exact HNF.out⟩, hbe⟩
      | exact ⟨_, results_cellB rfl _ ⟨w.heap.size + 1, 0, none⟩ rfl _ _ cr, ⟨false, rfl, by simp; exact HNF.out⟩, hB0⟩

end Go.Proofs.Ytekogjmmfhbinaa

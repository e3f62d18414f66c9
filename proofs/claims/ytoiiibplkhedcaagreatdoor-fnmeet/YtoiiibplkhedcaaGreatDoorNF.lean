import Derived.Test.YtoiiibplkhedcaaGreatDoorWAH
import Derived.Deep.CutRange
import Derived.Deep.DeepCutAuto
set_option maxRecDepth 20000
set_option maxHeartbeats 2000000
namespace Go.Proofs.YtoiiibplkhedcaaGreatDoor
open Go.RowKit
theorem neqC (x y : Nd) (w : World) :
    (binOp .neq 43 (.agg #[.int .i64 x.kind, .int .i64 x.num, .string x.text, .int .i64 x.kids, .int .i64 x.place]) (.agg #[.int .i64 y.kind, .int .i64 y.num, .string y.text, .int .i64 y.kids, .int .i64 y.place])).run Tryz.prog w =
      .ok (.bool (!(x.eqb y))) w := by
  unfold Nd.eqb
  go_simp
  repeat' split
  all_goals simp_all
theorem Jcl {x y : Nd} (h : x.eqb y = true) : x = y := by
  obtain ⟨a1, a2, a3, a4, a5⟩ := x
  obtain ⟨b1, b2, b3, b4, b5⟩ := y
  simp only [Nd.eqb, Bool.and_eq_true, beq_iff_eq] at h
  obtain ⟨⟨⟨⟨e1, e2⟩, e3⟩, e4⟩, e5⟩ := h
  have e6 : a3 = b3 := by
    rw [ByteArray.toList_eq, ByteArray.toList_eq] at e3
    cases a3; cases b3
    simp only [ByteArray.mk.injEq]
    exact Array.toList_inj.1 e3
  subst e1 e2 e4 e5 e6
  rfl
theorem Tryz.infoP : (Tryz.prog.info? 109).map (fun i => (i.zero, i.size, i.bytes)) = some (some (.agg #[.pointer none, .pointer none]), 2, 16) := by kernel_rfl
def Qba (P : List (Nat × Nat)) : List Value := P.flatMap fun p => [.pointer (some ⟨p.1, 0, none⟩), .pointer (some ⟨p.2, 0, none⟩)]
theorem Qex (P : List (Nat × Nat)) : (Qba P).length = P.length * 2 := by
  induction P with
  | nil => rfl
  | cons p P ih =>
    simp only [Qba, List.flatMap_cons, List.length_append, List.length_cons, List.length_nil] at ih ⊢
    omega
theorem Qdf (P R : List (Nat × Nat)) : Qba (P ++ R) = Qba P ++ Qba R := by simp [Qba]
theorem Qll (P : List (Nat × Nat)) : ∀ u ∈ Qba P, u.oneCell' = true := by
  intro u hu
  simp only [Qba, List.mem_flatMap, List.mem_cons, List.not_mem_nil, or_false] at hu
  obtain ⟨p, _, rfl | rfl⟩ := hu <;> rfl
theorem Qti (w : World) (x y : Nat) : ∀ j u, (Qba [(x, y)])[j]? = some u → (w.alloc (.cells #[.pointer (some ⟨x, 0, none⟩), .pointer (some ⟨y, 0, none⟩)] 109)).cell? (Addr.add ⟨w.heap.size, 0, none⟩ j) = some u := by
  intro j u hj
  have ad : Addr.add ⟨w.heap.size, 0, none⟩ j = ⟨w.heap.size, j, none⟩ := by
    unfold Addr.add
    split
    · simp_all
    · simp
  rw [ad, cell_of_row _ w.heap.size j _ 109 (0, 0) (heap_alloc_new _ _), ← hj]
  simp [Qba]
def PairRow (w : World) (s : Option Addr × Nat × Nat) (P : List (Nat × Nat)) : Prop :=
  P.length ≤ 20000 ∧ ((s = (none, 0, 0) ∧ P = []) ∨ ∃ g c, s = (some ⟨g, 0, none⟩, P.length, c) ∧ ∀ j u, (Qba P)[j]? = some u → w.cell? (Addr.add ⟨g, 0, none⟩ j) = some u)
theorem Jbm {kx ky : List Nat} {θ : Nat → DT} (h : kx.length = ky.length) : (∀ p ∈ kx.zip ky, θ p.1 = θ p.2) ↔ kx.map θ = ky.map θ := by
  induction kx generalizing ky with
  | nil =>
    cases ky with
    | nil => simp
    | cons y ky => simp at h
  | cons x kx ih =>
    cases ky with
    | nil => simp at h
    | cons y ky =>
      simp only [List.length_cons, Nat.add_right_cancel_iff] at h
      simp only [List.zip_cons_cons, List.mem_cons, forall_eq_or_imp, List.map_cons, List.cons.injEq, ih h]
theorem Qmb {kx ky : List Nat} {k : Nat} (h1 : k < kx.length) (h2 : k < ky.length) : (kx.zip ky).take (k + 1) = (kx.zip ky).take k ++ [(kx[k], ky[k])] := by
  have h3 : k < (kx.zip ky).length := by simp; omega
  rw [List.take_succ_eq_append_getElem h3, List.getElem_zip]
def HRes (X : Nat → Prop) (f : Nat → CC) (lk : Nat → Option Nat) (K : (Option Addr × Nat × Nat) → List Nat) (rt : List Nat) (t : Int) (a b : Nat) (w : World) (e : Ending) (w' : World) : Prop :=
  But X w w' ∧ ((∃ s P, e = .returned (.tuple #[.slice s.1 s.2.1 s.2.2, .nilIface]) ∧ PairRow w' s P ∧ (∀ p ∈ P, X p.1 ∧ X p.2) ∧
      ∃ (f' : Nat → CC) (lk' : Nat → Option Nat) (d' : Nat → Nat) (rt' : List Nat), CSto w' X f' lk' d' K ∧ (rt'.length < rt.length ∨ (P = [] ∧ rt'.length ≤ rt.length)) ∧ (∀ i, X i → lk' i = none → i ∈ rt') ∧ Ties X t f lk f' lk' ∧ ∀ θ, (SatC X (gc K f') lk' θ ∧ ∀ p ∈ P, θ p.1 = θ p.2) ↔ (SatC X (gc K f) lk θ ∧ θ a = θ b)) ∨
    ((∃ v, e = .returned (.tuple #[.slice none 0 0, .iface 143 (.pointer (some v))])) ∧ (∃ lk' d', CSto w' X f lk' d' K ∧ SameHd lk lk') ∧ ∀ θ, SatC X (gc K f) lk θ → θ a ≠ θ b))
theorem Qkh (X : Nat → Prop) (f : Nat → CC) (lk : Nat → Option Nat) (d : Nat → Nat) (K : (Option Addr × Nat × Nat) → List Nat) (w : World) (a b : Nat) (rt : List Nat) (hS : CSto w X f lk d K) (hroots : ∀ i, X i → lk i = none → i ∈ rt) (hXa : X a) (hXb : X b) (hla : lk a = none) (hlb : lk b = none)
    (sb : Nat) (t : Int) (hsX : ¬ X sb) (hst : w.cell? ⟨sb, 1, none⟩ = some (.int .i64 t)) :
    Calls Tryz.prog 59 #[.pointer (some ⟨sb, 0, none⟩), .pointer (some ⟨a, 0, none⟩), .pointer (some ⟨b, 0, none⟩)] w fun e w' => HRes X f lk K rt t a b w e w' := by
  have HC := hS.cells
  have HSS : Hid (CSto w X f lk d K) := hS
  have HRT : Hid (∀ i, X i → lk i = none → i ∈ rt) := hroots
  clear hS hroots
  obtain ⟨j9, hj9, hz9⟩ := Qut
  by_cases hr : a = b
  · subst hr
    have hq := Qiw (w := w) ⟨a, 0, none⟩ u_cp hj9
    go_enter Tryz.func59, Tryz.ntmps59
    go_wp2
    go_ret2
    refine ⟨But.refl _ _, .inl ⟨(none, 0, 0), [], rfl, ⟨by simp, .inl ⟨rfl, rfl⟩⟩, by simp, f, lk, d, rt, HSS.out, .inr ⟨rfl, Nat.le_refl _⟩, HRT.out, Ties.refl _ _ _ _, fun θ => by simp⟩⟩
  · have hq := Qhx (w := w) u_cp hj9 hz9 (a := ⟨a, 0, none⟩) (b := ⟨b, 0, none⟩) (by simp) (HC.at' a hXa) (HC.at' b hXb)
    go_enter Tryz.func59, Tryz.ntmps59
    go_wp2_with fail
    have OA : Hid (∀ m, Calls Tryz.prog 92 #[.pointer (some ⟨a, 0, none⟩)] (w.drewN m) fun e w' => e = .returned (.bool (f a).open?) ∧ w' = w.drewN m) := fun m => Qid (w.drewN m) a (f a) (lk a) ((HC.drewN m).at' a hXa)
    have OB : Hid (∀ m, Calls Tryz.prog 92 #[.pointer (some ⟨b, 0, none⟩)] (w.drewN m) fun e w' => e = .returned (.bool (f b).open?) ∧ w' = w.drewN m) := fun m => Qid (w.drewN m) b (f b) (lk b) ((HC.drewN m).at' b hXb)
    obtain ⟨sw, hsw⟩ : ∃ sw, ((f a).open? && !((f b).open? && decide ((f a).nd.num < (f b).nd.num))) = sw := ⟨_, rfl⟩
    obtain ⟨a0, a1, a2, a3, a4, a5, a6, a7, a8, a9, a10, a11, a12, a13⟩ := (HC.at' a hXa).cell
    obtain ⟨b0, b1, b2, b3, b4, b5, b6, b7, b8, b9, b10, b11, b12, b13⟩ := (HC.at' b hXb).cell
    go_cut [33] from 14 to 32 (fun v wx => v = .bool sw ∧ ∃ m, wx = w.drewN m)
    case first =>
        cases hoa : (f a).open? with
        | false =>
          have OA9 : Hid (∀ m, Calls Tryz.prog 92 #[.pointer (some ⟨a, 0, none⟩)] (w.drewN m) fun e w' => e = .returned (.bool false) ∧ w' = w.drewN m) := by
            have h9 := OA.out
            rw [hoa] at h9
            exact h9
          rw [hoa] at hsw
          have hsw2 : sw = false := hsw.symm
          subst hsw2
          clear hsw hoa OA OB
          go_quiet ((go_at_call 92; exact Calls.quiet_of_same (OA9.out _)))
          (try go_wp2_with fail)
          go_meet
          exact ⟨rfl, _, rfl⟩
        | true =>
          have OA9 : Hid (∀ m, Calls Tryz.prog 92 #[.pointer (some ⟨a, 0, none⟩)] (w.drewN m) fun e w' => e = .returned (.bool true) ∧ w' = w.drewN m) := by
            have h9 := OA.out
            rw [hoa] at h9
            exact h9
          cases hob : (f b).open? with
          | false =>
            have OB9 : Hid (∀ m, Calls Tryz.prog 92 #[.pointer (some ⟨b, 0, none⟩)] (w.drewN m) fun e w' => e = .returned (.bool false) ∧ w' = w.drewN m) := by
              have h9 := OB.out
              rw [hob] at h9
              exact h9
            rw [hoa, hob] at hsw
            have hsw2 : sw = true := hsw.symm
            subst hsw2
            clear hsw hoa OA OB hob
            go_quiet ((first | (go_at_call_of 92 (Value.pointer (some ⟨a, 0, none⟩)); exact Calls.quiet_of_same (OA9.out _)) | (go_at_call_of 92 (Value.pointer (some ⟨b, 0, none⟩)); exact Calls.quiet_of_same (OB9.out _))))
            (try go_wp2_with fail)
            go_meet
            exact ⟨rfl, _, rfl⟩
          | true =>
            have OB9 : Hid (∀ m, Calls Tryz.prog 92 #[.pointer (some ⟨b, 0, none⟩)] (w.drewN m) fun e w' => e = .returned (.bool true) ∧ w' = w.drewN m) := by
              have h9 := OB.out
              rw [hob] at h9
              exact h9
            rw [hoa, hob] at hsw
            clear hoa OA OB hob
            cases hlt : decide ((f a).nd.num < (f b).nd.num) with
            | true =>
              rw [hlt] at hsw
              have hsw2 : sw = false := hsw.symm
              subst hsw2
              clear hsw
              go_quiet ((first | (go_at_call_of 92 (Value.pointer (some ⟨a, 0, none⟩)); exact Calls.quiet_of_same (OA9.out _)) | (go_at_call_of 92 (Value.pointer (some ⟨b, 0, none⟩)); exact Calls.quiet_of_same (OB9.out _))))
              (try go_wp2_with fail)
              go_meet
              exact ⟨rfl, _, rfl⟩
            | false =>
              rw [hlt] at hsw
              have hsw2 : sw = true := hsw.symm
              subst hsw2
              clear hsw
              go_quiet ((first | (go_at_call_of 92 (Value.pointer (some ⟨a, 0, none⟩)); exact Calls.quiet_of_same (OA9.out _)) | (go_at_call_of 92 (Value.pointer (some ⟨b, 0, none⟩)); exact Calls.quiet_of_same (OB9.out _))))
              (try go_wp2_with fail)
              go_meet
              exact ⟨rfl, _, rfl⟩
    case rest =>
        obtain ⟨rfl, m3, rfl⟩ := hcut
        clear OA OB
        go_upto_if 33 with fail
        go_cut [1, 2] from 14 to 35 (fun v1 v2 wx => ∃ x y : Nat, v1 = .pointer (some ⟨x, 0, none⟩) ∧ v2 = .pointer (some ⟨y, 0, none⟩) ∧ (x = a ∧ y = b ∨ x = b ∧ y = a) ∧ ((f y).open? = false → (f x).open? = false) ∧ ((f x).open? = true → (f y).open? = true → (f x).nd.num ≤ (f y).nd.num) ∧ wx = w.drewN m3)
        case first =>
          cases sw
          · go_wp2_with fail
            go_meet
            refine ⟨a, b, rfl, rfl, .inl ⟨rfl, rfl⟩, ?_, ?_, rfl⟩
            · intro hob
              rw [hob] at hsw
              simpa using hsw
            · intro hoa hob
              rw [hoa, hob] at hsw
              simp at hsw
              omega
          · go_wp2_with fail
            go_meet
            refine ⟨b, a, rfl, rfl, .inr ⟨rfl, rfl⟩, ?_, ?_, rfl⟩
            · intro hoa
              rw [hoa] at hsw
              cases hsw
            · intro hob hoa
              rw [hoa, hob] at hsw
              simp at hsw
              omega
        case rest =>
          obtain ⟨x, y, rfl, rfl, hxy, hop, hnum, rfl⟩ := hcut
          have HNUM : Hid ((f x).open? = true → (f y).open? = true → (f x).nd.num ≤ (f y).nd.num) := hnum
          clear hnum
          have hne : x ≠ y := by
            rcases hxy with ⟨rfl, rfl⟩ | ⟨rfl, rfl⟩
            · exact hr
            · exact fun e => hr e.symm
          have hXx : X x := by rcases hxy with ⟨rfl, rfl⟩ | ⟨rfl, rfl⟩ <;> assumption
          have hXy : X y := by rcases hxy with ⟨rfl, rfl⟩ | ⟨rfl, rfl⟩ <;> assumption
          have hlx : lk x = none := by rcases hxy with ⟨rfl, rfl⟩ | ⟨rfl, rfl⟩ <;> assumption
          have hly : lk y = none := by rcases hxy with ⟨rfl, rfl⟩ | ⟨rfl, rfl⟩ <;> assumption
          have HFIN : Hid (∀ θ, (SatC X (gc K f) lk θ ∧ θ x = θ y) ↔ (SatC X (gc K f) lk θ ∧ θ a = θ b)) := by
            intro θ
            rcases hxy with ⟨rfl, rfl⟩ | ⟨rfl, rfl⟩
            · exact Iff.rfl
            · exact ⟨fun h => ⟨h.1, h.2.symm⟩, fun h => ⟨h.1, h.2.symm⟩⟩
          have hst3 : (w.drewN m3).cell? ⟨sb, 1, none⟩ = some (.int .i64 t) := hst
          obtain ⟨w3, hw3⟩ : ∃ w3, w.drewN m3 = w3 := ⟨_, rfl⟩
          have HS3 : Hid (CSto w3 X f lk d K) := by
            show CSto w3 X f lk d K
            rw [← hw3]; exact HSS.out.short (HSS.out.cells.drewN m3) HSS.out.acyc ((But.refl X w).drewN m3)
          have HB3 : Hid (But X w w3) := by
            show But X w w3
            rw [← hw3]; exact (But.refl X w).drewN m3
          have HZ3 : Hid (w3.heap.size = w.heap.size) := by
            show w3.heap.size = w.heap.size
            rw [← hw3]; rfl
          rw [hw3] at hst3 ⊢
          clear hw3 a0 a1 a2 a3 a4 a5 a6 a7 a8 a9 a10 a11 a12 a13 b0 b1 b2 b3 b4 b5 b6 b7 b8 b9 b10 b11 b12 b13 hsw hxy HC HSS hq hr hla hlb hst
          have hC3 := HS3.out.cells
          obtain ⟨a0, a1, a2, a3, a4, a5, a6, a7, a8, a9, a10, a11, a12, a13⟩ := (hC3.at' x hXx).cell
          obtain ⟨b0, b1, b2, b3, b4, b5, b6, b7, b8, b9, b10, b11, b12, b13⟩ := (hC3.at' y hXy).cell
          have hneq := neqC (f x).nd (f y).nd
          have OY := Qid w3 y (f y) (lk y) (hC3.at' y hXy)
          cases hoy : (f y).open? with
          | true =>
            rw [hoy] at OY
            go_wp2_with fail
            refine OY.mono ?_
            rintro e w4 ⟨rfl, rfl⟩
            clear OY
            have hle : (f x).lv ≤ (f y).lv := by
              have h8 := HS3.out.low x hXx
              have h9 := hoy
              simp only [CC.open?, Bool.and_eq_true, decide_eq_true_eq] at h9
              omega
            have hk61 : (f y).nd.kind = 61 := by
              have h9 := hoy
              simp only [CC.open?, Bool.and_eq_true, beq_iff_eq] at h9
              exact h9.1
            have HLT : ∀ b, X b → b < w4.heap.size := fun b hb => (hC3.at' b hb).lt
            go_wp2_with fail
            refine (Qwr X f lk d HS3.out.acyc w4 hC3 HLT x hXx hlx (f y).lv hle).mono ?_
            rintro e w5 ⟨rfl, lk5, hC5, hS5, hA5, hB5⟩
            have hst5 : w5.cell? ⟨sb, 1, none⟩ = some (.int .i64 t) := (hB5.cellB (Qaa hst3) hsX).trans hst3
            have hlx5 : lk5 x = none := (Qaw lk5 x).2 ((hS5 x x).1 ((Qaw lk x).1 hlx))
            have hly5 : lk5 y = none := (Qaw lk5 y).2 ((hS5 y y).1 ((Qaw lk y).1 hly))
            have HS5 : Hid (CSto w5 X f lk5 d K) := HS3.out.short hC5 hA5 hB5
            have HR5 : Hid (∀ i, X i → lk5 i = none → i ∈ rt) := fun i hi hl => HRT.out i hi ((Qaw lk i).2 ((hS5 i i).2 ((Qaw lk5 i).1 hl)))
            have HSH : Hid (SameHd lk lk5) := hS5
            have HT5 : Hid (∀ θ, SatC X (gc K f) lk5 θ ↔ SatC X (gc K f) lk θ) := fun θ => hS5.sat HS3.out.acyc hA5 θ
            have HB5 : Hid (But X w w5) := HB3.out.trans hB5
            clear a0 a1 a2 a3 a4 a5 a6 a7 a8 a9 a10 a11 a12 a13 b0 b1 b2 b3 b4 b5 b6 b7 b8 b9 b10 b11 b12 b13 hB5 hA5 hS5 hC3 hst3 HS3 hneq HLT HRT hlx hly
            go_wp2_with fail
            refine (Qux X f lk5 w5 hC5 sb t hsX hst5 x y hXx hXy hne hlx5 hly5).mono ?_
            rintro e w6 ⟨rfl, h, q, r, hhq, hC6, hB6, _⟩
            have hXq : X q := by rcases hhq with ⟨rfl, rfl⟩ | ⟨rfl, rfl⟩ <;> assumption
            have hXh : X h := by rcases hhq with ⟨rfl, rfl⟩ | ⟨rfl, rfl⟩ <;> assumption
            have hlq : lk5 q = none := by rcases hhq with ⟨rfl, rfl⟩ | ⟨rfl, rfl⟩ <;> assumption
            have hhq2 : h ≠ q := by
              rcases hhq with ⟨rfl, rfl⟩ | ⟨rfl, rfl⟩
              · exact hne
              · exact fun e => hne e.symm
            have ecore : (Qat f x h q r t h).core = (f x).core := by
              rw [Qhr f hhq2]
              rcases hhq with ⟨rfl, rfl⟩ | ⟨rfl, rfl⟩
              · split <;> rfl
              · rw [if_pos hk61]
            obtain ⟨d6, hS6⟩ := HS5.out.tied hXx hXh hne hlx5 hly5 hhq hC6 (Qdh f r t) (.inl ecore) hB6
            have HFI : Hid (∀ θ, SatC X (gc K (Qat f x h q r t)) (tied lk5 h q) θ ↔ (SatC X (gc K f) lk θ ∧ θ a = θ b)) := by
              intro θ
              rw [← HFIN.out θ, ← HT5.out θ]
              exact Qzh (g := gc K f) (g' := gc K (Qat f x h q r t)) hXx hXy hne hlx5 hly5 hhq (Qie ecore) (fun i hi => Qie (Qdh f r t i hi)) hoy θ
            have HR6 : Hid (∀ i, X i → tied lk5 h q i = none → i ∈ rt.erase q) := by
              intro i hi hl
              have hiq : i ≠ q := fun e9 => by subst e9; simp [tied] at hl
              simp only [tied, hiq, if_false] at hl
              exact (List.mem_erase_of_ne hiq).2 (HR5.out i hi hl)
            have hrt6 : (rt.erase q).length < rt.length := by
              have h9 := HR5.out q hXq hlq
              have h8 := List.length_pos_of_mem h9
              rw [List.length_erase_of_mem h9]
              omega
            have HB6 : Hid (But X w w6) := HB5.out.trans hB6
            have HS6 : Hid (CSto w6 X (Qat f x h q r t) (tied lk5 h q) d6 K) := hS6
            clear hC5 hC6 hB6 hS6 HS5 hst5
            go_wp2
            go_ret2
            refine ⟨HB6.out, .inl ⟨(none, 0, 0), [], rfl, ⟨by simp, .inl ⟨rfl, rfl⟩⟩, by simp, _, _, d6, rt.erase q, HS6.out, .inl hrt6, HR6.out, .step (.same HSH.out) hXx hXy hne hlx5 hly5 hhq (.inl ⟨hoy, fun h9 => HNUM.out h9 hoy⟩) (SameHd.refl _), fun θ => ?_⟩⟩
            rw [← HFI.out θ]
            simp
          | false =>
            have hox := hop hoy
            rw [hoy] at OY
            go_wp2_with fail
            refine OY.mono ?_
            rintro e w4 ⟨rfl, rfl⟩
            clear OY
            cases hcl : (f x).nd.eqb (f y).nd with
            | false =>
              have hnd : (f x).nd ≠ (f y).nd := fun e => by
                rw [e, Nd.eqb_refl] at hcl
                cases hcl
              have HNO : Hid (∀ θ, SatC X (gc K f) lk θ → θ a ≠ θ b) := by
                intro θ h1 h2
                obtain ⟨h3, h4⟩ := (HFIN.out θ).2 ⟨h1, h2⟩
                exact Qvq (g := gc K f) hXx hXy hlx hly hox hoy hnd θ h3 h4
              rw [hcl] at hneq
              go_wp2_with fail
              go_quiet (fail)
              go_wp2_with fail
              go_region
              go_wp2
              go_ret2
              refine ⟨?_, .inr ⟨⟨_, rfl⟩, ⟨lk, d, ?_, SameHd.refl _⟩, HNO.out⟩⟩
              · exact (HB3.out.drewN _).trans (But.ofBelow ((Below.refl _ _).alloc (Nat.le_refl _) _))
              · exact HS3.out.still (((But.refl (fun _ => False) w4).drewN _).trans (But.ofBelow ((Below.refl _ _).alloc (Nat.le_refl _) _)))
            | true =>
              have hnd : (f x).nd = (f y).nd := Jcl hcl
              have HMT : Hid (Qma (f x) (f y)) := .inr ⟨hox, hoy, hnd⟩
              rw [hcl] at hneq
              have HS4 : Hid (∀ m, CSto (w4.drewN m) X f lk d K) := fun m => HS3.out.short (HS3.out.cells.drewN m) HS3.out.acyc ((But.refl X w4).drewN m)
              have HB4 : Hid (∀ m, But X w (w4.drewN m)) := fun m => HB3.out.drewN m
              have HST : Hid (∀ m, (w4.drewN m).cell? ⟨sb, 1, none⟩ = some (.int .i64 t)) := fun m => hst3
              clear hst3 HS3 HB3
              go_wp2_with fail
              go_quiet (fail)
              have HS3 : Hid (CSto (w4.drewN nq) X f lk d K) := HS4.out nq
              have HB3 : Hid (But X w (w4.drewN nq)) := HB4.out nq
              have hst3 : (w4.drewN nq).cell? ⟨sb, 1, none⟩ = some (.int .i64 t) := HST.out nq
              clear a0 a1 a2 a3 a4 a5 a6 a7 a8 a9 a10 a11 a12 a13 b0 b1 b2 b3 b4 b5 b6 b7 b8 b9 b10 b11 b12 b13 HS4 HB4 HST hC3 hneq HZ3
              generalize w4.drewN nq = w4 at *
              have hC3 := HS3.out.cells
              obtain ⟨a0, a1, a2, a3, a4, a5, a6, a7, a8, a9, a10, a11, a12, a13⟩ := (hC3.at' x hXx).cell
              obtain ⟨b0, b1, b2, b3, b4, b5, b6, b7, b8, b9, b10, b11, b12, b13⟩ := (hC3.at' y hXy).cell
              obtain ⟨sy, ly, cy, hky⟩ : ∃ s l c, (f y).ks = (s, l, c) := ⟨_, _, _, rfl⟩
              obtain ⟨sx, lx, cx, hkx⟩ : ∃ s l c, (f x).ks = (s, l, c) := ⟨_, _, _, rfl⟩
              have RY := HS3.out.rows y hXy
              have RX := HS3.out.rows x hXx
              have IY : Hid (∀ k ∈ K (f y).ks, X k) := HS3.out.inX y hXy
              have IX : Hid (∀ k ∈ K (f x).ks, X k) := HS3.out.inX x hXx
              have hlen : (K (f x).ks).length = (K (f y).ks).length := by
                have h1 := HS3.out.arity x hXx
                have h2 := HS3.out.arity y hXy
                rw [hnd] at h1
                omega
              obtain ⟨ky, hKy⟩ : ∃ l, K (f y).ks = l := ⟨_, rfl⟩
              obtain ⟨kx, hKx⟩ : ∃ l, K (f x).ks = l := ⟨_, rfl⟩
              rw [hKy] at RY IY hlen
              rw [hKx] at RX IX hlen
              rw [hky] at b6 RY
              rw [hkx] at a6 RX
              simp only at a6 b6
              have hLx : lx = kx.length := RX.1.1
              have hLy : ly = ky.length := RY.1.1
              have hL2 : lx ≤ 20000 := by rw [hLx]; exact RX.1.2.1
              have hLe : ly = lx := by omega
              subst hLe
              have HRX : Hid (KidRow w4 X (sx, ly, cx) kx) := RX
              have HRY : Hid (KidRow w4 X (sy, ly, cy) ky) := RY
              have HLX : Hid (kx.length = ly) := hLx.symm
              have HLY : Hid (ky.length = ly) := hLy.symm
              have HKX : Hid (K (f x).ks = kx) := hKx
              have HKY : Hid (K (f y).ks = ky) := hKy
              have HND : Hid ((f x).nd = (f y).nd) := hnd
              have hxlt : x < w4.heap.size := (hC3.at' x hXx).lt
              have hylt : y < w4.heap.size := (hC3.at' y hXy).lt
              have HB6 : Hid (w4.cell? ⟨y, 6, none⟩ = some (.slice sy ly cy)) := b6
              have HC4 : Hid (Cells w4 X f lk) := hC3
              have HST : Hid (w4.cell? ⟨sb, 1, none⟩ = some (.int .i64 t)) := hst3
              obtain ⟨i0, hi, hz0, hz1, hz2⟩ := info_parts Tryz.infoP
              have hO0 : (w4.alloc (.cells #[] 109)).ownsRow w4.heap.size 109 2 (.slice (some ⟨w4.heap.size, 0, none⟩) 0 0) 0 (Qba []) := ⟨rfl, Or.inr ⟨_, 0, #[], rfl, Nat.le_refl _, heap_alloc_new _ _, Nat.le_refl _, by simp [maxLen], rfl, rfl⟩⟩
              clear RX RY hlen hLx hLy hKx hKy hcl hop hky hkx hnd
              clear a0 a1 a2 a3 a4 a5 a7 a8 a9 a10 a11 a12 a13 b0 b1 b2 b3 b4 b5 b6 b7 b8 b9 b10 b11 b12 b13 hC3
              go_wp2_with fail
              go_loopw [8, 74] (fun v i wr => ∃ (k g c : Nat), k ≤ ly ∧ i = .int .i64 (k : Int) ∧ v = .slice (some ⟨g, 0, none⟩) k c ∧ wr.ownsRow w4.heap.size 109 2 (.slice (some ⟨g, 0, none⟩) k c) k (Qba ((kx.zip ky).take k)) ∧ Below w4.heap.size w4 wr) (fun _ i _ => ly - (intOf i).toNat)
              case atStart => exact ⟨0, w4.heap.size, 0, Nat.zero_le _, rfl, rfl, by simpa using hO0, (Below.refl _ _).alloc (Nat.le_refl _) _⟩
              case round =>
                clear hO0
                obtain ⟨k, g, c, hk, rfl, rfl, hown, hbr⟩ := hrel
                have hob := Qad hown
                have hsz := hbr.size
                by_cases hkL : k < ly
                · have hk1 : k < kx.length := by have := HLX.out; omega
                  have hk2 : k < ky.length := by have := HLY.out; omega
                  obtain ⟨gy, cuy, hsy, hgy, hgy2, hgy3, hgy4⟩ := HRY.out.2.resolve_left (fun e9 => by rw [e9] at hk2; simp at hk2)
                  obtain ⟨gx, cux, hsx, hgx, hgx2, hgx3, hgx4⟩ := HRX.out.2.resolve_left (fun e9 => by rw [e9] at hk1; simp at hk1)
                  simp only at hsy hsx
                  subst hsy
                  subst hsx
                  have ey : wr.cell? ⟨gy, k, none⟩ = some (.pointer (some ⟨ky[k], 0, none⟩)) := by
                    rw [cell_of_row wr gy k cuy 64 (0, 0) ((hbr.block gy hgy2).trans hgy3)]
                    exact hgy4 k hk2
                  have ex : wr.cell? ⟨gx, k, none⟩ = some (.pointer (some ⟨kx[k], 0, none⟩)) := by
                    rw [cell_of_row wr gx k cux 64 (0, 0) ((hbr.block gx hgx2).trans hgx3)]
                    exact hgx4 k hk1
                  have eb : wr.cell? ⟨y, 6, none⟩ = some (.slice (some ⟨gy, 0, none⟩) ly cy) := (Qfd hbr y 6 hylt).trans HB6.out
                  have HTS : Hid ((kx.zip ky).take (k + 1) = (kx.zip ky).take k ++ [(kx[k], ky[k])]) := Qmb hk1 hk2
                  obtain ⟨tx, htx⟩ : ∃ t, kx[k] = t := ⟨_, rfl⟩
                  obtain ⟨ty, hty⟩ : ∃ t, ky[k] = t := ⟨_, rfl⟩
                  obtain ⟨Z, hZ⟩ : ∃ Z, (kx.zip ky).take k = Z := ⟨_, rfl⟩
                  rw [htx] at ex HTS
                  rw [hty] at ey HTS
                  rw [hZ] at hown HTS
                  have hown1 := hown.alloc (.cells #[.pointer (some ⟨tx, 0, none⟩), .pointer (some ⟨ty, 0, none⟩)] 109)
                  have hb1 := hbr.alloc hbr.size (.cells #[.pointer (some ⟨tx, 0, none⟩), .pointer (some ⟨ty, 0, none⟩)] 109)
                  have hcells := Qti wr tx ty
                  clear hgy3 hgy4 hgx3 hgx4 hown htx hty hZ hbr
                  go_wp2_with (at_builtin; refine Qac _ rfl (.tmp 79) (.tmp 89) 110 rfl w4.heap.size 109 i0 _ 2 16 Tryz.underlying110 hi hz0 hz1 hz2 rfl (by decide) g k c _ rfl hown1 ⟨_, 0, none⟩ 1 1 (Qba [(tx, ty)]) rfl rfl hcells (Qll _) ?a3 ?a4 ?a5 ?_)
                  case a3 => unfold maxLen; omega
                  case a4 => omega
                  case a5 => (try simp); omega
                  intro g2 c2 w5 hown2 hgrow2 hwh
                  have hb2 : Below w4.heap.size w4 w5 := hb1.grown hgrow2 (by (try simp); omega) (fun q hq => by cases hq; exact hob.1)
                  have hown3 : w5.ownsRow w4.heap.size 109 2 (.slice (some ⟨g2, 0, none⟩) (k + 1) c2) (k + 1) (Qba ((kx.zip ky).take (k + 1))) := by
                    rw [HTS.out, Qdf]
                    exact hown2
                  clear hown2 hgrow2 hwh hown1 hb1 hcells ex ey eb
                  go_wp2
                  go_roundw
                  case rel => exact ⟨k + 1, g2, c2, by omega, by go_num, rfl, hown3, hb2⟩
                  case measure => simp [intOf]; omega
                · obtain rfl : k = ly := by omega
                  have HZL : Hid ((kx.zip ky).length = k) := by
                    show (kx.zip ky).length = k
                    have h1 := HLX.out
                    have h2 := HLY.out
                    simp
                    omega
                  have HOW : Hid (wr.ownsRow w4.heap.size 109 2 (.slice (some ⟨g, 0, none⟩) k c) k (Qba (kx.zip ky))) := by
                    have h9 := hown
                    rw [List.take_of_length_le (by have := HZL.out; omega)] at h9
                    exact h9
                  have hBr : But X w4 wr := But.ofBelow hbr
                  have HS5 : Hid (CSto wr X f lk d K) := HS3.out.short (HC4.out.but (But.ofBelow (S := fun _ => False) hbr) (fun _ _ h => h)) HS3.out.acyc hBr
                  have hst5 : wr.cell? ⟨sb, 1, none⟩ = some (.int .i64 t) := (Qfd hbr sb 1 (Qaa HST.out)).trans HST.out
                  have hgX : ¬ X g := fun h => by have := (HC4.out.at' g h).lt; omega
                  have HB5 : Hid (But X w wr) := HB3.out.trans hBr
                  clear hown hBr hbr HST HB6 HRX HRY HC4 HS3 HB3
                  go_wp2_with fail
                  refine (Qux X f lk wr HS5.out.cells sb t hsX hst5 x y hXx hXy hne hlx hly).mono ?_
                  rintro e w6 ⟨rfl, h, q, r, hhq, hC6, hB6, _⟩
                  have hXq : X q := by rcases hhq with ⟨rfl, rfl⟩ | ⟨rfl, rfl⟩ <;> assumption
                  have hXh : X h := by rcases hhq with ⟨rfl, rfl⟩ | ⟨rfl, rfl⟩ <;> assumption
                  have hlq : lk q = none := by rcases hhq with ⟨rfl, rfl⟩ | ⟨rfl, rfl⟩ <;> assumption
                  have hhq2 : h ≠ q := by
                    rcases hhq with ⟨rfl, rfl⟩ | ⟨rfl, rfl⟩
                    · exact hne
                    · exact fun e => hne e.symm
                  have ecore : (Qat f x h q r t h).core = (f x).core ∨ (h = y ∧ (Qat f x h q r t h).core = (f h).core) := by
                    rw [Qhr f hhq2]
                    rcases hhq with ⟨rfl, rfl⟩ | ⟨rfl, rfl⟩
                    · left; split <;> rfl
                    · by_cases hk : (f h).nd.kind = 61
                      · left; rw [if_pos hk]
                      · right; exact ⟨rfl, by rw [if_neg hk]⟩
                  obtain ⟨d6, hS6⟩ := HS5.out.tied hXx hXh hne hlx hly hhq hC6 (Qdh f r t) (ecore.imp id (fun h => h.2)) hB6
                  have hll : kx.length = ky.length := by have := HLX.out; have := HLY.out; omega
                  have HFI : Hid (∀ θ, (SatC X (gc K (Qat f x h q r t)) (tied lk h q) θ ∧ ∀ p ∈ kx.zip ky, θ p.1 = θ p.2) ↔ (SatC X (gc K f) lk θ ∧ θ a = θ b)) := by
                    intro θ
                    rw [← HFIN.out θ, Jbm hll]
                    rcases ecore with ec | ⟨rfl, ec⟩
                    · have h9 := Qrv (g := gc K f) (g' := gc K (Qat f x h q r t)) hXx hXy hne hlx hly hhq (Qie ec) (fun i hi => Qie (Qdh f r t i hi)) hox hoy HND.out (by simp only [gc, HKX.out, HKY.out]; exact hll) θ
                      simp only [gc, HKX.out, HKY.out] at h9
                      exact h9
                    · have h9 := Qrv (g := gc K f) (g' := gc K (Qat f x h q r t)) hXh hXx (fun e => hne e.symm) hly hlx (hhq.symm) (Qie ec) (fun i hi => Qie (Qdh f r t i hi)) hoy hox HND.out.symm (by simp only [gc, HKX.out, HKY.out]; exact hll.symm) θ
                      simp only [gc, HKX.out, HKY.out] at h9
                      refine Iff.trans ?_ (h9.trans ?_)
                      · exact ⟨fun h => ⟨h.1, h.2.symm⟩, fun h => ⟨h.1, h.2.symm⟩⟩
                      · exact ⟨fun h => ⟨h.1, h.2.symm⟩, fun h => ⟨h.1, h.2.symm⟩⟩
                  have HR6 : Hid (∀ i, X i → tied lk h q i = none → i ∈ rt.erase q) := by
                    intro i hi hl
                    have hiq : i ≠ q := fun e9 => by subst e9; simp [tied] at hl
                    simp only [tied, hiq, if_false] at hl
                    exact (List.mem_erase_of_ne hiq).2 (HRT.out i hi hl)
                  have hrt6 : (rt.erase q).length < rt.length := by
                    have h9 := HRT.out q hXq hlq
                    have h8 := List.length_pos_of_mem h9
                    rw [List.length_erase_of_mem h9]
                    omega
                  have HB6 : Hid (But X w w6) := HB5.out.trans hB6
                  have HS6 : Hid (CSto w6 X (Qat f x h q r t) (tied lk h q) d6 K) := hS6
                  have HPR : Hid (PairRow w6 (some ⟨g, 0, none⟩, k, c) (kx.zip ky)) := by
                    refine ⟨by have := HZL.out; omega, .inr ⟨g, c, by rw [HZL.out], fun j u hj => ?_⟩⟩
                    have h9 := (Qah HOW.out hB6 hgX).cells (g := g) rfl j u hj
                    exact h9
                  have HPX : Hid (∀ p ∈ kx.zip ky, X p.1 ∧ X p.2) := by
                    intro p hp
                    exact ⟨IX.out _ (List.of_mem_zip hp).1, IY.out _ (List.of_mem_zip hp).2⟩
                  clear hC6 hB6 hS6 HS5 hst5 HOW
                  go_wp2
                  go_ret2
                  exact ⟨HB6.out, .inl ⟨(some ⟨g, 0, none⟩, k, c), kx.zip ky, rfl, HPR.out, HPX.out, _, _, d6, rt.erase q, HS6.out, .inl hrt6, HR6.out, .step (.same (SameHd.refl _)) hXx hXy hne hlx hly hhq HMT.out (SameHd.refl _), HFI.out⟩⟩
end Go.Proofs.YtoiiibplkhedcaaGreatDoor

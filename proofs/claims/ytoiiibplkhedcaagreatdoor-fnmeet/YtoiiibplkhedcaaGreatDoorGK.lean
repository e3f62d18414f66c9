import Derived.Test.YtoiiibplkhedcaaGreatDoorGJ
import Derived.Deep.RegionWith
import Derived.Deep.RegionLaw
import Derived.Test.YtoiiibplkhedcaaGreatDoorGA
import Derived.Deep.CutRange
import Derived.Deep.DeepCutAuto
import Derived.Deep.RegionHeld3
namespace Go.Proofs.YtoiiibplkhedcaaGreatDoor
open Go.RowKit
def Shortened (X : Nat → Prop) (f : Nat → CC) (lk : Nat → Option Nat) (d : Nat → Nat) (w w' : World) : Prop := ∃ lk', Cells w' X f lk' ∧ SameHd lk lk' ∧ Acyc lk' d ∧ But X w w'
def lenOf : Value → Nat
  | .slice _ n _ => n
  | _ => 0
theorem But.undrew {S : Nat → Prop} {w w' : World} (h : But S w.drew w') : But S w w' := ⟨h.os, h.tape, h.output, h.size, h.block⟩
theorem Shortened.undrew {X : Nat → Prop} {f : Nat → CC} {lk : Nat → Option Nat} {d : Nat → Nat} {w w' : World} (h : Shortened X f lk d w.drew w') : Shortened X f lk d w w' := by
  obtain ⟨lk', h1, h2, h3, h4⟩ := h
  exact ⟨lk', h1, h2, h3, h4.undrew⟩
set_option maxRecDepth 20000 in
set_option maxHeartbeats 2000000 in
theorem lower1_any (X : Nat → Prop) (f : Nat → CC) (lk : Nat → Option Nat) (d : Nat → Nat) (HA : Hid (Acyc lk d)) (w : World) (hC : Cells w X f lk) (c : Nat) (hX : X c) (hl : lk c = none) (bx : Nat) (level : Int) (hbx : w.cell? ⟨bx, 0, none⟩ = some (.int .i64 level)) (hbX : ¬ X bx) (hle : (f c).lv ≤ level) :
    Calls Tryz.prog 107 #[.pointer (some ⟨c, 0, none⟩), .pointer (some ⟨bx, 0, none⟩)] w fun e w' => e = .returned (.slice none 0 0) ∧ Shortened X f lk d w w' := by
  go_enter Tryz.func107, Tryz.ntmps107
  go_wp2_with fail
  refine (head_any X f lk d HA w hC c c hX (Hd.root hl)).mono ?_
  rintro e w1 ⟨rfl, lk1, hC1, hS1, hA1, hB1, hz1⟩
  have hbx1 : w1.cell? ⟨bx, 0, none⟩ = some (.int .i64 level) := (hB1.cellB (lt_of_cell hbx) hbX).trans hbx
  obtain ⟨_, _, _, _, _, _, _, _, c8, _, _, _, _, _⟩ := (hC1.at' c hX).cell
  have H9 : Hid (Shortened X f lk d w w1) := ⟨lk1, hC1, hS1, hA1, hB1⟩
  have tle : decide ((f c).lv ≤ level) = true := decide_eq_true hle
  clear hC hC1 hS1 hA1 hB1 hbx
  go_wp2
  go_quiet (fail)
  go_wp2
  go_ret
  obtain ⟨lk1, h1, h2, h3, h4⟩ := H9.out
  exact ⟨rfl, lk1, h1.drewN _, h2, h3, h4.drewN _⟩
set_option maxRecDepth 20000 in
set_option maxHeartbeats 2000000 in
theorem until1_any (X : Nat → Prop) (f : Nat → CC) (lk : Nat → Option Nat) (d : Nat → Nat) (HA : Hid (Acyc lk d)) (w : World) (hC : Cells w X f lk) (c : Nat) (hX : X c) (hl : lk c = none) (bx g : Nat) (level : Int) (hbx : w.cell? ⟨bx, 0, none⟩ = some (.int .i64 level)) (hbX : ¬ X bx) (hle : (f c).lv ≤ level)
    (hg : w.cell? ⟨g, 0, none⟩ = some (.pointer (some ⟨c, 0, none⟩))) :
    Calls Tryz.prog 106 #[.slice (some ⟨g, 0, none⟩) 1 1, .func (.func 107) #[] #[.pointer (some ⟨bx, 0, none⟩)]] w fun e w' => e = .returned (.tuple #[]) ∧ Shortened X f lk d w w' := by
  have HC := lower1_any X f lk d HA w.drew hC.drew c hX hl bx level hbx hbX hle
  go_enter Tryz.func106, Tryz.ntmps106
  go_wp2
  go_loopw [0] (fun v wr => (v = .slice (some ⟨g, 0, none⟩) 1 1 ∧ wr = w) ∨ (v = .slice (some ⟨g, 0, none⟩) 0 1 ∧ Shortened X f lk d w wr)) (fun v _ => lenOf v)
  case atStart => exact .inl ⟨rfl, rfl⟩
  case round =>
    rcases hrel with ⟨rfl, rfl⟩ | ⟨rfl, hS⟩
    · go_wp2_with fail
      go_region_law (go_simp; refine HC.mono ?_; rintro e w1 ⟨rfl, hS⟩)
      all_goals
        have hS := hS.undrew
        clear HC
        simp only [Act.put, List.getElem_toArray, List.getElem_cons_succ, List.getElem_cons_zero, List.setIfInBounds_toArray, List.set_cons_zero]
        go_wp2
        go_roundw
        case rel => exact .inr ⟨rfl, hS⟩
        case measure => simp [lenOf]
    · clear HC
      go_wp2
      go_end0
      exact ⟨rfl, hS⟩
set_option maxRecDepth 20000 in
set_option maxHeartbeats 2000000 in
theorem lower_any (X : Nat → Prop) (f : Nat → CC) (lk : Nat → Option Nat) (d : Nat → Nat) (HA : Hid (Acyc lk d)) (w : World) (hC : Cells w X f lk) (hlt : ∀ b, X b → b < w.heap.size) (c : Nat) (hX : X c) (hl : lk c = none) (level : Int) (hle : (f c).lv ≤ level) :
    Calls Tryz.prog 93 #[.pointer (some ⟨c, 0, none⟩), .int .i64 level] w fun e w' => e = .returned (.tuple #[]) ∧ Shortened X f lk d w w' := by
  have hb0 : Below w.heap.size w (w.alloc (.cells #[.int .i64 level] 3)) := (Below.refl _ w).alloc (Nat.le_refl _) _
  have hb1 := hb0.alloc hb0.size (.cells #[.pointer (some ⟨c, 0, none⟩)] 64)
  have hB : But (fun _ => False) w ((w.alloc (.cells #[.int .i64 level] 3)).alloc (.cells #[.pointer (some ⟨c, 0, none⟩)] 64)) := But.ofBelow hb1
  have hC1 := hC.but hB (fun _ _ h => h)
  have k0 : ((w.alloc (.cells #[.int .i64 level] 3)).alloc (.cells #[.pointer (some ⟨c, 0, none⟩)] 64)).cell? ⟨w.heap.size, 0, none⟩ = some (.int .i64 level) := by
    have h8 := heap_alloc_new w (.cells #[.int .i64 level] 3)
    have h9 := (heap_alloc_old (w.alloc (.cells #[.int .i64 level] 3)) (.cells #[.pointer (some ⟨c, 0, none⟩)] 64) (r := w.heap.size) (by simp)).trans h8
    rw [cell_of_row _ _ _ _ 3 (0, 0) h9]
    rfl
  have k1 : ((w.alloc (.cells #[.int .i64 level] 3)).alloc (.cells #[.pointer (some ⟨c, 0, none⟩)] 64)).cell? ⟨w.heap.size + 1, 0, none⟩ = some (.pointer (some ⟨c, 0, none⟩)) := by
    have h9 := heap_alloc_new (w.alloc (.cells #[.int .i64 level] 3)) (.cells #[.pointer (some ⟨c, 0, none⟩)] 64)
    rw [World.size_alloc] at h9
    rw [cell_of_row _ _ _ _ 64 (0, 0) h9]
    rfl
  have HU := until1_any X f lk d HA _ hC1 c hX hl w.heap.size (w.heap.size + 1) level k0 (fun h => Nat.lt_irrefl _ (hlt _ h)) hle k1
  clear hC hC1 k0 k1 hb0 hb1
  go_enter Tryz.func93, Tryz.ntmps93
  go_wp2_with fail
  refine HU.mono ?_
  rintro e w1 ⟨rfl, lk1, h1, h2, h3, h4⟩
  clear HU
  have HR : Hid (Shortened X f lk d w w1) := ⟨lk1, h1, h2, h3, (hB.mono (fun _ h => h.elim)).trans h4⟩
  clear h1 h2 h3 h4 hB
  go_wp2
  go_end0
  exact ⟨rfl, HR.out⟩
end Go.Proofs.YtoiiibplkhedcaaGreatDoor

namespace Go.Proofs.YtoiiibplkhedcaaGreatDoor
open Go.RowKit
theorem neqC (x y : Nd) (w : World) :
    (binOp .neq 43 (.agg #[.int .i64 x.kind, .int .i64 x.num, .string x.text, .int .i64 x.kids, .int .i64 x.place]) (.agg #[.int .i64 y.kind, .int .i64 y.num, .string y.text, .int .i64 y.kids, .int .i64 y.place])).run Tryz.prog w =
      .ok (.bool (!(x.eqb y))) w := by
  unfold Nd.eqb
  go_simp
  repeat' split
  all_goals simp_all
theorem eqbC_eq {x y : Nd} (h : x.eqb y = true) : x = y := by
  obtain ⟨a1, a2, a3, a4, a5⟩ := x
  obtain ⟨b1, b2, b3, b4, b5⟩ := y
  simp only [Nd.eqb, Bool.and_eq_true, beq_iff_eq] at h
  obtain ⟨⟨⟨⟨e1, e2⟩, e3⟩, e4⟩, e5⟩ := h
  have e6 : a3 = b3 := by
    rw [ByteArray.toList_eq, ByteArray.toList_eq] at e3
    cases a3; cases b3
    simp only [ByteArray.mk.injEq]
    exact Array.toList_inj.1 e3
  subst e1 e2 e4 e5 e6
  rfl
theorem Tryz.infoP : (Tryz.prog.info? 109).map (fun i => (i.zero, i.size, i.bytes)) = some (some (.agg #[.pointer none, .pointer none]), 2, 16) := by kernel_rfl
def pcells (P : List (Nat × Nat)) : List Value := P.flatMap fun p => [.pointer (some ⟨p.1, 0, none⟩), .pointer (some ⟨p.2, 0, none⟩)]
theorem pcells_length (P : List (Nat × Nat)) : (pcells P).length = P.length * 2 := by
  induction P with
  | nil => rfl
  | cons p P ih =>
    simp only [pcells, List.flatMap_cons, List.length_append, List.length_cons, List.length_nil] at ih ⊢
    omega
theorem pcells_append (P R : List (Nat × Nat)) : pcells (P ++ R) = pcells P ++ pcells R := by simp [pcells]
theorem pcells_one (P : List (Nat × Nat)) : ∀ u ∈ pcells P, u.oneCell' = true := by
  intro u hu
  simp only [pcells, List.mem_flatMap, List.mem_cons, List.not_mem_nil, or_false] at hu
  obtain ⟨p, _, rfl | rfl⟩ := hu <;> rfl
theorem pair_cells (w : World) (x y : Nat) : ∀ j u, (pcells [(x, y)])[j]? = some u → (w.alloc (.cells #[.pointer (some ⟨x, 0, none⟩), .pointer (some ⟨y, 0, none⟩)] 109)).cell? (Addr.add ⟨w.heap.size, 0, none⟩ j) = some u := by
  intro j u hj
  have ad : Addr.add ⟨w.heap.size, 0, none⟩ j = ⟨w.heap.size, j, none⟩ := by
    unfold Addr.add
    split
    · simp_all
    · simp
  rw [ad, cell_of_row _ w.heap.size j _ 109 (0, 0) (heap_alloc_new _ _), ← hj]
  simp [pcells]
def PairRow (w : World) (s : Option Addr × Nat × Nat) (P : List (Nat × Nat)) : Prop :=
  P.length ≤ 20000 ∧ ((s = (none, 0, 0) ∧ P = []) ∨ ∃ g c, s = (some ⟨g, 0, none⟩, P.length, c) ∧ ∀ j u, (pcells P)[j]? = some u → w.cell? (Addr.add ⟨g, 0, none⟩ j) = some u)
theorem zip_map {kx ky : List Nat} {θ : Nat → DT} (h : kx.length = ky.length) : (∀ p ∈ kx.zip ky, θ p.1 = θ p.2) ↔ kx.map θ = ky.map θ := by
  induction kx generalizing ky with
  | nil =>
    cases ky with
    | nil => simp
    | cons y ky => simp at h
  | cons x kx ih =>
    cases ky with
    | nil => simp at h
    | cons y ky =>
      simp only [List.length_cons, Nat.add_right_cancel_iff] at h
      simp only [List.zip_cons_cons, List.mem_cons, forall_eq_or_imp, List.map_cons, List.cons.injEq, ih h]
theorem zip_take_succ {kx ky : List Nat} {k : Nat} (h1 : k < kx.length) (h2 : k < ky.length) : (kx.zip ky).take (k + 1) = (kx.zip ky).take k ++ [(kx[k], ky[k])] := by
  have h3 : k < (kx.zip ky).length := by simp; omega
  rw [List.take_succ_eq_append_getElem h3, List.getElem_zip]
def HRes (X : Nat → Prop) (f : Nat → CC) (lk : Nat → Option Nat) (K : (Option Addr × Nat × Nat) → List Nat) (rt : List Nat) (t : Int) (a b : Nat) (w : World) (e : Ending) (w' : World) : Prop :=
  But X w w' ∧ ((∃ s P, e = .returned (.tuple #[.slice s.1 s.2.1 s.2.2, .nilIface]) ∧ PairRow w' s P ∧ (∀ p ∈ P, X p.1 ∧ X p.2) ∧
      ∃ (f' : Nat → CC) (lk' : Nat → Option Nat) (d' : Nat → Nat) (rt' : List Nat), CSto w' X f' lk' d' K ∧ (rt'.length < rt.length ∨ (P = [] ∧ rt'.length ≤ rt.length)) ∧ (∀ i, X i → lk' i = none → i ∈ rt') ∧ Ties X t f lk f' lk' ∧ ∀ θ, (SatC X (gc K f') lk' θ ∧ ∀ p ∈ P, θ p.1 = θ p.2) ↔ (SatC X (gc K f) lk θ ∧ θ a = θ b)) ∨
    ((∃ v, e = .returned (.tuple #[.slice none 0 0, .iface 143 (.pointer (some v))])) ∧ (∃ lk' d', CSto w' X f lk' d' K ∧ SameHd lk lk') ∧ ∀ θ, SatC X (gc K f) lk θ → θ a ≠ θ b))
set_option maxRecDepth 20000 in
set_option maxHeartbeats 2000000 in
theorem equateHeads_any (X : Nat → Prop) (f : Nat → CC) (lk : Nat → Option Nat) (d : Nat → Nat) (K : (Option Addr × Nat × Nat) → List Nat) (w : World) (a b : Nat) (rt : List Nat) (hS : CSto w X f lk d K) (hroots : ∀ i, X i → lk i = none → i ∈ rt) (hXa : X a) (hXb : X b) (hla : lk a = none) (hlb : lk b = none)
    (sb : Nat) (t : Int) (hsX : ¬ X sb) (hst : w.cell? ⟨sb, 1, none⟩ = some (.int .i64 t)) :
    Calls Tryz.prog 59 #[.pointer (some ⟨sb, 0, none⟩), .pointer (some ⟨a, 0, none⟩), .pointer (some ⟨b, 0, none⟩)] w fun e w' => HRes X f lk K rt t a b w e w' := by
  have HC := hS.cells
  have HSS : Hid (CSto w X f lk d K) := hS
  have HRT : Hid (∀ i, X i → lk i = none → i ∈ rt) := hroots
  clear hS hroots
  obtain ⟨j9, hj9, hz9⟩ := u_cell
  by_cases hr : a = b
  · subst hr
    have hq := run_eql_ptr_same (w := w) ⟨a, 0, none⟩ u_cp hj9
    go_enter Tryz.func59, Tryz.ntmps59
    go_wp2
    go_ret2
    refine ⟨But.refl _ _, .inl ⟨(none, 0, 0), [], rfl, ⟨by simp, .inl ⟨rfl, rfl⟩⟩, by simp, f, lk, d, rt, HSS.out, .inr ⟨rfl, Nat.le_refl _⟩, HRT.out, Ties.refl _ _ _ _, fun θ => by simp⟩⟩
  · have hq := run_eql_ptr_other (w := w) u_cp hj9 hz9 (a := ⟨a, 0, none⟩) (b := ⟨b, 0, none⟩) (by simp) (HC.at' a hXa) (HC.at' b hXb)
    go_enter Tryz.func59, Tryz.ntmps59
    go_wp2_with fail
    have OA : Hid (∀ m, Calls Tryz.prog 92 #[.pointer (some ⟨a, 0, none⟩)] (w.drewN m) fun e w' => e = .returned (.bool (f a).open?) ∧ w' = w.drewN m) := fun m => isOpen_any (w.drewN m) a (f a) (lk a) ((HC.drewN m).at' a hXa)
    have OB : Hid (∀ m, Calls Tryz.prog 92 #[.pointer (some ⟨b, 0, none⟩)] (w.drewN m) fun e w' => e = .returned (.bool (f b).open?) ∧ w' = w.drewN m) := fun m => isOpen_any (w.drewN m) b (f b) (lk b) ((HC.drewN m).at' b hXb)
    obtain ⟨sw, hsw⟩ : ∃ sw, ((f a).open? && !((f b).open? && decide ((f a).nd.num < (f b).nd.num))) = sw := ⟨_, rfl⟩
    obtain ⟨a0, a1, a2, a3, a4, a5, a6, a7, a8, a9, a10, a11, a12, a13⟩ := (HC.at' a hXa).cell
    obtain ⟨b0, b1, b2, b3, b4, b5, b6, b7, b8, b9, b10, b11, b12, b13⟩ := (HC.at' b hXb).cell
    go_cut [33] from 14 to 32 (fun v wx => v = .bool sw ∧ ∃ m, wx = w.drewN m)
    case first =>
        cases hoa : (f a).open? with
        | false =>
          have OA9 : Hid (∀ m, Calls Tryz.prog 92 #[.pointer (some ⟨a, 0, none⟩)] (w.drewN m) fun e w' => e = .returned (.bool false) ∧ w' = w.drewN m) := by
            have h9 := OA.out
            rw [hoa] at h9
            exact h9
          rw [hoa] at hsw
          have hsw2 : sw = false := hsw.symm
          subst hsw2
          clear hsw hoa OA OB
          go_quiet ((go_at_call 92; exact Calls.quiet_of_same (OA9.out _)))
          (try go_wp2_with fail)
          go_meet
          exact ⟨rfl, _, rfl⟩
        | true =>
          have OA9 : Hid (∀ m, Calls Tryz.prog 92 #[.pointer (some ⟨a, 0, none⟩)] (w.drewN m) fun e w' => e = .returned (.bool true) ∧ w' = w.drewN m) := by
            have h9 := OA.out
            rw [hoa] at h9
            exact h9
          cases hob : (f b).open? with
          | false =>
            have OB9 : Hid (∀ m, Calls Tryz.prog 92 #[.pointer (some ⟨b, 0, none⟩)] (w.drewN m) fun e w' => e = .returned (.bool false) ∧ w' = w.drewN m) := by
              have h9 := OB.out
              rw [hob] at h9
              exact h9
            rw [hoa, hob] at hsw
            have hsw2 : sw = true := hsw.symm
            subst hsw2
            clear hsw hoa OA OB hob
            go_quiet ((first | (go_at_call_of 92 (Value.pointer (some ⟨a, 0, none⟩)); exact Calls.quiet_of_same (OA9.out _)) | (go_at_call_of 92 (Value.pointer (some ⟨b, 0, none⟩)); exact Calls.quiet_of_same (OB9.out _))))
            (try go_wp2_with fail)
            go_meet
            exact ⟨rfl, _, rfl⟩
          | true =>
            have OB9 : Hid (∀ m, Calls Tryz.prog 92 #[.pointer (some ⟨b, 0, none⟩)] (w.drewN m) fun e w' => e = .returned (.bool true) ∧ w' = w.drewN m) := by
              have h9 := OB.out
              rw [hob] at h9
              exact h9
            rw [hoa, hob] at hsw
            clear hoa OA OB hob
            cases hlt : decide ((f a).nd.num < (f b).nd.num) with
            | true =>
              rw [hlt] at hsw
              have hsw2 : sw = false := hsw.symm
              subst hsw2
              clear hsw
              go_quiet ((first | (go_at_call_of 92 (Value.pointer (some ⟨a, 0, none⟩)); exact Calls.quiet_of_same (OA9.out _)) | (go_at_call_of 92 (Value.pointer (some ⟨b, 0, none⟩)); exact Calls.quiet_of_same (OB9.out _))))
              (try go_wp2_with fail)
              go_meet
              exact ⟨rfl, _, rfl⟩
            | false =>
              rw [hlt] at hsw
              have hsw2 : sw = true := hsw.symm
              subst hsw2
              clear hsw
              go_quiet ((first | (go_at_call_of 92 (Value.pointer (some ⟨a, 0, none⟩)); exact Calls.quiet_of_same (OA9.out _)) | (go_at_call_of 92 (Value.pointer (some ⟨b, 0, none⟩)); exact Calls.quiet_of_same (OB9.out _))))
              (try go_wp2_with fail)
              go_meet
              exact ⟨rfl, _, rfl⟩
    case rest =>
        obtain ⟨rfl, m3, rfl⟩ := hcut
        clear OA OB
        go_upto_if 33 with fail
        go_cut [1, 2] from 14 to 35 (fun v1 v2 wx => ∃ x y : Nat, v1 = .pointer (some ⟨x, 0, none⟩) ∧ v2 = .pointer (some ⟨y, 0, none⟩) ∧ (x = a ∧ y = b ∨ x = b ∧ y = a) ∧ ((f y).open? = false → (f x).open? = false) ∧ ((f x).open? = true → (f y).open? = true → (f x).nd.num ≤ (f y).nd.num) ∧ wx = w.drewN m3)
        case first =>
          cases sw
          · go_wp2_with fail
            go_meet
            refine ⟨a, b, rfl, rfl, .inl ⟨rfl, rfl⟩, ?_, ?_, rfl⟩
            · intro hob
              rw [hob] at hsw
              simpa using hsw
            · intro hoa hob
              rw [hoa, hob] at hsw
              simp at hsw
              omega
          · go_wp2_with fail
            go_meet
            refine ⟨b, a, rfl, rfl, .inr ⟨rfl, rfl⟩, ?_, ?_, rfl⟩
            · intro hoa
              rw [hoa] at hsw
              cases hsw
            · intro hob hoa
              rw [hoa, hob] at hsw
              simp at hsw
              omega
        case rest =>
          obtain ⟨x, y, rfl, rfl, hxy, hop, hnum, rfl⟩ := hcut
          have HNUM : Hid ((f x).open? = true → (f y).open? = true → (f x).nd.num ≤ (f y).nd.num) := hnum
          clear hnum
          have hne : x ≠ y := by
            rcases hxy with ⟨rfl, rfl⟩ | ⟨rfl, rfl⟩
            · exact hr
            · exact fun e => hr e.symm
          have hXx : X x := by rcases hxy with ⟨rfl, rfl⟩ | ⟨rfl, rfl⟩ <;> assumption
          have hXy : X y := by rcases hxy with ⟨rfl, rfl⟩ | ⟨rfl, rfl⟩ <;> assumption
          have hlx : lk x = none := by rcases hxy with ⟨rfl, rfl⟩ | ⟨rfl, rfl⟩ <;> assumption
          have hly : lk y = none := by rcases hxy with ⟨rfl, rfl⟩ | ⟨rfl, rfl⟩ <;> assumption
          have HFIN : Hid (∀ θ, (SatC X (gc K f) lk θ ∧ θ x = θ y) ↔ (SatC X (gc K f) lk θ ∧ θ a = θ b)) := by
            intro θ
            rcases hxy with ⟨rfl, rfl⟩ | ⟨rfl, rfl⟩
            · exact Iff.rfl
            · exact ⟨fun h => ⟨h.1, h.2.symm⟩, fun h => ⟨h.1, h.2.symm⟩⟩
          have hst3 : (w.drewN m3).cell? ⟨sb, 1, none⟩ = some (.int .i64 t) := hst
          obtain ⟨w3, hw3⟩ : ∃ w3, w.drewN m3 = w3 := ⟨_, rfl⟩
          have HS3 : Hid (CSto w3 X f lk d K) := by
            show CSto w3 X f lk d K
            rw [← hw3]; exact HSS.out.short (HSS.out.cells.drewN m3) HSS.out.acyc ((But.refl X w).drewN m3)
          have HB3 : Hid (But X w w3) := by
            show But X w w3
            rw [← hw3]; exact (But.refl X w).drewN m3
          have HZ3 : Hid (w3.heap.size = w.heap.size) := by
            show w3.heap.size = w.heap.size
            rw [← hw3]; rfl
          rw [hw3] at hst3 ⊢
          clear hw3 a0 a1 a2 a3 a4 a5 a6 a7 a8 a9 a10 a11 a12 a13 b0 b1 b2 b3 b4 b5 b6 b7 b8 b9 b10 b11 b12 b13 hsw hxy HC HSS hq hr hla hlb hst
          have hC3 := HS3.out.cells
          obtain ⟨a0, a1, a2, a3, a4, a5, a6, a7, a8, a9, a10, a11, a12, a13⟩ := (hC3.at' x hXx).cell
          obtain ⟨b0, b1, b2, b3, b4, b5, b6, b7, b8, b9, b10, b11, b12, b13⟩ := (hC3.at' y hXy).cell
          have hneq := neqC (f x).nd (f y).nd
          have OY := isOpen_any w3 y (f y) (lk y) (hC3.at' y hXy)
          cases hoy : (f y).open? with
          | true =>
            rw [hoy] at OY
            go_wp2_with fail
            refine OY.mono ?_
            rintro e w4 ⟨rfl, rfl⟩
            clear OY
            have hle : (f x).lv ≤ (f y).lv := by
              have h8 := HS3.out.low x hXx
              have h9 := hoy
              simp only [CC.open?, Bool.and_eq_true, decide_eq_true_eq] at h9
              omega
            have hk61 : (f y).nd.kind = 61 := by
              have h9 := hoy
              simp only [CC.open?, Bool.and_eq_true, beq_iff_eq] at h9
              exact h9.1
            have HLT : ∀ b, X b → b < w4.heap.size := fun b hb => (hC3.at' b hb).lt
            go_wp2_with fail
            refine (lower_any X f lk d HS3.out.acyc w4 hC3 HLT x hXx hlx (f y).lv hle).mono ?_
            rintro e w5 ⟨rfl, lk5, hC5, hS5, hA5, hB5⟩
            have hst5 : w5.cell? ⟨sb, 1, none⟩ = some (.int .i64 t) := (hB5.cellB (lt_of_cell hst3) hsX).trans hst3
            have hlx5 : lk5 x = none := (root_iff lk5 x).2 ((hS5 x x).1 ((root_iff lk x).1 hlx))
            have hly5 : lk5 y = none := (root_iff lk5 y).2 ((hS5 y y).1 ((root_iff lk y).1 hly))
            have HS5 : Hid (CSto w5 X f lk5 d K) := HS3.out.short hC5 hA5 hB5
            have HR5 : Hid (∀ i, X i → lk5 i = none → i ∈ rt) := fun i hi hl => HRT.out i hi ((root_iff lk i).2 ((hS5 i i).2 ((root_iff lk5 i).1 hl)))
            have HSH : Hid (SameHd lk lk5) := hS5
            have HT5 : Hid (∀ θ, SatC X (gc K f) lk5 θ ↔ SatC X (gc K f) lk θ) := fun θ => hS5.sat HS3.out.acyc hA5 θ
            have HB5 : Hid (But X w w5) := HB3.out.trans hB5
            clear a0 a1 a2 a3 a4 a5 a6 a7 a8 a9 a10 a11 a12 a13 b0 b1 b2 b3 b4 b5 b6 b7 b8 b9 b10 b11 b12 b13 hB5 hA5 hS5 hC3 hst3 HS3 hneq HLT HRT hlx hly
            go_wp2_with fail
            refine (tie_any X f lk5 w5 hC5 sb t hsX hst5 x y hXx hXy hne hlx5 hly5).mono ?_
            rintro e w6 ⟨rfl, h, q, r, hhq, hC6, hB6, _⟩
            have hXq : X q := by rcases hhq with ⟨rfl, rfl⟩ | ⟨rfl, rfl⟩ <;> assumption
            have hXh : X h := by rcases hhq with ⟨rfl, rfl⟩ | ⟨rfl, rfl⟩ <;> assumption
            have hlq : lk5 q = none := by rcases hhq with ⟨rfl, rfl⟩ | ⟨rfl, rfl⟩ <;> assumption
            have hhq2 : h ≠ q := by
              rcases hhq with ⟨rfl, rfl⟩ | ⟨rfl, rfl⟩
              · exact hne
              · exact fun e => hne e.symm
            have ecore : (tiedF f x h q r t h).core = (f x).core := by
              rw [tiedF_head f hhq2]
              rcases hhq with ⟨rfl, rfl⟩ | ⟨rfl, rfl⟩
              · split <;> rfl
              · rw [if_pos hk61]
            obtain ⟨d6, hS6⟩ := HS5.out.tied hXx hXh hne hlx5 hly5 hhq hC6 (tiedF_rest f r t) (.inl ecore) hB6
            have HFI : Hid (∀ θ, SatC X (gc K (tiedF f x h q r t)) (tied lk5 h q) θ ↔ (SatC X (gc K f) lk θ ∧ θ a = θ b)) := by
              intro θ
              rw [← HFIN.out θ, ← HT5.out θ]
              exact sat_open (g := gc K f) (g' := gc K (tiedF f x h q r t)) hXx hXy hne hlx5 hly5 hhq (gc_core ecore) (fun i hi => gc_core (tiedF_rest f r t i hi)) hoy θ
            have HR6 : Hid (∀ i, X i → tied lk5 h q i = none → i ∈ rt.erase q) := by
              intro i hi hl
              have hiq : i ≠ q := fun e9 => by subst e9; simp [tied] at hl
              simp only [tied, hiq, if_false] at hl
              exact (List.mem_erase_of_ne hiq).2 (HR5.out i hi hl)
            have hrt6 : (rt.erase q).length < rt.length := by
              have h9 := HR5.out q hXq hlq
              have h8 := List.length_pos_of_mem h9
              rw [List.length_erase_of_mem h9]
              omega
            have HB6 : Hid (But X w w6) := HB5.out.trans hB6
            have HS6 : Hid (CSto w6 X (tiedF f x h q r t) (tied lk5 h q) d6 K) := hS6
            clear hC5 hC6 hB6 hS6 HS5 hst5
            go_wp2
            go_ret2
            refine ⟨HB6.out, .inl ⟨(none, 0, 0), [], rfl, ⟨by simp, .inl ⟨rfl, rfl⟩⟩, by simp, _, _, d6, rt.erase q, HS6.out, .inl hrt6, HR6.out, .step (.same HSH.out) hXx hXy hne hlx5 hly5 hhq (.inl ⟨hoy, fun h9 => HNUM.out h9 hoy⟩) (SameHd.refl _), fun θ => ?_⟩⟩
            rw [← HFI.out θ]
            simp
          | false =>
            have hox := hop hoy
            rw [hoy] at OY
            go_wp2_with fail
            refine OY.mono ?_
            rintro e w4 ⟨rfl, rfl⟩
            clear OY
            cases hcl : (f x).nd.eqb (f y).nd with
            | false =>
              have hnd : (f x).nd ≠ (f y).nd := fun e => by
                rw [e, Nd.eqb_refl] at hcl
                cases hcl
              have HNO : Hid (∀ θ, SatC X (gc K f) lk θ → θ a ≠ θ b) := by
                intro θ h1 h2
                obtain ⟨h3, h4⟩ := (HFIN.out θ).2 ⟨h1, h2⟩
                exact sat_clash (g := gc K f) hXx hXy hlx hly hox hoy hnd θ h3 h4
              rw [hcl] at hneq
              go_wp2_with fail
              go_quiet (fail)
              go_wp2_with fail
              go_region
              go_wp2
              go_ret2
              refine ⟨?_, .inr ⟨⟨_, rfl⟩, ⟨lk, d, ?_, SameHd.refl _⟩, HNO.out⟩⟩
              · exact (HB3.out.drewN _).trans (But.ofBelow ((Below.refl _ _).alloc (Nat.le_refl _) _))
              · exact HS3.out.still (((But.refl (fun _ => False) w4).drewN _).trans (But.ofBelow ((Below.refl _ _).alloc (Nat.le_refl _) _)))
            | true =>
              have hnd : (f x).nd = (f y).nd := eqbC_eq hcl
              have HMT : Hid (MayTie (f x) (f y)) := .inr ⟨hox, hoy, hnd⟩
              rw [hcl] at hneq
              have HS4 : Hid (∀ m, CSto (w4.drewN m) X f lk d K) := fun m => HS3.out.short (HS3.out.cells.drewN m) HS3.out.acyc ((But.refl X w4).drewN m)
              have HB4 : Hid (∀ m, But X w (w4.drewN m)) := fun m => HB3.out.drewN m
              have HST : Hid (∀ m, (w4.drewN m).cell? ⟨sb, 1, none⟩ = some (.int .i64 t)) := fun m => hst3
              clear hst3 HS3 HB3
              go_wp2_with fail
              go_quiet (fail)
              have HS3 : Hid (CSto (w4.drewN nq) X f lk d K) := HS4.out nq
              have HB3 : Hid (But X w (w4.drewN nq)) := HB4.out nq
              have hst3 : (w4.drewN nq).cell? ⟨sb, 1, none⟩ = some (.int .i64 t) := HST.out nq
              clear a0 a1 a2 a3 a4 a5 a6 a7 a8 a9 a10 a11 a12 a13 b0 b1 b2 b3 b4 b5 b6 b7 b8 b9 b10 b11 b12 b13 HS4 HB4 HST hC3 hneq HZ3
              generalize w4.drewN nq = w4 at *
              have hC3 := HS3.out.cells
              obtain ⟨a0, a1, a2, a3, a4, a5, a6, a7, a8, a9, a10, a11, a12, a13⟩ := (hC3.at' x hXx).cell
              obtain ⟨b0, b1, b2, b3, b4, b5, b6, b7, b8, b9, b10, b11, b12, b13⟩ := (hC3.at' y hXy).cell
              obtain ⟨sy, ly, cy, hky⟩ : ∃ s l c, (f y).ks = (s, l, c) := ⟨_, _, _, rfl⟩
              obtain ⟨sx, lx, cx, hkx⟩ : ∃ s l c, (f x).ks = (s, l, c) := ⟨_, _, _, rfl⟩
              have RY := HS3.out.rows y hXy
              have RX := HS3.out.rows x hXx
              have IY : Hid (∀ k ∈ K (f y).ks, X k) := HS3.out.inX y hXy
              have IX : Hid (∀ k ∈ K (f x).ks, X k) := HS3.out.inX x hXx
              have hlen : (K (f x).ks).length = (K (f y).ks).length := by
                have h1 := HS3.out.arity x hXx
                have h2 := HS3.out.arity y hXy
                rw [hnd] at h1
                omega
              obtain ⟨ky, hKy⟩ : ∃ l, K (f y).ks = l := ⟨_, rfl⟩
              obtain ⟨kx, hKx⟩ : ∃ l, K (f x).ks = l := ⟨_, rfl⟩
              rw [hKy] at RY IY hlen
              rw [hKx] at RX IX hlen
              rw [hky] at b6 RY
              rw [hkx] at a6 RX
              simp only at a6 b6
              have hLx : lx = kx.length := RX.1.1
              have hLy : ly = ky.length := RY.1.1
              have hL2 : lx ≤ 20000 := by rw [hLx]; exact RX.1.2.1
              have hLe : ly = lx := by omega
              subst hLe
              have HRX : Hid (KidRow w4 X (sx, ly, cx) kx) := RX
              have HRY : Hid (KidRow w4 X (sy, ly, cy) ky) := RY
              have HLX : Hid (kx.length = ly) := hLx.symm
              have HLY : Hid (ky.length = ly) := hLy.symm
              have HKX : Hid (K (f x).ks = kx) := hKx
              have HKY : Hid (K (f y).ks = ky) := hKy
              have HND : Hid ((f x).nd = (f y).nd) := hnd
              have hxlt : x < w4.heap.size := (hC3.at' x hXx).lt
              have hylt : y < w4.heap.size := (hC3.at' y hXy).lt
              have HB6 : Hid (w4.cell? ⟨y, 6, none⟩ = some (.slice sy ly cy)) := b6
              have HC4 : Hid (Cells w4 X f lk) := hC3
              have HST : Hid (w4.cell? ⟨sb, 1, none⟩ = some (.int .i64 t)) := hst3
              obtain ⟨i0, hi, hz0, hz1, hz2⟩ := info_parts Tryz.infoP
              have hO0 : (w4.alloc (.cells #[] 109)).ownsRow w4.heap.size 109 2 (.slice (some ⟨w4.heap.size, 0, none⟩) 0 0) 0 (pcells []) := ⟨rfl, Or.inr ⟨_, 0, #[], rfl, Nat.le_refl _, heap_alloc_new _ _, Nat.le_refl _, by simp [maxLen], rfl, rfl⟩⟩
              clear RX RY hlen hLx hLy hKx hKy hcl hop hky hkx hnd
              clear a0 a1 a2 a3 a4 a5 a7 a8 a9 a10 a11 a12 a13 b0 b1 b2 b3 b4 b5 b6 b7 b8 b9 b10 b11 b12 b13 hC3
              go_wp2_with fail
              go_loopw [8, 74] (fun v i wr => ∃ (k g c : Nat), k ≤ ly ∧ i = .int .i64 (k : Int) ∧ v = .slice (some ⟨g, 0, none⟩) k c ∧ wr.ownsRow w4.heap.size 109 2 (.slice (some ⟨g, 0, none⟩) k c) k (pcells ((kx.zip ky).take k)) ∧ Below w4.heap.size w4 wr) (fun _ i _ => ly - (intOf i).toNat)
              case atStart => exact ⟨0, w4.heap.size, 0, Nat.zero_le _, rfl, rfl, by simpa using hO0, (Below.refl _ _).alloc (Nat.le_refl _) _⟩
              case round =>
                clear hO0
                obtain ⟨k, g, c, hk, rfl, rfl, hown, hbr⟩ := hrel
                have hob := owns_block hown
                have hsz := hbr.size
                by_cases hkL : k < ly
                · have hk1 : k < kx.length := by have := HLX.out; omega
                  have hk2 : k < ky.length := by have := HLY.out; omega
                  obtain ⟨gy, cuy, hsy, hgy, hgy2, hgy3, hgy4⟩ := HRY.out.2.resolve_left (fun e9 => by rw [e9] at hk2; simp at hk2)
                  obtain ⟨gx, cux, hsx, hgx, hgx2, hgx3, hgx4⟩ := HRX.out.2.resolve_left (fun e9 => by rw [e9] at hk1; simp at hk1)
                  simp only at hsy hsx
                  subst hsy
                  subst hsx
                  have ey : wr.cell? ⟨gy, k, none⟩ = some (.pointer (some ⟨ky[k], 0, none⟩)) := by
                    rw [cell_of_row wr gy k cuy 64 (0, 0) ((hbr.block gy hgy2).trans hgy3)]
                    exact hgy4 k hk2
                  have ex : wr.cell? ⟨gx, k, none⟩ = some (.pointer (some ⟨kx[k], 0, none⟩)) := by
                    rw [cell_of_row wr gx k cux 64 (0, 0) ((hbr.block gx hgx2).trans hgx3)]
                    exact hgx4 k hk1
                  have eb : wr.cell? ⟨y, 6, none⟩ = some (.slice (some ⟨gy, 0, none⟩) ly cy) := (bcell hbr y 6 hylt).trans HB6.out
                  have HTS : Hid ((kx.zip ky).take (k + 1) = (kx.zip ky).take k ++ [(kx[k], ky[k])]) := zip_take_succ hk1 hk2
                  obtain ⟨tx, htx⟩ : ∃ t, kx[k] = t := ⟨_, rfl⟩
                  obtain ⟨ty, hty⟩ : ∃ t, ky[k] = t := ⟨_, rfl⟩
                  obtain ⟨Z, hZ⟩ : ∃ Z, (kx.zip ky).take k = Z := ⟨_, rfl⟩
                  rw [htx] at ex HTS
                  rw [hty] at ey HTS
                  rw [hZ] at hown HTS
                  have hown1 := hown.alloc (.cells #[.pointer (some ⟨tx, 0, none⟩), .pointer (some ⟨ty, 0, none⟩)] 109)
                  have hb1 := hbr.alloc hbr.size (.cells #[.pointer (some ⟨tx, 0, none⟩), .pointer (some ⟨ty, 0, none⟩)] 109)
                  have hcells := pair_cells wr tx ty
                  clear hgy3 hgy4 hgx3 hgx4 hown htx hty hZ hbr
                  go_wp2_with (at_builtin; refine wpList_append2 _ rfl (.tmp 79) (.tmp 89) 110 rfl w4.heap.size 109 i0 _ 2 16 Tryz.underlying110 hi hz0 hz1 hz2 rfl (by decide) g k c _ rfl hown1 ⟨_, 0, none⟩ 1 1 (pcells [(tx, ty)]) rfl rfl hcells (pcells_one _) ?a3 ?a4 ?a5 ?_)
                  case a3 => unfold maxLen; omega
                  case a4 => omega
                  case a5 => (try simp); omega
                  intro g2 c2 w5 hown2 hgrow2 hwh
                  have hb2 : Below w4.heap.size w4 w5 := hb1.grown hgrow2 (by (try simp); omega) (fun q hq => by cases hq; exact hob.1)
                  have hown3 : w5.ownsRow w4.heap.size 109 2 (.slice (some ⟨g2, 0, none⟩) (k + 1) c2) (k + 1) (pcells ((kx.zip ky).take (k + 1))) := by
                    rw [HTS.out, pcells_append]
                    exact hown2
                  clear hown2 hgrow2 hwh hown1 hb1 hcells ex ey eb
                  go_wp2
                  go_roundw
                  case rel => exact ⟨k + 1, g2, c2, by omega, by go_num, rfl, hown3, hb2⟩
                  case measure => simp [intOf]; omega
                · obtain rfl : k = ly := by omega
                  have HZL : Hid ((kx.zip ky).length = k) := by
                    show (kx.zip ky).length = k
                    have h1 := HLX.out
                    have h2 := HLY.out
                    simp
                    omega
                  have HOW : Hid (wr.ownsRow w4.heap.size 109 2 (.slice (some ⟨g, 0, none⟩) k c) k (pcells (kx.zip ky))) := by
                    have h9 := hown
                    rw [List.take_of_length_le (by have := HZL.out; omega)] at h9
                    exact h9
                  have hBr : But X w4 wr := But.ofBelow hbr
                  have HS5 : Hid (CSto wr X f lk d K) := HS3.out.short (HC4.out.but (But.ofBelow (S := fun _ => False) hbr) (fun _ _ h => h)) HS3.out.acyc hBr
                  have hst5 : wr.cell? ⟨sb, 1, none⟩ = some (.int .i64 t) := (bcell hbr sb 1 (lt_of_cell HST.out)).trans HST.out
                  have hgX : ¬ X g := fun h => by have := (HC4.out.at' g h).lt; omega
                  have HB5 : Hid (But X w wr) := HB3.out.trans hBr
                  clear hown hBr hbr HST HB6 HRX HRY HC4 HS3 HB3
                  go_wp2_with fail
                  refine (tie_any X f lk wr HS5.out.cells sb t hsX hst5 x y hXx hXy hne hlx hly).mono ?_
                  rintro e w6 ⟨rfl, h, q, r, hhq, hC6, hB6, _⟩
                  have hXq : X q := by rcases hhq with ⟨rfl, rfl⟩ | ⟨rfl, rfl⟩ <;> assumption
                  have hXh : X h := by rcases hhq with ⟨rfl, rfl⟩ | ⟨rfl, rfl⟩ <;> assumption
                  have hlq : lk q = none := by rcases hhq with ⟨rfl, rfl⟩ | ⟨rfl, rfl⟩ <;> assumption
                  have hhq2 : h ≠ q := by
                    rcases hhq with ⟨rfl, rfl⟩ | ⟨rfl, rfl⟩
                    · exact hne
                    · exact fun e => hne e.symm
                  have ecore : (tiedF f x h q r t h).core = (f x).core ∨ (h = y ∧ (tiedF f x h q r t h).core = (f h).core) := by
                    rw [tiedF_head f hhq2]
                    rcases hhq with ⟨rfl, rfl⟩ | ⟨rfl, rfl⟩
                    · left; split <;> rfl
                    · by_cases hk : (f h).nd.kind = 61
                      · left; rw [if_pos hk]
                      · right; exact ⟨rfl, by rw [if_neg hk]⟩
                  obtain ⟨d6, hS6⟩ := HS5.out.tied hXx hXh hne hlx hly hhq hC6 (tiedF_rest f r t) (ecore.imp id (fun h => h.2)) hB6
                  have hll : kx.length = ky.length := by have := HLX.out; have := HLY.out; omega
                  have HFI : Hid (∀ θ, (SatC X (gc K (tiedF f x h q r t)) (tied lk h q) θ ∧ ∀ p ∈ kx.zip ky, θ p.1 = θ p.2) ↔ (SatC X (gc K f) lk θ ∧ θ a = θ b)) := by
                    intro θ
                    rw [← HFIN.out θ, zip_map hll]
                    rcases ecore with ec | ⟨rfl, ec⟩
                    · have h9 := sat_both (g := gc K f) (g' := gc K (tiedF f x h q r t)) hXx hXy hne hlx hly hhq (gc_core ec) (fun i hi => gc_core (tiedF_rest f r t i hi)) hox hoy HND.out (by simp only [gc, HKX.out, HKY.out]; exact hll) θ
                      simp only [gc, HKX.out, HKY.out] at h9
                      exact h9
                    · have h9 := sat_both (g := gc K f) (g' := gc K (tiedF f x h q r t)) hXh hXx (fun e => hne e.symm) hly hlx (hhq.symm) (gc_core ec) (fun i hi => gc_core (tiedF_rest f r t i hi)) hoy hox HND.out.symm (by simp only [gc, HKX.out, HKY.out]; exact hll.symm) θ
                      simp only [gc, HKX.out, HKY.out] at h9
                      refine Iff.trans ?_ (h9.trans ?_)
                      · exact ⟨fun h => ⟨h.1, h.2.symm⟩, fun h => ⟨h.1, h.2.symm⟩⟩
                      · exact ⟨fun h => ⟨h.1, h.2.symm⟩, fun h => ⟨h.1, h.2.symm⟩⟩
                  have HR6 : Hid (∀ i, X i → tied lk h q i = none → i ∈ rt.erase q) := by
                    intro i hi hl
                    have hiq : i ≠ q := fun e9 => by subst e9; simp [tied] at hl
                    simp only [tied, hiq, if_false] at hl
                    exact (List.mem_erase_of_ne hiq).2 (HRT.out i hi hl)
                  have hrt6 : (rt.erase q).length < rt.length := by
                    have h9 := HRT.out q hXq hlq
                    have h8 := List.length_pos_of_mem h9
                    rw [List.length_erase_of_mem h9]
                    omega
                  have HB6 : Hid (But X w w6) := HB5.out.trans hB6
                  have HS6 : Hid (CSto w6 X (tiedF f x h q r t) (tied lk h q) d6 K) := hS6
                  have HPR : Hid (PairRow w6 (some ⟨g, 0, none⟩, k, c) (kx.zip ky)) := by
                    refine ⟨by have := HZL.out; omega, .inr ⟨g, c, by rw [HZL.out], fun j u hj => ?_⟩⟩
                    have h9 := (owns_but HOW.out hB6 hgX).cells (g := g) rfl j u hj
                    exact h9
                  have HPX : Hid (∀ p ∈ kx.zip ky, X p.1 ∧ X p.2) := by
                    intro p hp
                    exact ⟨IX.out _ (List.of_mem_zip hp).1, IY.out _ (List.of_mem_zip hp).2⟩
                  clear hC6 hB6 hS6 HS5 hst5 HOW
                  go_wp2
                  go_ret2
                  exact ⟨HB6.out, .inl ⟨(some ⟨g, 0, none⟩, k, c), kx.zip ky, rfl, HPR.out, HPX.out, _, _, d6, rt.erase q, HS6.out, .inl hrt6, HR6.out, .step (.same (SameHd.refl _)) hXx hXy hne hlx hly hhq HMT.out (SameHd.refl _), HFI.out⟩⟩
end Go.Proofs.YtoiiibplkhedcaaGreatDoor

namespace Go.Proofs.YtoiiibplkhedcaaGreatDoor
open Go.RowKit
theorem CSto.aside {w w' : World} {X : Nat → Prop} {f : Nat → CC} {lk : Nat → Option Nat} {d : Nat → Nat} {K : (Option Addr × Nat × Nat) → List Nat} (h : CSto w X f lk d K) {eb : Nat} (hb : But (· = eb) w w') (hX : ¬ X eb) (hk : ∀ cur, w.heap[eb]? ≠ some (.cells cur 64 (0, 0))) : CSto w' X f lk d K := by
  refine ⟨h.cells.but hb (fun b hx e => hX (e ▸ hx)), h.acyc, fun b hx => ?_, h.inX, h.arity, h.met, h.low⟩
  obtain ⟨h1, h2⟩ := h.rows b hx
  refine ⟨h1, ?_⟩
  rcases h2 with e | ⟨g, cur, h1, h2, h3, h4, h5⟩
  · exact .inl e
  · have hne : g ≠ eb := fun e => hk cur (e ▸ h4)
    exact .inr ⟨g, cur, h1, h2, Nat.lt_of_lt_of_le h3 hb.size, (hb.block g h3 hne).trans h4, h5⟩
structure Boxes (w : World) (X : Nat → Prop) (eb sx sb : Nat) (ev : Value) (t : Int) : Prop where
  e : w.heap[eb]? = some (.cells #[ev] 62 (0, 0))
  s : w.heap[sx]? = some (.cells #[.pointer (some ⟨sb, 0, none⟩)] 59 (0, 0))
  now : w.cell? ⟨sb, 1, none⟩ = some (.int .i64 t)
  eX : ¬ X eb
  sX : ¬ X sx
  bX : ¬ X sb
  es : eb ≠ sx
  eb' : eb ≠ sb
theorem Boxes.but {w w' : World} {X : Nat → Prop} {eb sx sb : Nat} {ev : Value} {t : Int} (h : Boxes w X eb sx sb ev t) (hb : But X w w') : Boxes w' X eb sx sb ev t := by
  have l1 : eb < w.heap.size := (Array.getElem?_eq_some_iff.1 h.e).1
  have l2 : sx < w.heap.size := (Array.getElem?_eq_some_iff.1 h.s).1
  exact ⟨(hb.block eb l1 h.eX).trans h.e, (hb.block sx l2 h.sX).trans h.s, (hb.cellB (lt_of_cell h.now) h.bX).trans h.now, h.eX, h.sX, h.bX, h.es, h.eb'⟩
theorem Boxes.put {w : World} {X : Nat → Prop} {eb sx sb : Nat} {ev : Value} {t : Int} (h : Boxes w X eb sx sb ev t) (v : Value) : Boxes (w.setCell ⟨eb, 0, none⟩ v) X eb sx sb v t := by
  have hb9 : But (· = eb) w (w.setCell ⟨eb, 0, none⟩ v) := (But.refl (· = eb) w).setCell (p := ⟨eb, 0, none⟩) rfl v
  have h9 := heap_setCell_same w eb 0 _ 62 v h.e
  have l2 : sx < w.heap.size := (Array.getElem?_eq_some_iff.1 h.s).1
  refine ⟨by simpa using h9, (hb9.block sx l2 (fun e => h.es e.symm)).trans h.s, (hb9.cellB (lt_of_cell h.now) (fun e => h.eb' e.symm)).trans h.now, h.eX, h.sX, h.bX, h.es, h.eb'⟩
theorem add0 (g j : Nat) : Addr.add ⟨g, 0, none⟩ j = ⟨g, j, none⟩ := by
  unfold Addr.add
  split
  · simp_all
  · simp
theorem PairRow.put {w : World} {s : Option Addr × Nat × Nat} {P : List (Nat × Nat)} (h : PairRow w s P) {eb : Nat} (he : w.cell? ⟨eb, 0, none⟩ = some .nilIface) (v : Value) : PairRow (w.setCell ⟨eb, 0, none⟩ v) s P := by
  refine ⟨h.1, ?_⟩
  rcases h.2 with h1 | ⟨g, c, h1, h2⟩
  · exact .inl h1
  · refine .inr ⟨g, c, h1, fun j u hj => ?_⟩
    have hne : g ≠ eb := by
      rintro rfl
      cases P with
      | nil => simp [pcells] at hj
      | cons p P =>
        have h9 := h2 0 (.pointer (some ⟨p.1, 0, none⟩)) (by simp [pcells])
        rw [add0, he] at h9
        cases h9
    have hb9 : But (· = eb) w (w.setCell ⟨eb, 0, none⟩ v) := (But.refl (· = eb) w).setCell (p := ⟨eb, 0, none⟩) rfl v
    have h9 := h2 j u hj
    rw [add0] at h9 ⊢
    exact (hb9.cellB (lt_of_cell h9) hne).trans h9
theorem store_err {P : Program} {w : World} {ad : Addr} {ev u : Value} (hev : ev = .nilIface ∨ ∃ t v, ev = .iface t v) (hc : w.cell? ad = some u) (hf : w.frozen? ad = false) : (store ad ev).run P w = .ok () (w.setCell ad ev) ∧ ev.cells = #[ev] := by
  rcases hev with rfl | ⟨t, v, rfl⟩
  · exact ⟨by simp [go_sem, hc, hf], rfl⟩
  · exact ⟨by simp [go_sem, hc, hf], rfl⟩
def CRes (X : Nat → Prop) (f : Nat → CC) (lk : Nat → Option Nat) (K : (Option Addr × Nat × Nat) → List Nat) (rt : List Nat) (eb sx sb : Nat) (t : Int) (a b : Nat) (w : World) (e : Ending) (w' : World) : Prop :=
  But (fun i => X i ∨ i = eb) w w' ∧ ((∃ s P, e = .returned (.slice s.1 s.2.1 s.2.2) ∧ PairRow w' s P ∧ (∀ p ∈ P, X p.1 ∧ X p.2) ∧ Boxes w' X eb sx sb .nilIface t ∧
      ∃ (f' : Nat → CC) (lk' : Nat → Option Nat) (d' : Nat → Nat) (rt' : List Nat), CSto w' X f' lk' d' K ∧ (rt'.length < rt.length ∨ (P = [] ∧ rt'.length ≤ rt.length)) ∧ (∀ i, X i → lk' i = none → i ∈ rt') ∧ Ties X t f lk f' lk' ∧ ∀ θ, (SatC X (gc K f') lk' θ ∧ ∀ p ∈ P, θ p.1 = θ p.2) ↔ (SatC X (gc K f) lk θ ∧ θ a = θ b)) ∨
    ((∃ v, e = .returned (.slice none 0 0) ∧ Boxes w' X eb sx sb (.iface 143 (.pointer (some v))) t) ∧ (∃ f' lk' d', CSto w' X f' lk' d' K ∧ Ties X t f lk f' lk') ∧ ∀ θ, SatC X (gc K f) lk θ → θ a ≠ θ b))
def CEnd (X : Nat → Prop) (f : Nat → CC) (lk : Nat → Option Nat) (K : (Option Addr × Nat × Nat) → List Nat) (rt : List Nat) (eb sx sb : Nat) (t : Int) (a b : Nat) (w : World) (s : Option Addr × Nat × Nat) (ev : Value) (w' : World) : Prop :=
  Boxes w' X eb sx sb .nilIface t ∧ But X w w' ∧ ((∃ P, ev = .nilIface ∧ PairRow w' s P ∧ (∀ p ∈ P, X p.1 ∧ X p.2) ∧
      ∃ (f' : Nat → CC) (lk' : Nat → Option Nat) (d' : Nat → Nat) (rt' : List Nat), CSto w' X f' lk' d' K ∧ (rt'.length < rt.length ∨ (P = [] ∧ rt'.length ≤ rt.length)) ∧ (∀ i, X i → lk' i = none → i ∈ rt') ∧ Ties X t f lk f' lk' ∧ ∀ θ, (SatC X (gc K f') lk' θ ∧ ∀ p ∈ P, θ p.1 = θ p.2) ↔ (SatC X (gc K f) lk θ ∧ θ a = θ b)) ∨
    (s = (none, 0, 0) ∧ (∃ v, ev = .iface 143 (.pointer (some v))) ∧ (∃ f' lk' d', CSto w' X f' lk' d' K ∧ Ties X t f lk f' lk') ∧ ∀ θ, SatC X (gc K f) lk θ → θ a ≠ θ b))
set_option maxRecDepth 20000 in
set_option maxHeartbeats 2000000 in
theorem equate1_any (X : Nat → Prop) (f : Nat → CC) (lk : Nat → Option Nat) (d : Nat → Nat) (K : (Option Addr × Nat × Nat) → List Nat) (w : World) (a b : Nat) (rt : List Nat) (hS : CSto w X f lk d K) (hroots : ∀ i, X i → lk i = none → i ∈ rt) (hXa : X a) (hXb : X b)
    (eb sx sb : Nat) (t : Int) (hBx : Boxes w X eb sx sb .nilIface t) :
    Calls Tryz.prog 58 #[.agg #[.pointer (some ⟨a, 0, none⟩), .pointer (some ⟨b, 0, none⟩)], .pointer (some ⟨eb, 0, none⟩), .pointer (some ⟨sx, 0, none⟩)] w fun e w' => CRes X f lk K rt eb sx sb t a b w e w' := by
  obtain ⟨ra, hra⟩ := hS.acyc.head _ a (Nat.lt_succ_self _)
  obtain ⟨rb, hrb⟩ := hS.acyc.head _ b (Nat.lt_succ_self _)
  have hXra : X ra := hra.inX hS.cells hXa
  have hXrb : X rb := hrb.inX hS.cells hXb
  have hb0 : Below w.heap.size w (w.alloc (.cells #[.pointer (some ⟨a, 0, none⟩), .pointer (some ⟨b, 0, none⟩)] 109)) := (Below.refl _ w).alloc (Nat.le_refl _) _
  have hB0 : But (fun _ => False) w (w.alloc (.cells #[.pointer (some ⟨a, 0, none⟩), .pointer (some ⟨b, 0, none⟩)] 109)) := But.ofBelow hb0
  have hK0 : (w.alloc (.cells #[.pointer (some ⟨a, 0, none⟩), .pointer (some ⟨b, 0, none⟩)] 109)).heap[w.heap.size]? = some (.cells #[.pointer (some ⟨a, 0, none⟩), .pointer (some ⟨b, 0, none⟩)] 109 (0, 0)) := heap_alloc_new _ _
  have hlX : ∀ i, X i → i < w.heap.size := fun i hi => (hS.cells.at' i hi).lt
  have hit : ¬ X w.heap.size := fun h => Nat.lt_irrefl _ (hlX _ h)
  have le : eb < w.heap.size := (Array.getElem?_eq_some_iff.1 hBx.e).1
  have hne : w.heap.size ≠ eb := by omega
  have hBxA := hBx.but (hB0.mono (T := X) (fun _ h => h.elim))
  have HSA : Hid (CSto (w.alloc (.cells #[.pointer (some ⟨a, 0, none⟩), .pointer (some ⟨b, 0, none⟩)] 109)) X f lk d K) := hS.short (hS.cells.but hB0 (fun _ _ h => h)) hS.acyc (hB0.mono (fun _ h => h.elim))
  have HBA : Hid (But X w (w.alloc (.cells #[.pointer (some ⟨a, 0, none⟩), .pointer (some ⟨b, 0, none⟩)] 109))) := hB0.mono (fun _ h => h.elim)
  have HRT : Hid (∀ i, X i → lk i = none → i ∈ rt) := hroots
  have qe : w.cell? ⟨eb, 0, none⟩ = some .nilIface := by rw [cell_of_row _ _ _ _ 62 (0, 0) hBx.e]; rfl
  clear hS hroots hBx hb0 hB0
  go_enter Tryz.func58, Tryz.ntmps58
  go_wp2_with fail
  obtain ⟨wi, hwi⟩ : ∃ i, w.heap.size = i := ⟨_, rfl⟩
  rw [hwi] at hK0 hit hne le
  (try rw [hwi])
  generalize w.alloc (.cells #[.pointer (some ⟨a, 0, none⟩), .pointer (some ⟨b, 0, none⟩)] 109) = wA at *
  have HC := HSA.out.cells
  have HA : Hid (Acyc lk d) := HSA.out.acyc
  have i0 : wA.cell? ⟨wi, 0, none⟩ = some (.pointer (some ⟨a, 0, none⟩)) := by rw [cell_of_row _ _ _ _ 109 (0, 0) hK0]; rfl
  have i1 : wA.cell? ⟨wi, 1, none⟩ = some (.pointer (some ⟨b, 0, none⟩)) := by rw [cell_of_row _ _ _ _ 109 (0, 0) hK0]; rfl
  have s0 : wA.cell? ⟨sx, 0, none⟩ = some (.pointer (some ⟨sb, 0, none⟩)) := by rw [cell_of_row _ _ _ _ 59 (0, 0) hBxA.s]; rfl
  have HL : Hid (∀ W, But X wA.drew W → W.cell? ⟨wi, 0, none⟩ = some (.pointer (some ⟨a, 0, none⟩)) ∧ W.cell? ⟨wi, 1, none⟩ = some (.pointer (some ⟨b, 0, none⟩)) ∧ W.cell? ⟨sx, 0, none⟩ = some (.pointer (some ⟨sb, 0, none⟩))) := by
    intro W hW
    have hW := hW.undrew
    exact ⟨(hW.cellB (lt_of_cell i0) hit).trans i0, (hW.cellB (lt_of_cell i1) hit).trans i1, (hW.cellB (lt_of_cell s0) hBxA.sX).trans s0⟩
  have HL2 : Hid (∀ W, But X wA W → W.cell? ⟨wi, 0, none⟩ = some (.pointer (some ⟨a, 0, none⟩)) ∧ W.cell? ⟨wi, 1, none⟩ = some (.pointer (some ⟨b, 0, none⟩)) ∧ W.cell? ⟨sx, 0, none⟩ = some (.pointer (some ⟨sb, 0, none⟩))) := by
    intro W hW
    exact ⟨(hW.cellB (lt_of_cell i0) hit).trans i0, (hW.cellB (lt_of_cell i1) hit).trans i1, (hW.cellB (lt_of_cell s0) hBxA.sX).trans s0⟩
  have HL3 : Hid (∀ (W : World) (v : Value), (W.cell? ⟨wi, 0, none⟩ = some (.pointer (some ⟨a, 0, none⟩)) ∧ W.cell? ⟨wi, 1, none⟩ = some (.pointer (some ⟨b, 0, none⟩)) ∧ W.cell? ⟨sx, 0, none⟩ = some (.pointer (some ⟨sb, 0, none⟩))) → (W.setCell ⟨eb, 0, none⟩ v).cell? ⟨wi, 0, none⟩ = some (.pointer (some ⟨a, 0, none⟩)) ∧ (W.setCell ⟨eb, 0, none⟩ v).cell? ⟨wi, 1, none⟩ = some (.pointer (some ⟨b, 0, none⟩)) ∧ (W.setCell ⟨eb, 0, none⟩ v).cell? ⟨sx, 0, none⟩ = some (.pointer (some ⟨sb, 0, none⟩))) := by
    rintro W v ⟨h1, h2, h3⟩
    have hb9 : But (· = eb) W (W.setCell ⟨eb, 0, none⟩ v) := (But.refl (· = eb) W).setCell (p := ⟨eb, 0, none⟩) rfl v
    exact ⟨(hb9.cellB (lt_of_cell h1) hne).trans h1, (hb9.cellB (lt_of_cell h2) hne).trans h2, (hb9.cellB (lt_of_cell h3) (fun e => hBxA.es e.symm)).trans h3⟩
  have HEQ : Hid (∀ lk2 w2, Cells w2 X f lk2 → SameHd lk lk2 → Acyc lk2 d → But X wA.drew w2 → Calls Tryz.prog 59 #[.pointer (some ⟨sb, 0, none⟩), .pointer (some ⟨ra, 0, none⟩), .pointer (some ⟨rb, 0, none⟩)] w2 fun e w' =>
      (w'.cell? ⟨eb, 0, none⟩ = some .nilIface ∧ w'.frozen? ⟨eb, 0, none⟩ = false) ∧ ∃ s1 s2 s3 ev, e = .returned (.tuple #[.slice s1 s2 s3, ev]) ∧ (ev = .nilIface ∨ ∃ tt v, ev = .iface tt v) ∧ CEnd X f lk K rt eb sx sb t a b wA (s1, s2, s3) ev w') := by
    intro lk2 w2 hC2 hS2 hA2 hB2
    have hBd := hB2.undrew
    have hS9 : CSto w2 X f lk2 d K := HSA.out.short hC2 hA2 hBd
    have hBx2 := hBxA.but hBd
    have hl1 : lk2 ra = none := (root_iff lk2 ra).2 ((hS2 ra ra).1 ((root_iff lk ra).1 hra.is_root))
    have hl2 : lk2 rb = none := (root_iff lk2 rb).2 ((hS2 rb rb).1 ((root_iff lk rb).1 hrb.is_root))
    have hsat : ∀ θ, SatC X (gc K f) lk2 θ ↔ SatC X (gc K f) lk θ := fun θ => hS2.sat HSA.out.acyc hA2 θ
    have hab : ∀ θ, (SatC X (gc K f) lk2 θ ∧ θ ra = θ rb) ↔ (SatC X (gc K f) lk θ ∧ θ a = θ b) := by
      intro θ
      rw [hsat θ]
      constructor
      · rintro ⟨h1, h2⟩
        exact ⟨h1, by rw [hra.sat h1, hrb.sat h1]; exact h2⟩
      · rintro ⟨h1, h2⟩
        rw [hra.sat h1, hrb.sat h1] at h2
        exact ⟨h1, h2⟩
    refine (equateHeads_any X f lk2 d K w2 ra rb rt hS9 (fun i hi hl => HRT.out i hi ((root_iff lk i).2 ((hS2 i i).2 ((root_iff lk2 i).1 hl)))) hXra hXrb hl1 hl2 sb t hBxA.bX hBx2.now).mono ?_
    rintro e w' ⟨hB', hres⟩
    have hBx3 := hBx2.but hB'
    refine ⟨⟨?_, frozen_of_row _ _ _ _ 62 hBx3.e⟩, ?_⟩
    · rw [cell_of_row _ _ _ _ 62 (0, 0) hBx3.e]; rfl
    · rcases hres with ⟨⟨s1, s2, s3⟩, P, he, hp, hpx, f', lk', d', rt', h1, h2, h3, h5, h4⟩ | ⟨⟨v, he⟩, ⟨lk', d', h1, h5⟩, hno⟩
      · exact ⟨s1, s2, s3, .nilIface, he, .inl rfl, hBx3, hBd.trans hB', .inl ⟨P, rfl, hp, hpx, f', lk', d', rt', h1, h2, h3, (Ties.same hS2).trans h5, fun θ => (h4 θ).trans (hab θ)⟩⟩
      · refine ⟨none, 0, 0, .iface _ (.pointer (some v)), he, .inr ⟨_, _, rfl⟩, hBx3, hBd.trans hB', .inr ⟨rfl, ⟨v, rfl⟩, ⟨f, lk', d', h1, .same (hS2.trans h5)⟩, fun θ h1 h2 => ?_⟩⟩
        obtain ⟨h3, h4⟩ := (hab θ).2 ⟨h1, h2⟩
        exact hno θ h3 h4
  go_region_held3 (fun w' => w'.cell? ⟨wi, 0, none⟩ = some (.pointer (some ⟨a, 0, none⟩)) ∧ w'.cell? ⟨wi, 1, none⟩ = some (.pointer (some ⟨b, 0, none⟩)) ∧ w'.cell? ⟨sx, 0, none⟩ = some (.pointer (some ⟨sb, 0, none⟩)))
    (first | exact ⟨i0, i1, s0⟩ | exact q1 | exact q2 | exact q3 | exact HL3.out w3 ev q3 | go_keep)
    (first
    | (go_at_call_of 60 (Value.pointer (some ⟨a, 0, none⟩)); refine (head_any X f lk d HA wA.drew HC.drew a ra hXa hra).mono ?_; rintro e w1 ⟨rfl, lk1, hC1, hS1, hA1, hB1, hz1⟩; have HA1 : Hid (Acyc lk1 d) := hA1; have hrb1 := (hS1 b rb).1 hrb; have q1 := HL.out w1 hB1)
    | (go_at_call_of 60 (Value.pointer (some ⟨b, 0, none⟩)); refine (head_any X f lk1 d HA1 w1 hC1 b rb hXb hrb1).mono ?_; rintro e w2 ⟨rfl, lk2, hC2, hS2, hA2, hB2, hz2⟩; have q2 := HL.out w2 (hB1.trans hB2))
    | (go_at_call 59; refine (HEQ.out lk2 w2 hC2 (hS1.trans hS2) hA2 (hB1.trans hB2)).mono ?_; rintro e w3 ⟨⟨e3, f3⟩, s1, s2, s3, ev, rfl, hev, hend⟩; have q3 := HL2.out w3 hend.2.1; obtain ⟨hst3, hcl3⟩ := store_err (P := Tryz.prog) hev e3 f3; simp only [Value.cells] at hcl3))
  have HB9 : Hid (But (fun i => X i ∨ i = eb) w (w3.setCell ⟨eb, 0, none⟩ ev)) := ((HBA.out.trans hend.2.1).mono (fun _ h => .inl h)).setCell (p := ⟨eb, 0, none⟩) (.inr rfl) ev
  have HE : Hid (CEnd X f lk K rt eb sx sb t a b wA (s1, s2, s3) ev w3) := hend
  clear hC1 hC2 hB1 hB2 hS1 hS2 hA1 hA2 HA1 HEQ HL HL2 HL3 HC HA HSA HBA hend hBxA
  go_wp2
  go_ret
  obtain ⟨hBx3, hB3, hres⟩ := HE.out
  refine ⟨HB9.out, ?_⟩
  rcases hres with ⟨P, rfl, hp, hpx, f', lk', d', rt', h1, h2, h3, h5, h4⟩ | ⟨hs, ⟨v, rfl⟩, ⟨f', lk', d', h1, h5⟩, hno⟩
  · refine .inl ⟨(s1, s2, s3), P, rfl, hp.put e3 _, hpx, hBx3.put _, f', lk', d', rt', ?_, h2, h3, h5, h4⟩
    refine h1.aside ((But.refl (· = eb) w3).setCell (p := ⟨eb, 0, none⟩) rfl _) hBx3.eX (fun cur h => ?_)
    rw [hBx3.e] at h
    simp at h
  · simp only [Prod.mk.injEq] at hs
    obtain ⟨rfl, rfl, rfl⟩ := hs
    refine .inr ⟨⟨v, rfl, hBx3.put _⟩, ⟨f', lk', d', ?_, h5⟩, hno⟩
    refine h1.aside ((But.refl (· = eb) w3).setCell (p := ⟨eb, 0, none⟩) rfl _) hBx3.eX (fun cur h => ?_)
    rw [hBx3.e] at h
    simp at h
end Go.Proofs.YtoiiibplkhedcaaGreatDoor

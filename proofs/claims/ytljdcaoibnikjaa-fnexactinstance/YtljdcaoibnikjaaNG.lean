import Derived.Test.YtljdcaoibnikjaaNF
import Derived.Deep.RegionHeld3
import Derived.Deep.RegionWith
namespace Go.Proofs.Ytljdcaoibnikjaa

open Go.RowKit

/-- A store into a block that is neither a cell nor a row of kids. -/
theorem CSto.aside {w w' : World} {X : Nat → Prop} {f : Nat → CC} {lk : Nat → Option Nat} {d : Nat → Nat} {K : (Option Addr × Nat × Nat) → List Nat} (h : CSto w X f lk d K) {eb : Nat} (hb : But (· = eb) w w') (hX : ¬ X eb) (hk : ∀ cur, w.heap[eb]? ≠ some (.cells cur 60 (0, 0))) : CSto w' X f lk d K := by
  refine ⟨h.cells.but hb (fun b hx e => hX (e ▸ hx)), h.acyc, fun b hx => ?_, h.inX, h.arity, h.met, h.low⟩
  obtain ⟨h1, h2⟩ := h.rows b hx
  refine ⟨h1, ?_⟩
  rcases h2 with e | ⟨g, cur, h1, h2, h3, h4, h5⟩
  · exact .inl e
  · have hne : g ≠ eb := fun e => hk cur (e ▸ h4)
    exact .inr ⟨g, cur, h1, h2, Nat.lt_of_lt_of_le h3 hb.size, (hb.block g h3 hne).trans h4, h5⟩

/-- The boxes of equate's closure: the fault so far, the store. -/
structure Boxes (w : World) (X : Nat → Prop) (eb sx sb : Nat) (ev : Value) (t : Int) : Prop where
  e : w.heap[eb]? = some (.cells #[ev] 58 (0, 0))
  s : w.heap[sx]? = some (.cells #[.pointer (some ⟨sb, 0, none⟩)] 55 (0, 0))
  now : w.cell? ⟨sb, 1, none⟩ = some (.int .i64 t)
  eX : ¬ X eb
  sX : ¬ X sx
  bX : ¬ X sb
  es : eb ≠ sx
  eb' : eb ≠ sb

theorem Boxes.but {w w' : World} {X : Nat → Prop} {eb sx sb : Nat} {ev : Value} {t : Int} (h : Boxes w X eb sx sb ev t) (hb : But X w w') : Boxes w' X eb sx sb ev t := by
  have l1 : eb < w.heap.size := (Array.getElem?_eq_some_iff.1 h.e).1
  have l2 : sx < w.heap.size := (Array.getElem?_eq_some_iff.1 h.s).1
  exact ⟨(hb.block eb l1 h.eX).trans h.e, (hb.block sx l2 h.sX).trans h.s, (hb.cellB (lt_of_cell h.now) h.bX).trans h.now, h.eX, h.sX, h.bX, h.es, h.eb'⟩

/-- The fault is stored. -/
theorem Boxes.put {w : World} {X : Nat → Prop} {eb sx sb : Nat} {ev : Value} {t : Int} (h : Boxes w X eb sx sb ev t) (v : Value) : Boxes (w.setCell ⟨eb, 0, none⟩ v) X eb sx sb v t := by
  have hb9 : But (· = eb) w (w.setCell ⟨eb, 0, none⟩ v) := (But.refl (· = eb) w).setCell (p := ⟨eb, 0, none⟩) rfl v
  have h9 := heap_setCell_same w eb 0 _ 58 v h.e
  have l2 : sx < w.heap.size := (Array.getElem?_eq_some_iff.1 h.s).1
  refine ⟨by simpa using h9, (hb9.block sx l2 (fun e => h.es e.symm)).trans h.s, (hb9.cellB (lt_of_cell h.now) (fun e => h.eb' e.symm)).trans h.now, h.eX, h.sX, h.bX, h.es, h.eb'⟩

theorem add0 (g j : Nat) : Addr.add ⟨g, 0, none⟩ j = ⟨g, j, none⟩ := by
  unfold Addr.add
  split
  · simp_all
  · simp

theorem PairRow.put {w : World} {s : Option Addr × Nat × Nat} {P : List (Nat × Nat)} (h : PairRow w s P) {eb : Nat} (he : w.cell? ⟨eb, 0, none⟩ = some .nilIface) (v : Value) : PairRow (w.setCell ⟨eb, 0, none⟩ v) s P := by
  refine ⟨h.1, ?_⟩
  rcases h.2 with h1 | ⟨g, c, h1, h2⟩
  · exact .inl h1
  · refine .inr ⟨g, c, h1, fun j u hj => ?_⟩
    have hne : g ≠ eb := by
      rintro rfl
      cases P with
      | nil => simp [pcells] at hj
      | cons p P =>
        have h9 := h2 0 (.pointer (some ⟨p.1, 0, none⟩)) (by simp [pcells])
        rw [add0, he] at h9
        cases h9
    have hb9 : But (· = eb) w (w.setCell ⟨eb, 0, none⟩ v) := (But.refl (· = eb) w).setCell (p := ⟨eb, 0, none⟩) rfl v
    have h9 := h2 j u hj
    rw [add0] at h9 ⊢
    exact (hb9.cellB (lt_of_cell h9) hne).trans h9

/-- An error's value is stored. -/
theorem store_err {P : Program} {w : World} {ad : Addr} {ev u : Value} (hev : ev = .nilIface ∨ ∃ t v, ev = .iface t v) (hc : w.cell? ad = some u) (hf : w.frozen? ad = false) : (store ad ev).run P w = .ok () (w.setCell ad ev) ∧ ev.cells = #[ev] := by
  rcases hev with rfl | ⟨t, v, rfl⟩
  · exact ⟨by simp [go_sem, hc, hf], rfl⟩
  · exact ⟨by simp [go_sem, hc, hf], rfl⟩

/-- What equate's closure leaves. -/
def CRes (X : Nat → Prop) (f : Nat → CC) (lk : Nat → Option Nat) (K : (Option Addr × Nat × Nat) → List Nat) (rt : List Nat) (eb sx sb : Nat) (t : Int) (a b : Nat) (w : World) (e : Ending) (w' : World) : Prop :=
  But (fun i => X i ∨ i = eb) w w' ∧ ((∃ s P, e = .returned (.slice s.1 s.2.1 s.2.2) ∧ PairRow w' s P ∧ (∀ p ∈ P, X p.1 ∧ X p.2) ∧ Boxes w' X eb sx sb .nilIface t ∧
      ∃ (f' : Nat → CC) (lk' : Nat → Option Nat) (d' : Nat → Nat) (rt' : List Nat), CSto w' X f' lk' d' K ∧ (rt'.length < rt.length ∨ (P = [] ∧ rt'.length ≤ rt.length)) ∧ (∀ i, X i → lk' i = none → i ∈ rt') ∧ Ties X t f lk f' lk' ∧ ∀ θ, (SatC X (gc K f') lk' θ ∧ ∀ p ∈ P, θ p.1 = θ p.2) ↔ (SatC X (gc K f) lk θ ∧ θ a = θ b)) ∨
    ((∃ v, e = .returned (.slice none 0 0) ∧ Boxes w' X eb sx sb (.iface 111 (.pointer (some v))) t) ∧ (∃ f' lk' d', CSto w' X f' lk' d' K ∧ Ties X t f lk f' lk') ∧ ∀ θ, SatC X (gc K f) lk θ → θ a ≠ θ b))

/-- What equateHeads leaves, within the closure. -/
def CEnd (X : Nat → Prop) (f : Nat → CC) (lk : Nat → Option Nat) (K : (Option Addr × Nat × Nat) → List Nat) (rt : List Nat) (eb sx sb : Nat) (t : Int) (a b : Nat) (w : World) (s : Option Addr × Nat × Nat) (ev : Value) (w' : World) : Prop :=
  Boxes w' X eb sx sb .nilIface t ∧ But X w w' ∧ ((∃ P, ev = .nilIface ∧ PairRow w' s P ∧ (∀ p ∈ P, X p.1 ∧ X p.2) ∧
      ∃ (f' : Nat → CC) (lk' : Nat → Option Nat) (d' : Nat → Nat) (rt' : List Nat), CSto w' X f' lk' d' K ∧ (rt'.length < rt.length ∨ (P = [] ∧ rt'.length ≤ rt.length)) ∧ (∀ i, X i → lk' i = none → i ∈ rt') ∧ Ties X t f lk f' lk' ∧ ∀ θ, (SatC X (gc K f') lk' θ ∧ ∀ p ∈ P, θ p.1 = θ p.2) ↔ (SatC X (gc K f) lk θ ∧ θ a = θ b)) ∨
    (s = (none, 0, 0) ∧ (∃ v, ev = .iface 111 (.pointer (some v))) ∧ (∃ f' lk' d', CSto w' X f' lk' d' K ∧ Ties X t f lk f' lk') ∧ ∀ θ, SatC X (gc K f) lk θ → θ a ≠ θ b))

set_option maxRecDepth 20000 in
set_option maxHeartbeats 2000000 in
theorem equate1_any (X : Nat → Prop) (f : Nat → CC) (lk : Nat → Option Nat) (d : Nat → Nat) (K : (Option Addr × Nat × Nat) → List Nat) (w : World) (a b : Nat) (rt : List Nat) (hS : CSto w X f lk d K) (hroots : ∀ i, X i → lk i = none → i ∈ rt) (hXa : X a) (hXb : X b)
    (eb sx sb : Nat) (t : Int) (hBx : Boxes w X eb sx sb .nilIface t) :
    Calls Try.prog 52 #[.agg #[.pointer (some ⟨a, 0, none⟩), .pointer (some ⟨b, 0, none⟩)], .pointer (some ⟨eb, 0, none⟩), .pointer (some ⟨sx, 0, none⟩)] w fun e w' => CRes X f lk K rt eb sx sb t a b w e w' := by
  obtain ⟨ra, hra⟩ := hS.acyc.head _ a (Nat.lt_succ_self _)
  obtain ⟨rb, hrb⟩ := hS.acyc.head _ b (Nat.lt_succ_self _)
  have hXra : X ra := hra.inX hS.cells hXa
  have hXrb : X rb := hrb.inX hS.cells hXb
  have hb0 : Below w.heap.size w (w.alloc (.cells #[.pointer (some ⟨a, 0, none⟩), .pointer (some ⟨b, 0, none⟩)] 82)) := (Below.refl _ w).alloc (Nat.le_refl _) _
  have hB0 : But (fun _ => False) w (w.alloc (.cells #[.pointer (some ⟨a, 0, none⟩), .pointer (some ⟨b, 0, none⟩)] 82)) := But.ofBelow hb0
  have hK0 : (w.alloc (.cells #[.pointer (some ⟨a, 0, none⟩), .pointer (some ⟨b, 0, none⟩)] 82)).heap[w.heap.size]? = some (.cells #[.pointer (some ⟨a, 0, none⟩), .pointer (some ⟨b, 0, none⟩)] 82 (0, 0)) := heap_alloc_new _ _
  have hlX : ∀ i, X i → i < w.heap.size := fun i hi => (hS.cells.at' i hi).lt
  have hit : ¬ X w.heap.size := fun h => Nat.lt_irrefl _ (hlX _ h)
  have le : eb < w.heap.size := (Array.getElem?_eq_some_iff.1 hBx.e).1
  have hne : w.heap.size ≠ eb := by omega
  have hBxA := hBx.but (hB0.mono (T := X) (fun _ h => h.elim))
  have HSA : Hid (CSto (w.alloc (.cells #[.pointer (some ⟨a, 0, none⟩), .pointer (some ⟨b, 0, none⟩)] 82)) X f lk d K) := hS.short (hS.cells.but hB0 (fun _ _ h => h)) hS.acyc (hB0.mono (fun _ h => h.elim))
  have HBA : Hid (But X w (w.alloc (.cells #[.pointer (some ⟨a, 0, none⟩), .pointer (some ⟨b, 0, none⟩)] 82))) := hB0.mono (fun _ h => h.elim)
  have HRT : Hid (∀ i, X i → lk i = none → i ∈ rt) := hroots
  have qe : w.cell? ⟨eb, 0, none⟩ = some .nilIface := by rw [cell_of_row _ _ _ _ 58 (0, 0) hBx.e]; rfl
  clear hS hroots hBx hb0 hB0
  go_enter Try.func52, Try.ntmps52
  go_wp2_with fail
  obtain ⟨wi, hwi⟩ : ∃ i, w.heap.size = i := ⟨_, rfl⟩
  rw [hwi] at hK0 hit hne le
  (try rw [hwi])
  generalize w.alloc (.cells #[.pointer (some ⟨a, 0, none⟩), .pointer (some ⟨b, 0, none⟩)] 82) = wA at *
  have HC := HSA.out.cells
  have HA : Hid (Acyc lk d) := HSA.out.acyc
  have i0 : wA.cell? ⟨wi, 0, none⟩ = some (.pointer (some ⟨a, 0, none⟩)) := by rw [cell_of_row _ _ _ _ 82 (0, 0) hK0]; rfl
  have i1 : wA.cell? ⟨wi, 1, none⟩ = some (.pointer (some ⟨b, 0, none⟩)) := by rw [cell_of_row _ _ _ _ 82 (0, 0) hK0]; rfl
  have s0 : wA.cell? ⟨sx, 0, none⟩ = some (.pointer (some ⟨sb, 0, none⟩)) := by rw [cell_of_row _ _ _ _ 55 (0, 0) hBxA.s]; rfl
  have HL : Hid (∀ W, But X wA.drew W → W.cell? ⟨wi, 0, none⟩ = some (.pointer (some ⟨a, 0, none⟩)) ∧ W.cell? ⟨wi, 1, none⟩ = some (.pointer (some ⟨b, 0, none⟩)) ∧ W.cell? ⟨sx, 0, none⟩ = some (.pointer (some ⟨sb, 0, none⟩))) := by
    intro W hW
    have hW := hW.undrew
    exact ⟨(hW.cellB (lt_of_cell i0) hit).trans i0, (hW.cellB (lt_of_cell i1) hit).trans i1, (hW.cellB (lt_of_cell s0) hBxA.sX).trans s0⟩
  have HL2 : Hid (∀ W, But X wA W → W.cell? ⟨wi, 0, none⟩ = some (.pointer (some ⟨a, 0, none⟩)) ∧ W.cell? ⟨wi, 1, none⟩ = some (.pointer (some ⟨b, 0, none⟩)) ∧ W.cell? ⟨sx, 0, none⟩ = some (.pointer (some ⟨sb, 0, none⟩))) := by
    intro W hW
    exact ⟨(hW.cellB (lt_of_cell i0) hit).trans i0, (hW.cellB (lt_of_cell i1) hit).trans i1, (hW.cellB (lt_of_cell s0) hBxA.sX).trans s0⟩
  have HL3 : Hid (∀ (W : World) (v : Value), (W.cell? ⟨wi, 0, none⟩ = some (.pointer (some ⟨a, 0, none⟩)) ∧ W.cell? ⟨wi, 1, none⟩ = some (.pointer (some ⟨b, 0, none⟩)) ∧ W.cell? ⟨sx, 0, none⟩ = some (.pointer (some ⟨sb, 0, none⟩))) → (W.setCell ⟨eb, 0, none⟩ v).cell? ⟨wi, 0, none⟩ = some (.pointer (some ⟨a, 0, none⟩)) ∧ (W.setCell ⟨eb, 0, none⟩ v).cell? ⟨wi, 1, none⟩ = some (.pointer (some ⟨b, 0, none⟩)) ∧ (W.setCell ⟨eb, 0, none⟩ v).cell? ⟨sx, 0, none⟩ = some (.pointer (some ⟨sb, 0, none⟩))) := by
    rintro W v ⟨h1, h2, h3⟩
    have hb9 : But (· = eb) W (W.setCell ⟨eb, 0, none⟩ v) := (But.refl (· = eb) W).setCell (p := ⟨eb, 0, none⟩) rfl v
    exact ⟨(hb9.cellB (lt_of_cell h1) hne).trans h1, (hb9.cellB (lt_of_cell h2) hne).trans h2, (hb9.cellB (lt_of_cell h3) (fun e => hBxA.es e.symm)).trans h3⟩
  have HEQ : Hid (∀ lk2 w2, Cells w2 X f lk2 → SameHd lk lk2 → Acyc lk2 d → But X wA.drew w2 → Calls Try.prog 53 #[.pointer (some ⟨sb, 0, none⟩), .pointer (some ⟨ra, 0, none⟩), .pointer (some ⟨rb, 0, none⟩)] w2 fun e w' =>
      (w'.cell? ⟨eb, 0, none⟩ = some .nilIface ∧ w'.frozen? ⟨eb, 0, none⟩ = false) ∧ ∃ s1 s2 s3 ev, e = .returned (.tuple #[.slice s1 s2 s3, ev]) ∧ (ev = .nilIface ∨ ∃ tt v, ev = .iface tt v) ∧ CEnd X f lk K rt eb sx sb t a b wA (s1, s2, s3) ev w') := by
    intro lk2 w2 hC2 hS2 hA2 hB2
    have hBd := hB2.undrew
    have hS9 : CSto w2 X f lk2 d K := HSA.out.short hC2 hA2 hBd
    have hBx2 := hBxA.but hBd
    have hl1 : lk2 ra = none := (root_iff lk2 ra).2 ((hS2 ra ra).1 ((root_iff lk ra).1 hra.is_root))
    have hl2 : lk2 rb = none := (root_iff lk2 rb).2 ((hS2 rb rb).1 ((root_iff lk rb).1 hrb.is_root))
    have hsat : ∀ θ, SatC X (gc K f) lk2 θ ↔ SatC X (gc K f) lk θ := fun θ => hS2.sat HSA.out.acyc hA2 θ
    have hab : ∀ θ, (SatC X (gc K f) lk2 θ ∧ θ ra = θ rb) ↔ (SatC X (gc K f) lk θ ∧ θ a = θ b) := by
      intro θ
      rw [hsat θ]
      constructor
      · rintro ⟨h1, h2⟩
        exact ⟨h1, by rw [hra.sat h1, hrb.sat h1]; exact h2⟩
      · rintro ⟨h1, h2⟩
        rw [hra.sat h1, hrb.sat h1] at h2
        exact ⟨h1, h2⟩
    refine (equateHeads_any X f lk2 d K w2 ra rb rt hS9 (fun i hi hl => HRT.out i hi ((root_iff lk i).2 ((hS2 i i).2 ((root_iff lk2 i).1 hl)))) hXra hXrb hl1 hl2 sb t hBxA.bX hBx2.now).mono ?_
    rintro e w' ⟨hB', hres⟩
    have hBx3 := hBx2.but hB'
    refine ⟨⟨?_, frozen_of_row _ _ _ _ 58 hBx3.e⟩, ?_⟩
    · rw [cell_of_row _ _ _ _ 58 (0, 0) hBx3.e]; rfl
    · rcases hres with ⟨⟨s1, s2, s3⟩, P, he, hp, hpx, f', lk', d', rt', h1, h2, h3, h5, h4⟩ | ⟨⟨v, he⟩, ⟨lk', d', h1, h5⟩, hno⟩
      · exact ⟨s1, s2, s3, .nilIface, he, .inl rfl, hBx3, hBd.trans hB', .inl ⟨P, rfl, hp, hpx, f', lk', d', rt', h1, h2, h3, (Ties.same hS2).trans h5, fun θ => (h4 θ).trans (hab θ)⟩⟩
      · refine ⟨none, 0, 0, .iface _ (.pointer (some v)), he, .inr ⟨_, _, rfl⟩, hBx3, hBd.trans hB', .inr ⟨rfl, ⟨v, rfl⟩, ⟨f, lk', d', h1, .same (hS2.trans h5)⟩, fun θ h1 h2 => ?_⟩⟩
        obtain ⟨h3, h4⟩ := (hab θ).2 ⟨h1, h2⟩
        exact hno θ h3 h4
  go_region_held3 (fun w' => w'.cell? ⟨wi, 0, none⟩ = some (.pointer (some ⟨a, 0, none⟩)) ∧ w'.cell? ⟨wi, 1, none⟩ = some (.pointer (some ⟨b, 0, none⟩)) ∧ w'.cell? ⟨sx, 0, none⟩ = some (.pointer (some ⟨sb, 0, none⟩)))
    (first | exact ⟨i0, i1, s0⟩ | exact q1 | exact q2 | exact q3 | exact HL3.out w3 ev q3 | go_keep)
    (first
    | (go_at_call_of 54 (Value.pointer (some ⟨a, 0, none⟩)); refine (head_any X f lk d HA wA.drew HC.drew a ra hXa hra).mono ?_; rintro e w1 ⟨rfl, lk1, hC1, hS1, hA1, hB1, hz1⟩; have HA1 : Hid (Acyc lk1 d) := hA1; have hrb1 := (hS1 b rb).1 hrb; have q1 := HL.out w1 hB1)
    | (go_at_call_of 54 (Value.pointer (some ⟨b, 0, none⟩)); refine (head_any X f lk1 d HA1 w1 hC1 b rb hXb hrb1).mono ?_; rintro e w2 ⟨rfl, lk2, hC2, hS2, hA2, hB2, hz2⟩; have q2 := HL.out w2 (hB1.trans hB2))
    | (go_at_call 53; refine (HEQ.out lk2 w2 hC2 (hS1.trans hS2) hA2 (hB1.trans hB2)).mono ?_; rintro e w3 ⟨⟨e3, f3⟩, s1, s2, s3, ev, rfl, hev, hend⟩; have q3 := HL2.out w3 hend.2.1; obtain ⟨hst3, hcl3⟩ := store_err (P := Try.prog) hev e3 f3; simp only [Value.cells] at hcl3))
  have HB9 : Hid (But (fun i => X i ∨ i = eb) w (w3.setCell ⟨eb, 0, none⟩ ev)) := ((HBA.out.trans hend.2.1).mono (fun _ h => .inl h)).setCell (p := ⟨eb, 0, none⟩) (.inr rfl) ev
  have HE : Hid (CEnd X f lk K rt eb sx sb t a b wA (s1, s2, s3) ev w3) := hend
  clear hC1 hC2 hB1 hB2 hS1 hS2 hA1 hA2 HA1 HEQ HL HL2 HL3 HC HA HSA HBA hend hBxA
  go_wp2
  go_ret
  obtain ⟨hBx3, hB3, hres⟩ := HE.out
  refine ⟨HB9.out, ?_⟩
  rcases hres with ⟨P, rfl, hp, hpx, f', lk', d', rt', h1, h2, h3, h5, h4⟩ | ⟨hs, ⟨v, rfl⟩, ⟨f', lk', d', h1, h5⟩, hno⟩
  · refine .inl ⟨(s1, s2, s3), P, rfl, hp.put e3 _, hpx, hBx3.put _, f', lk', d', rt', ?_, h2, h3, h5, h4⟩
    refine h1.aside ((But.refl (· = eb) w3).setCell (p := ⟨eb, 0, none⟩) rfl _) hBx3.eX (fun cur h => ?_)
    rw [hBx3.e] at h
    simp at h
  · simp only [Prod.mk.injEq] at hs
    obtain ⟨rfl, rfl, rfl⟩ := hs
    refine .inr ⟨⟨v, rfl, hBx3.put _⟩, ⟨f', lk', d', ?_, h5⟩, hno⟩
    refine h1.aside ((But.refl (· = eb) w3).setCell (p := ⟨eb, 0, none⟩) rfl _) hBx3.eX (fun cur h => ?_)
    rw [hBx3.e] at h
    simp at h

end Go.Proofs.Ytljdcaoibnikjaa

import Derived.Test.YtoiiibplkhedcaaGreatDoorNF
import Derived.Deep.RegionHeld3
import Derived.OwnWalkIn
set_option maxRecDepth 20000
set_option maxHeartbeats 2000000
namespace Go.Proofs.YtoiiibplkhedcaaGreatDoor
open Go.RowKit
def OwnT (T : Nat) (w : World) (g : Nat) (cs : List Value) : Prop := ∃ cur rest, w.heap[g]? = some (.cells cur T (0, 0)) ∧ cur.toList = cs ++ rest
theorem OwnT.lt {T : Nat} {w : World} {g : Nat} {cs : List Value} (h : OwnT T w g cs) : g < w.heap.size := by
  obtain ⟨cur, rest, hg, _⟩ := h
  exact (Array.getElem?_eq_some_iff.1 hg).1
theorem OwnT.at {T : Nat} {w : World} {g : Nat} {cs : List Value} (h : OwnT T w g cs) (j : Nat) (hj : j < cs.length) : w.cell? ⟨g, j, none⟩ = cs[j]? := by
  obtain ⟨cur, rest, hg, hc⟩ := h
  rw [cell_of_row w g _ cur T (0, 0) hg, ← Array.getElem?_toList, hc, List.getElem?_append_left hj]
theorem OwnT.frozen {T : Nat} {w : World} {g : Nat} {cs : List Value} (h : OwnT T w g cs) (j : Nat) : w.frozen? ⟨g, j, none⟩ = false := by
  obtain ⟨cur, _, hg, _⟩ := h
  exact frozen_of_row w g j cur T hg
theorem OwnT.but {S : Nat → Prop} {T : Nat} {w w' : World} {g : Nat} {cs : List Value} (h : OwnT T w g cs) (hb : But S w w') (hn : ¬ S g) : OwnT T w' g cs := by
  have hlt := h.lt
  obtain ⟨cur, rest, hg, hc⟩ := h
  exact ⟨cur, rest, (hb.block g hlt hn).trans hg, hc⟩
theorem OwnT.below {T : Nat} {w w' : World} {g : Nat} {cs : List Value} (h : OwnT T w g cs) (hb : Below w.heap.size w w') : OwnT T w' g cs := by
  have hlt := h.lt
  obtain ⟨cur, rest, hg, hc⟩ := h
  exact ⟨cur, rest, (hb.block g hlt).trans hg, hc⟩
def Qyl (w : World) (ao : Option Addr) (xs : List Int) : Prop := ∀ i (h : i < xs.length), ∃ b o, ao = some ⟨b, o, none⟩ ∧ w.cell? ⟨b, o + i, none⟩ = some (.int .i64 xs[i])
theorem Qjf (x : Nd) (w : World) :
    Calls Tryz.prog 91 #[.agg #[.int .i64 x.kind, .int .i64 x.num, .string x.text, .int .i64 x.kids, .int .i64 x.place]] w fun e w' =>
      e = .returned (.agg #[.int .i64 x.kind, .int .i64 x.num, .string x.text, .int .i64 x.kids, .int .i64 0]) ∧ Below w.heap.size w w' := by
  go_enter Tryz.func91, Tryz.ntmps91
  go_wp2
  refine bodyPost_ret (v := .agg #[.int .i64 x.kind, .int .i64 x.num, .string x.text, .int .i64 x.kids, .int .i64 0]) (by simp [results, Tryz.results91, go_sem]) rfl ⟨rfl, ?_⟩
  exact ((Below.refl _ _).alloc (Nat.le_refl _) _).alloc (by simp) _
theorem neqN (x y : Nd) (w : World) :
    (binOp .neq 43 (.agg #[.int .i64 x.kind, .int .i64 x.num, .string x.text, .int .i64 x.kids, .int .i64 0]) (.agg #[.int .i64 y.kind, .int .i64 y.num, .string y.text, .int .i64 y.kids, .int .i64 0])).run Tryz.prog w =
      .ok (.bool (!(x.sameb y))) w := by
  unfold Nd.sameb
  go_simp
  repeat' split
  all_goals simp_all
theorem CSto.aside {w w' : World} {X : Nat → Prop} {f : Nat → CC} {lk : Nat → Option Nat} {d : Nat → Nat} {K : (Option Addr × Nat × Nat) → List Nat} (h : CSto w X f lk d K) {eb : Nat} (hb : But (· = eb) w w') (hX : ¬ X eb) (hk : ∀ cur, w.heap[eb]? ≠ some (.cells cur 64 (0, 0))) : CSto w' X f lk d K := by
  refine ⟨h.cells.but hb (fun b hx e => hX (e ▸ hx)), h.acyc, fun b hx => ?_, h.inX, h.arity, h.met, h.low⟩
  obtain ⟨h1, h2⟩ := h.rows b hx
  refine ⟨h1, ?_⟩
  rcases h2 with e | ⟨g, cur, h1, h2, h3, h4, h5⟩
  · exact .inl e
  · have hne : g ≠ eb := fun e => hk cur (e ▸ h4)
    exact .inr ⟨g, cur, h1, h2, Nat.lt_of_lt_of_le h3 hb.size, (hb.block g h3 hne).trans h4, h5⟩
structure Boxes (w : World) (X : Nat → Prop) (eb sx sb : Nat) (ev : Value) (t : Int) : Prop where
  e : w.heap[eb]? = some (.cells #[ev] 62 (0, 0))
  s : w.heap[sx]? = some (.cells #[.pointer (some ⟨sb, 0, none⟩)] 59 (0, 0))
  now : w.cell? ⟨sb, 1, none⟩ = some (.int .i64 t)
  eX : ¬ X eb
  sX : ¬ X sx
  bX : ¬ X sb
  es : eb ≠ sx
  eb' : eb ≠ sb
theorem Boxes.but {w w' : World} {X : Nat → Prop} {eb sx sb : Nat} {ev : Value} {t : Int} (h : Boxes w X eb sx sb ev t) (hb : But X w w') : Boxes w' X eb sx sb ev t := by
  have l1 : eb < w.heap.size := (Array.getElem?_eq_some_iff.1 h.e).1
  have l2 : sx < w.heap.size := (Array.getElem?_eq_some_iff.1 h.s).1
  exact ⟨(hb.block eb l1 h.eX).trans h.e, (hb.block sx l2 h.sX).trans h.s, (hb.cellB (Qaa h.now) h.bX).trans h.now, h.eX, h.sX, h.bX, h.es, h.eb'⟩
theorem Boxes.put {w : World} {X : Nat → Prop} {eb sx sb : Nat} {ev : Value} {t : Int} (h : Boxes w X eb sx sb ev t) (v : Value) : Boxes (w.setCell ⟨eb, 0, none⟩ v) X eb sx sb v t := by
  have hb9 : But (· = eb) w (w.setCell ⟨eb, 0, none⟩ v) := (But.refl (· = eb) w).setCell (p := ⟨eb, 0, none⟩) rfl v
  have h9 := heap_setCell_same w eb 0 _ 62 v h.e
  have l2 : sx < w.heap.size := (Array.getElem?_eq_some_iff.1 h.s).1
  refine ⟨by simpa using h9, (hb9.block sx l2 (fun e => h.es e.symm)).trans h.s, (hb9.cellB (Qaa h.now) (fun e => h.eb' e.symm)).trans h.now, h.eX, h.sX, h.bX, h.es, h.eb'⟩
theorem add0 (g j : Nat) : Addr.add ⟨g, 0, none⟩ j = ⟨g, j, none⟩ := by
  unfold Addr.add
  split
  · simp_all
  · simp
theorem PairRow.put {w : World} {s : Option Addr × Nat × Nat} {P : List (Nat × Nat)} (h : PairRow w s P) {eb : Nat} (he : w.cell? ⟨eb, 0, none⟩ = some .nilIface) (v : Value) : PairRow (w.setCell ⟨eb, 0, none⟩ v) s P := by
  refine ⟨h.1, ?_⟩
  rcases h.2 with h1 | ⟨g, c, h1, h2⟩
  · exact .inl h1
  · refine .inr ⟨g, c, h1, fun j u hj => ?_⟩
    have hne : g ≠ eb := by
      rintro rfl
      cases P with
      | nil => simp [Qba] at hj
      | cons p P =>
        have h9 := h2 0 (.pointer (some ⟨p.1, 0, none⟩)) (by simp [Qba])
        rw [add0, he] at h9
        cases h9
    have hb9 : But (· = eb) w (w.setCell ⟨eb, 0, none⟩ v) := (But.refl (· = eb) w).setCell (p := ⟨eb, 0, none⟩) rfl v
    have h9 := h2 j u hj
    rw [add0] at h9 ⊢
    exact (hb9.cellB (Qaa h9) hne).trans h9
theorem Qve {P : Program} {w : World} {ad : Addr} {ev u : Value} (hev : ev = .nilIface ∨ ∃ t v, ev = .iface t v) (hc : w.cell? ad = some u) (hf : w.frozen? ad = false) : (store ad ev).run P w = .ok () (w.setCell ad ev) ∧ ev.cells = #[ev] := by
  rcases hev with rfl | ⟨t, v, rfl⟩
  · exact ⟨by simp [go_sem, hc, hf], rfl⟩
  · exact ⟨by simp [go_sem, hc, hf], rfl⟩
def CRes (X : Nat → Prop) (f : Nat → CC) (lk : Nat → Option Nat) (K : (Option Addr × Nat × Nat) → List Nat) (rt : List Nat) (eb sx sb : Nat) (t : Int) (a b : Nat) (w : World) (e : Ending) (w' : World) : Prop :=
  But (fun i => X i ∨ i = eb) w w' ∧ ((∃ s P, e = .returned (.slice s.1 s.2.1 s.2.2) ∧ PairRow w' s P ∧ (∀ p ∈ P, X p.1 ∧ X p.2) ∧ Boxes w' X eb sx sb .nilIface t ∧
      ∃ (f' : Nat → CC) (lk' : Nat → Option Nat) (d' : Nat → Nat) (rt' : List Nat), CSto w' X f' lk' d' K ∧ (rt'.length < rt.length ∨ (P = [] ∧ rt'.length ≤ rt.length)) ∧ (∀ i, X i → lk' i = none → i ∈ rt') ∧ Ties X t f lk f' lk' ∧ ∀ θ, (SatC X (gc K f') lk' θ ∧ ∀ p ∈ P, θ p.1 = θ p.2) ↔ (SatC X (gc K f) lk θ ∧ θ a = θ b)) ∨
    ((∃ v, e = .returned (.slice none 0 0) ∧ Boxes w' X eb sx sb (.iface 143 (.pointer (some v))) t) ∧ (∃ f' lk' d', CSto w' X f' lk' d' K ∧ Ties X t f lk f' lk') ∧ ∀ θ, SatC X (gc K f) lk θ → θ a ≠ θ b))
def CEnd (X : Nat → Prop) (f : Nat → CC) (lk : Nat → Option Nat) (K : (Option Addr × Nat × Nat) → List Nat) (rt : List Nat) (eb sx sb : Nat) (t : Int) (a b : Nat) (w : World) (s : Option Addr × Nat × Nat) (ev : Value) (w' : World) : Prop :=
  Boxes w' X eb sx sb .nilIface t ∧ But X w w' ∧ ((∃ P, ev = .nilIface ∧ PairRow w' s P ∧ (∀ p ∈ P, X p.1 ∧ X p.2) ∧
      ∃ (f' : Nat → CC) (lk' : Nat → Option Nat) (d' : Nat → Nat) (rt' : List Nat), CSto w' X f' lk' d' K ∧ (rt'.length < rt.length ∨ (P = [] ∧ rt'.length ≤ rt.length)) ∧ (∀ i, X i → lk' i = none → i ∈ rt') ∧ Ties X t f lk f' lk' ∧ ∀ θ, (SatC X (gc K f') lk' θ ∧ ∀ p ∈ P, θ p.1 = θ p.2) ↔ (SatC X (gc K f) lk θ ∧ θ a = θ b)) ∨
    (s = (none, 0, 0) ∧ (∃ v, ev = .iface 143 (.pointer (some v))) ∧ (∃ f' lk' d', CSto w' X f' lk' d' K ∧ Ties X t f lk f' lk') ∧ ∀ θ, SatC X (gc K f) lk θ → θ a ≠ θ b))
theorem Qro (X : Nat → Prop) (f : Nat → CC) (lk : Nat → Option Nat) (d : Nat → Nat) (K : (Option Addr × Nat × Nat) → List Nat) (w : World) (a b : Nat) (rt : List Nat) (hS : CSto w X f lk d K) (hroots : ∀ i, X i → lk i = none → i ∈ rt) (hXa : X a) (hXb : X b)
    (eb sx sb : Nat) (t : Int) (hBx : Boxes w X eb sx sb .nilIface t) :
    Calls Tryz.prog 58 #[.agg #[.pointer (some ⟨a, 0, none⟩), .pointer (some ⟨b, 0, none⟩)], .pointer (some ⟨eb, 0, none⟩), .pointer (some ⟨sx, 0, none⟩)] w fun e w' => CRes X f lk K rt eb sx sb t a b w e w' := by
  obtain ⟨ra, hra⟩ := hS.acyc.head _ a (Nat.lt_succ_self _)
  obtain ⟨rb, hrb⟩ := hS.acyc.head _ b (Nat.lt_succ_self _)
  have hXra : X ra := hra.inX hS.cells hXa
  have hXrb : X rb := hrb.inX hS.cells hXb
  have hb0 : Below w.heap.size w (w.alloc (.cells #[.pointer (some ⟨a, 0, none⟩), .pointer (some ⟨b, 0, none⟩)] 109)) := (Below.refl _ w).alloc (Nat.le_refl _) _
  have hB0 : But (fun _ => False) w (w.alloc (.cells #[.pointer (some ⟨a, 0, none⟩), .pointer (some ⟨b, 0, none⟩)] 109)) := But.ofBelow hb0
  have hK0 : (w.alloc (.cells #[.pointer (some ⟨a, 0, none⟩), .pointer (some ⟨b, 0, none⟩)] 109)).heap[w.heap.size]? = some (.cells #[.pointer (some ⟨a, 0, none⟩), .pointer (some ⟨b, 0, none⟩)] 109 (0, 0)) := heap_alloc_new _ _
  have hlX : ∀ i, X i → i < w.heap.size := fun i hi => (hS.cells.at' i hi).lt
  have hit : ¬ X w.heap.size := fun h => Nat.lt_irrefl _ (hlX _ h)
  have le : eb < w.heap.size := (Array.getElem?_eq_some_iff.1 hBx.e).1
  have hne : w.heap.size ≠ eb := by omega
  have hBxA := hBx.but (hB0.mono (T := X) (fun _ h => h.elim))
  have HSA : Hid (CSto (w.alloc (.cells #[.pointer (some ⟨a, 0, none⟩), .pointer (some ⟨b, 0, none⟩)] 109)) X f lk d K) := hS.short (hS.cells.but hB0 (fun _ _ h => h)) hS.acyc (hB0.mono (fun _ h => h.elim))
  have HBA : Hid (But X w (w.alloc (.cells #[.pointer (some ⟨a, 0, none⟩), .pointer (some ⟨b, 0, none⟩)] 109))) := hB0.mono (fun _ h => h.elim)
  have HRT : Hid (∀ i, X i → lk i = none → i ∈ rt) := hroots
  have qe : w.cell? ⟨eb, 0, none⟩ = some .nilIface := by rw [cell_of_row _ _ _ _ 62 (0, 0) hBx.e]; rfl
  clear hS hroots hBx hb0 hB0
  go_enter Tryz.func58, Tryz.ntmps58
  go_wp2_with fail
  obtain ⟨wi, hwi⟩ : ∃ i, w.heap.size = i := ⟨_, rfl⟩
  rw [hwi] at hK0 hit hne le
  (try rw [hwi])
  generalize w.alloc (.cells #[.pointer (some ⟨a, 0, none⟩), .pointer (some ⟨b, 0, none⟩)] 109) = wA at *
  have HC := HSA.out.cells
  have HA : Hid (Acyc lk d) := HSA.out.acyc
  have i0 : wA.cell? ⟨wi, 0, none⟩ = some (.pointer (some ⟨a, 0, none⟩)) := by rw [cell_of_row _ _ _ _ 109 (0, 0) hK0]; rfl
  have i1 : wA.cell? ⟨wi, 1, none⟩ = some (.pointer (some ⟨b, 0, none⟩)) := by rw [cell_of_row _ _ _ _ 109 (0, 0) hK0]; rfl
  have s0 : wA.cell? ⟨sx, 0, none⟩ = some (.pointer (some ⟨sb, 0, none⟩)) := by rw [cell_of_row _ _ _ _ 59 (0, 0) hBxA.s]; rfl
  have HL : Hid (∀ W, But X wA.drew W → W.cell? ⟨wi, 0, none⟩ = some (.pointer (some ⟨a, 0, none⟩)) ∧ W.cell? ⟨wi, 1, none⟩ = some (.pointer (some ⟨b, 0, none⟩)) ∧ W.cell? ⟨sx, 0, none⟩ = some (.pointer (some ⟨sb, 0, none⟩))) := by
    intro W hW
    have hW := hW.undrew
    exact ⟨(hW.cellB (Qaa i0) hit).trans i0, (hW.cellB (Qaa i1) hit).trans i1, (hW.cellB (Qaa s0) hBxA.sX).trans s0⟩
  have HL2 : Hid (∀ W, But X wA W → W.cell? ⟨wi, 0, none⟩ = some (.pointer (some ⟨a, 0, none⟩)) ∧ W.cell? ⟨wi, 1, none⟩ = some (.pointer (some ⟨b, 0, none⟩)) ∧ W.cell? ⟨sx, 0, none⟩ = some (.pointer (some ⟨sb, 0, none⟩))) := by
    intro W hW
    exact ⟨(hW.cellB (Qaa i0) hit).trans i0, (hW.cellB (Qaa i1) hit).trans i1, (hW.cellB (Qaa s0) hBxA.sX).trans s0⟩
  have HL3 : Hid (∀ (W : World) (v : Value), (W.cell? ⟨wi, 0, none⟩ = some (.pointer (some ⟨a, 0, none⟩)) ∧ W.cell? ⟨wi, 1, none⟩ = some (.pointer (some ⟨b, 0, none⟩)) ∧ W.cell? ⟨sx, 0, none⟩ = some (.pointer (some ⟨sb, 0, none⟩))) → (W.setCell ⟨eb, 0, none⟩ v).cell? ⟨wi, 0, none⟩ = some (.pointer (some ⟨a, 0, none⟩)) ∧ (W.setCell ⟨eb, 0, none⟩ v).cell? ⟨wi, 1, none⟩ = some (.pointer (some ⟨b, 0, none⟩)) ∧ (W.setCell ⟨eb, 0, none⟩ v).cell? ⟨sx, 0, none⟩ = some (.pointer (some ⟨sb, 0, none⟩))) := by
    rintro W v ⟨h1, h2, h3⟩
    have hb9 : But (· = eb) W (W.setCell ⟨eb, 0, none⟩ v) := (But.refl (· = eb) W).setCell (p := ⟨eb, 0, none⟩) rfl v
    exact ⟨(hb9.cellB (Qaa h1) hne).trans h1, (hb9.cellB (Qaa h2) hne).trans h2, (hb9.cellB (Qaa h3) (fun e => hBxA.es e.symm)).trans h3⟩
  have HEQ : Hid (∀ lk2 w2, Cells w2 X f lk2 → SameHd lk lk2 → Acyc lk2 d → But X wA.drew w2 → Calls Tryz.prog 59 #[.pointer (some ⟨sb, 0, none⟩), .pointer (some ⟨ra, 0, none⟩), .pointer (some ⟨rb, 0, none⟩)] w2 fun e w' =>
      (w'.cell? ⟨eb, 0, none⟩ = some .nilIface ∧ w'.frozen? ⟨eb, 0, none⟩ = false) ∧ ∃ s1 s2 s3 ev, e = .returned (.tuple #[.slice s1 s2 s3, ev]) ∧ (ev = .nilIface ∨ ∃ tt v, ev = .iface tt v) ∧ CEnd X f lk K rt eb sx sb t a b wA (s1, s2, s3) ev w') := by
    intro lk2 w2 hC2 hS2 hA2 hB2
    have hBd := hB2.undrew
    have hS9 : CSto w2 X f lk2 d K := HSA.out.short hC2 hA2 hBd
    have hBx2 := hBxA.but hBd
    have hl1 : lk2 ra = none := (Qaw lk2 ra).2 ((hS2 ra ra).1 ((Qaw lk ra).1 hra.is_root))
    have hl2 : lk2 rb = none := (Qaw lk2 rb).2 ((hS2 rb rb).1 ((Qaw lk rb).1 hrb.is_root))
    have hsat : ∀ θ, SatC X (gc K f) lk2 θ ↔ SatC X (gc K f) lk θ := fun θ => hS2.sat HSA.out.acyc hA2 θ
    have hab : ∀ θ, (SatC X (gc K f) lk2 θ ∧ θ ra = θ rb) ↔ (SatC X (gc K f) lk θ ∧ θ a = θ b) := by
      intro θ
      rw [hsat θ]
      constructor
      · rintro ⟨h1, h2⟩
        exact ⟨h1, by rw [hra.sat h1, hrb.sat h1]; exact h2⟩
      · rintro ⟨h1, h2⟩
        rw [hra.sat h1, hrb.sat h1] at h2
        exact ⟨h1, h2⟩
    refine (Qkh X f lk2 d K w2 ra rb rt hS9 (fun i hi hl => HRT.out i hi ((Qaw lk i).2 ((hS2 i i).2 ((Qaw lk2 i).1 hl)))) hXra hXrb hl1 hl2 sb t hBxA.bX hBx2.now).mono ?_
    rintro e w' ⟨hB', hres⟩
    have hBx3 := hBx2.but hB'
    refine ⟨⟨?_, frozen_of_row _ _ _ _ 62 hBx3.e⟩, ?_⟩
    · rw [cell_of_row _ _ _ _ 62 (0, 0) hBx3.e]; rfl
    · rcases hres with ⟨⟨s1, s2, s3⟩, P, he, hp, hpx, f', lk', d', rt', h1, h2, h3, h5, h4⟩ | ⟨⟨v, he⟩, ⟨lk', d', h1, h5⟩, hno⟩
      · exact ⟨s1, s2, s3, .nilIface, he, .inl rfl, hBx3, hBd.trans hB', .inl ⟨P, rfl, hp, hpx, f', lk', d', rt', h1, h2, h3, (Ties.same hS2).trans h5, fun θ => (h4 θ).trans (hab θ)⟩⟩
      · refine ⟨none, 0, 0, .iface _ (.pointer (some v)), he, .inr ⟨_, _, rfl⟩, hBx3, hBd.trans hB', .inr ⟨rfl, ⟨v, rfl⟩, ⟨f, lk', d', h1, .same (hS2.trans h5)⟩, fun θ h1 h2 => ?_⟩⟩
        obtain ⟨h3, h4⟩ := (hab θ).2 ⟨h1, h2⟩
        exact hno θ h3 h4
  go_region_held3 (fun w' => w'.cell? ⟨wi, 0, none⟩ = some (.pointer (some ⟨a, 0, none⟩)) ∧ w'.cell? ⟨wi, 1, none⟩ = some (.pointer (some ⟨b, 0, none⟩)) ∧ w'.cell? ⟨sx, 0, none⟩ = some (.pointer (some ⟨sb, 0, none⟩)))
    (first | exact ⟨i0, i1, s0⟩ | exact q1 | exact q2 | exact q3 | exact HL3.out w3 ev q3 | go_keep)
    (first
    | (go_at_call_of 60 (Value.pointer (some ⟨a, 0, none⟩)); refine (Qhh X f lk d HA wA.drew HC.drew a ra hXa hra).mono ?_; rintro e w1 ⟨rfl, lk1, hC1, hS1, hA1, hB1, hz1⟩; have HA1 : Hid (Acyc lk1 d) := hA1; have hrb1 := (hS1 b rb).1 hrb; have q1 := HL.out w1 hB1)
    | (go_at_call_of 60 (Value.pointer (some ⟨b, 0, none⟩)); refine (Qhh X f lk1 d HA1 w1 hC1 b rb hXb hrb1).mono ?_; rintro e w2 ⟨rfl, lk2, hC2, hS2, hA2, hB2, hz2⟩; have q2 := HL.out w2 (hB1.trans hB2))
    | (go_at_call 59; refine (HEQ.out lk2 w2 hC2 (hS1.trans hS2) hA2 (hB1.trans hB2)).mono ?_; rintro e w3 ⟨⟨e3, f3⟩, s1, s2, s3, ev, rfl, hev, hend⟩; have q3 := HL2.out w3 hend.2.1; obtain ⟨hst3, hcl3⟩ := Qve (P := Tryz.prog) hev e3 f3; simp only [Value.cells] at hcl3))
  have HB9 : Hid (But (fun i => X i ∨ i = eb) w (w3.setCell ⟨eb, 0, none⟩ ev)) := ((HBA.out.trans hend.2.1).mono (fun _ h => .inl h)).setCell (p := ⟨eb, 0, none⟩) (.inr rfl) ev
  have HE : Hid (CEnd X f lk K rt eb sx sb t a b wA (s1, s2, s3) ev w3) := hend
  clear hC1 hC2 hB1 hB2 hS1 hS2 hA1 hA2 HA1 HEQ HL HL2 HL3 HC HA HSA HBA hend hBxA
  go_wp2
  go_ret
  obtain ⟨hBx3, hB3, hres⟩ := HE.out
  refine ⟨HB9.out, ?_⟩
  rcases hres with ⟨P, rfl, hp, hpx, f', lk', d', rt', h1, h2, h3, h5, h4⟩ | ⟨hs, ⟨v, rfl⟩, ⟨f', lk', d', h1, h5⟩, hno⟩
  · refine .inl ⟨(s1, s2, s3), P, rfl, hp.put e3 _, hpx, hBx3.put _, f', lk', d', rt', ?_, h2, h3, h5, h4⟩
    refine h1.aside ((But.refl (· = eb) w3).setCell (p := ⟨eb, 0, none⟩) rfl _) hBx3.eX (fun cur h => ?_)
    rw [hBx3.e] at h
    simp at h
  · simp only [Prod.mk.injEq] at hs
    obtain ⟨rfl, rfl, rfl⟩ := hs
    refine .inr ⟨⟨v, rfl, hBx3.put _⟩, ⟨f', lk', d', ?_, h5⟩, hno⟩
    refine h1.aside ((But.refl (· = eb) w3).setCell (p := ⟨eb, 0, none⟩) rfl _) hBx3.eX (fun cur h => ?_)
    rw [hBx3.e] at h
    simp at h
theorem Qqq {P : Program} (w : World) (base : Nat) (t ty e : TypeId) (i : TypeInfo) (z : Value) (size bytes : Nat) (ht : P.underlying t = some (.slice e)) (hi : P.info? e = some i) (hz : i.zero = some z)
    (hsize : i.size = size) (hby : i.bytes = bytes) (hzs : z.cells.size = size) (hsz : 0 < size) (v : Value) (n : Nat) (xs : List Value) (hown : w.ownsRow base e size v n xs)
    (ad : Addr) (m c : Nat) (news : List Value) (hl : news.length = m * size) (hnews : ∀ j u, news[j]? = some u → w.cell? (ad.add j) = some u) (h1 : ∀ u ∈ news, u.oneCell' = true)
    (hm : 0 < m) (h63 : n + m ≤ maxLen) (hbytes : (n + m) * bytes ≤ 140737488355328) (hbase : base ≤ w.heap.size) :
    ∃ g' cap' w', (Builtin.append_ #[t, t] ty #[v, .slice (some ad) m c]).run P w = .ok (.slice (some ⟨g', 0, none⟩) (n + m) cap') w' ∧ w'.ownsRow base e size (.slice (some ⟨g', 0, none⟩) (n + m) cap') (n + m) (xs ++ news) ∧ w.grownBy w' v.ownBlock ∧ (v.ownBlock = some g' ∨ w.heap.size ≤ g') := by
  obtain ⟨v', w', hr, h2, h3, h4⟩ := run_append_own (P := P) w base t ty e i z size bytes ht hi hz hsize hby hzs hsz v n xs hown ad m c news hl hnews h1 h63 hbytes hbase
  rcases hown.2 with ⟨hv, hn⟩ | ⟨g2, cap2, cur, he, _⟩
  · subst hv
    have hown2 : w.ownsRow w.heap.size e size (.slice none 0 0) n xs := ⟨hown.1, Or.inl ⟨rfl, hn⟩⟩
    obtain ⟨v2, w2, hr2, h22, h23, h24⟩ := run_append_own (P := P) w w.heap.size t ty e i z size bytes ht hi hz hsize hby hzs hsz _ n xs hown2 ad m c news hl hnews h1 h63 hbytes (Nat.le_refl _)
    rw [hr] at hr2
    simp only [Result.ok.injEq] at hr2
    obtain ⟨rfl, rfl⟩ := hr2
    rcases h22.2 with ⟨hv2, hn2⟩ | ⟨g3, cap3, cur3, he3, hb3, _⟩
    · omega
    · subst he3
      exact ⟨g3, cap3, _, hr, h2, h3, Or.inr hb3⟩
  · subst he
    subst hsize
    obtain ⟨g', cap', rfl, hw⟩ := Qiu w t ty e i z ht hi hz base g2 n cap2 xs hown ad m c news hl hnews h1 h63 (by rw [hby]; exact hbytes) hr
    exact ⟨g', cap', _, hr, h2, h3, hw.elim (fun e => Or.inl (by rw [e]; rfl)) (fun e => Or.inr (by omega))⟩
end Go.Proofs.YtoiiibplkhedcaaGreatDoor
namespace Go.Proofs.YtoiiibplkhedcaaGreatDoor
open Go.RowKit
def mkF (f : Nat → CC) (sn : Nat → Int) : Nat → CC := fun i => { f i with sn := sn i }
def Qbc (K : (Option Addr × Nat × Nat) → List Nat) (f : Nat → CC) (t : Int) (h : Nat) : List Nat := if t < (f h).told then [] else K (f h).ks
def RestAt (w : World) (s : Option Addr × Nat × Nat) (l : List Nat) : Prop :=
  s.2.1 = l.length ∧ l.length ≤ 20000 ∧ l.length ≤ s.2.2 ∧ (l = [] ∨ ∃ g o cur, s.1 = some ⟨g, o, none⟩ ∧ w.heap[g]? = some (.cells cur 64 (0, 0)) ∧ ∀ i (h : i < l.length), cur[o + i]? = some (.pointer (some ⟨l[i], 0, none⟩)))
abbrev PSt := Nat × (Option Addr × Nat × Nat) × List Nat
def Qar (P : List PSt) : List Value := P.flatMap fun x => [.pointer (some ⟨x.1, 0, none⟩), .slice x.2.1.1 x.2.1.2.1 x.2.1.2.2]
def SBlk (w : World) (sb mb : Nat) (now t I L : Int) (s : Option Addr × Nat × Nat) : Prop :=
  w.heap[sb]? = some (.cells #[.map (some mb), .int .i64 now, .int .i64 t, .int .i64 I, .int .i64 L, .slice s.1 s.2.1 s.2.2] 107 (0, 0))
theorem SBlk.cell {w : World} {sb mb : Nat} {now t I L : Int} {s : Option Addr × Nat × Nat} (h : SBlk w sb mb now t I L s) :
    w.cell? ⟨sb, 0, none⟩ = some (.map (some mb)) ∧ w.cell? ⟨sb, 1, none⟩ = some (.int .i64 now) ∧ w.cell? ⟨sb, 2, none⟩ = some (.int .i64 t) ∧ w.cell? ⟨sb, 3, none⟩ = some (.int .i64 I) ∧ w.cell? ⟨sb, 4, none⟩ = some (.int .i64 L) ∧ w.cell? ⟨sb, 5, none⟩ = some (.slice s.1 s.2.1 s.2.2) ∧ w.frozen? ⟨sb, 5, none⟩ = false ∧ sb < w.heap.size := by
  refine ⟨?_, ?_, ?_, ?_, ?_, ?_, frozen_of_row w sb 5 _ 107 h, (Array.getElem?_eq_some_iff.1 h).1⟩ <;> (rw [cell_of_row _ sb _ _ 107 (0, 0) h]; rfl)
theorem Qbz (P R : List PSt) : Qar (P ++ R) = Qar P ++ Qar R := by simp [Qar]
theorem Qvy (x : PSt) : ∀ u ∈ Qar [x], u.oneCell' = true := by
  intro u hu
  simp only [Qar, List.flatMap_cons, List.flatMap_nil, List.append_nil, List.mem_cons, List.not_mem_nil, or_false] at hu
  rcases hu with rfl | rfl <;> rfl
theorem Qoc (w : World) (x : PSt) : ∀ j u, (Qar [x])[j]? = some u → (w.alloc (.cells #[.pointer (some ⟨x.1, 0, none⟩), .slice x.2.1.1 x.2.1.2.1 x.2.1.2.2] 206)).cell? (Addr.add ⟨w.heap.size, 0, none⟩ j) = some u := by
  intro j u hj
  rw [add0, cell_of_row _ w.heap.size j _ 206 (0, 0) (heap_alloc_new _ _), ← hj]
  simp [Qar]
theorem Tryz.infoSt : (Tryz.prog.info? 206).map (fun i => (i.zero, i.size, i.bytes)) = some (some (.agg #[.pointer none, .slice none 0 0]), 2, 32) := by kernel_rfl
def Qcb (sn : Nat → Int) (r : Nat) (v : Int) : Nat → Int := fun i => if i = r then v else sn i
theorem CellAt.remark {w : World} {b : Nat} {c : CC} {l : Option Nat} (h : CellAt w b c l) (v : Int) : CellAt (w.setCell ⟨b, 13, none⟩ (.int .i64 v)) b { c with sn := v } l := by
  have h9 := heap_setCell_same w b 13 _ 120 (.int .i64 v) h
  simpa [CellAt] using h9
theorem CSto.remark {w : World} {X : Nat → Prop} {f : Nat → CC} {sn : Nat → Int} {lk : Nat → Option Nat} {d : Nat → Nat} {K : (Option Addr × Nat × Nat) → List Nat} (h : CSto w X (mkF f sn) lk d K) {r : Nat} (hr : X r) (v : Int) : CSto (w.setCell ⟨r, 13, none⟩ (.int .i64 v)) X (mkF f (Qcb sn r v)) lk d K := by
  have hb : But (· = r) w (w.setCell ⟨r, 13, none⟩ (.int .i64 v)) := (But.refl (· = r) w).setCell (p := ⟨r, 13, none⟩) rfl _
  refine ⟨⟨fun b hb' => ?_, h.cells.link⟩, h.acyc, fun b hb' => (h.rows b hb').but (hb.mono (fun i e => e ▸ hr)), h.inX, h.arity, h.met, h.low⟩
  by_cases e : b = r
  · subst e
    have h9 := (h.cells.at' b hb').remark v
    simpa [mkF, Qcb] using h9
  · have h9 := (h.cells.at' b hb').but hb e
    simpa [mkF, Qcb, e] using h9
theorem RestAt.but {S : Nat → Prop} {w w' : World} {s : Option Addr × Nat × Nat} {l : List Nat} (h : RestAt w s l) (hb : But S w w') (hS : ∀ g, S g → ∀ cur, w.heap[g]? ≠ some (.cells cur 64 (0, 0))) : RestAt w' s l := by
  refine ⟨h.1, h.2.1, h.2.2.1, ?_⟩
  rcases h.2.2.2 with e | ⟨g, o, cur, h1, h2, h3⟩
  · exact .inl e
  · exact .inr ⟨g, o, cur, h1, (hb.block g (Array.getElem?_eq_some_iff.1 h2).1 (fun hs => hS g hs cur h2)).trans h2, h3⟩
structure WMem (w : World) (X : Nat → Prop) (f : Nat → CC) (sn : Nat → Int) (lk : Nat → Option Nat) (d : Nat → Nat) (K : (Option Addr × Nat × Nat) → List Nat) (sb mb : Nat) (now t I L : Int) (s : Option Addr × Nat × Nat) (P : List PSt) : Prop where
  sto : CSto w X (mkF f sn) lk d K
  blk : SBlk w sb mb now t I L s
  row : w.ownsRow 0 206 2 (.slice s.1 s.2.1 s.2.2) s.2.1 (Qar P)
  len : P.length = s.2.1
  rest : ∀ x ∈ P, RestAt w x.2.1 x.2.2
section
variable {w : World} {X : Nat → Prop} {f : Nat → CC} {sn : Nat → Int} {lk : Nat → Option Nat} {d : Nat → Nat} {K : (Option Addr × Nat × Nat) → List Nat} {sb mb : Nat} {now t I L : Int} {s : Option Addr × Nat × Nat} {P : List PSt}
theorem WMem.sbX (h : WMem w X f sn lk d K sb mb now t I L s P) : ¬ X sb := by
  intro hx
  have h1 := h.sto.cells.at' sb hx
  have h2 := h.blk
  unfold CellAt at h1
  unfold SBlk at h2
  rw [h1] at h2
  simp at h2
theorem WMem.own (h : WMem w X f sn lk d K sb mb now t I L s P) {g : Nat} (hg : (Value.slice s.1 s.2.1 s.2.2).ownBlock = some g) : ∃ cur, w.heap[g]? = some (.cells cur 206 (0, 0)) := by
  rcases h.row.2 with ⟨e, _⟩ | ⟨g2, cap, cur, e, _, hh, _⟩
  · rw [e] at hg; cases hg
  · rw [e] at hg
    simp only [Value.ownBlock, Option.some.injEq] at hg
    subst hg
    exact ⟨cur, hh⟩
theorem WMem.ownX (h : WMem w X f sn lk d K sb mb now t I L s P) {g : Nat} (hg : (Value.slice s.1 s.2.1 s.2.2).ownBlock = some g) : ¬ X g ∧ g ≠ sb ∧ g < w.heap.size := by
  obtain ⟨cur, hc⟩ := h.own hg
  refine ⟨fun hx => ?_, fun e => ?_, (Array.getElem?_eq_some_iff.1 hc).1⟩
  · have h1 := h.sto.cells.at' g hx
    unfold CellAt at h1
    rw [h1] at hc
    simp at hc
  · have h2 := h.blk
    unfold SBlk at h2
    rw [← e, hc] at h2
    simp at h2
theorem Qft {S : Nat → Prop} {w w' : World} {B e size n : Nat} {v : Value} {xs : List Value} (h : w.ownsRow B e size v n xs) (hb : But S w w') (hS : ∀ g, v.ownBlock = some g → ¬ S g) : w'.ownsRow B e size v n xs := by
  rcases h.2 with ⟨e1, e2⟩ | ⟨g, cap, cur, e1, h2, h3, h4⟩
  · exact ⟨h.1, .inl ⟨e1, e2⟩⟩
  · refine ⟨h.1, .inr ⟨g, cap, cur, e1, h2, (hb.block g (Array.getElem?_eq_some_iff.1 h3).1 (hS g (by rw [e1]; rfl))).trans h3, h4⟩⟩
theorem WMem.still (h : WMem w X f sn lk d K sb mb now t I L s P) {w' : World} (hb : But (fun _ => False) w w') : WMem w' X f sn lk d K sb mb now t I L s P :=
  ⟨h.sto.still hb, (hb.block sb (Array.getElem?_eq_some_iff.1 h.blk).1 (fun h => h)).trans h.blk, Qft h.row hb (fun _ _ h => h), h.len, fun x hx => (h.rest x hx).but hb (fun _ h => h.elim)⟩
theorem WMem.mark (h : WMem w X f sn lk d K sb mb now t I L s P) {r : Nat} (hr : X r) (v : Int) : WMem (w.setCell ⟨r, 13, none⟩ (.int .i64 v)) X f (Qcb sn r v) lk d K sb mb now t I L s P := by
  have hb : But (· = r) w (w.setCell ⟨r, 13, none⟩ (.int .i64 v)) := (But.refl (· = r) w).setCell (p := ⟨r, 13, none⟩) rfl _
  refine ⟨h.sto.remark hr v, (hb.block sb (Array.getElem?_eq_some_iff.1 h.blk).1 (fun e => h.sbX (e ▸ hr))).trans h.blk, Qft h.row hb (fun g hg e => (h.ownX hg).1 (e ▸ hr)), h.len, fun x hx => (h.rest x hx).but hb (fun g e cur => ?_)⟩
  have h1 := h.sto.cells.at' r hr
  unfold CellAt at h1
  rw [e, h1]
  simp
theorem SBlk.path {w : World} {sb mb : Nat} {now t I L : Int} {s s' : Option Addr × Nat × Nat} (h : SBlk w sb mb now t I L s) : SBlk (w.setCell ⟨sb, 5, none⟩ (.slice s'.1 s'.2.1 s'.2.2)) sb mb now t I L s' := by
  have h9 := heap_setCell_same w sb 5 _ 107 (.slice s'.1 s'.2.1 s'.2.2) h
  simpa [SBlk] using h9
theorem WMem.setPath {w2 : World} {s' : Option Addr × Nat × Nat} {P' : List PSt} (hS : CSto w2 X (mkF f sn) lk d K) (hB : SBlk w2 sb mb now t I L s) (hsX : ¬ X sb) (hR : w2.ownsRow 0 206 2 (.slice s'.1 s'.2.1 s'.2.2) s'.2.1 (Qar P')) (hl : P'.length = s'.2.1) (hr : ∀ x ∈ P', RestAt w2 x.2.1 x.2.2) (hne : (Value.slice s'.1 s'.2.1 s'.2.2).ownBlock ≠ some sb) : WMem (w2.setCell ⟨sb, 5, none⟩ (.slice s'.1 s'.2.1 s'.2.2)) X f sn lk d K sb mb now t I L s' P' := by
  have hb : But (· = sb) w2 (w2.setCell ⟨sb, 5, none⟩ (.slice s'.1 s'.2.1 s'.2.2)) := (But.refl (· = sb) w2).setCell (p := ⟨sb, 5, none⟩) rfl _
  have hty : ∀ cur, w2.heap[sb]? ≠ some (.cells cur 64 (0, 0)) := by
    intro cur e
    unfold SBlk at hB
    rw [hB] at e
    simp at e
  exact ⟨hS.aside hb hsX hty, hB.path, Qft hR hb (fun g hg e => hne (by rw [hg, e])), hl, fun x hx => (hr x hx).but hb (fun g e => by rw [e]; exact hty)⟩
theorem WMem.push (h : WMem w X f sn lk d K sb mb now t I L s P) {w1 w2 : World} (hb1 : Below w.heap.size w w1) {g2 c2 : Nat} {x : PSt} (hown : w2.ownsRow 0 206 2 (.slice (some ⟨g2, 0, none⟩) (s.2.1 + 1) c2) (s.2.1 + 1) (Qar P ++ Qar [x])) (hg : w1.grownBy w2 (Value.slice s.1 s.2.1 s.2.2).ownBlock) (hwh : (Value.slice s.1 s.2.1 s.2.2).ownBlock = some g2 ∨ w1.heap.size ≤ g2) (hx : RestAt w x.2.1 x.2.2) :
    WMem (w2.setCell ⟨sb, 5, none⟩ (.slice (some ⟨g2, 0, none⟩) (s.2.1 + 1) c2)) X f sn lk d K sb mb now t I L (some ⟨g2, 0, none⟩, s.2.1 + 1, c2) (P ++ [x]) := by
  have h1 := h.still (But.ofBelow (S := fun _ => False) hb1)
  have hx1 := hx.but (But.ofBelow (S := fun _ => False) hb1) (fun _ h => h.elim)
  have hbu : But (fun i => (Value.slice s.1 s.2.1 s.2.2).ownBlock = some i) w1 w2 := ⟨hg.os, hg.tape, hg.output, hg.size, fun i hi hne => hg.block i hi (fun e => hne e.symm)⟩
  have hsl : sb < w1.heap.size := (Array.getElem?_eq_some_iff.1 h1.blk).1
  have hty : ∀ g, (Value.slice s.1 s.2.1 s.2.2).ownBlock = some g → ∀ cur, w1.heap[g]? ≠ some (.cells cur 64 (0, 0)) := by
    intro g hg9 cur e
    obtain ⟨cur2, h2⟩ := h1.own hg9
    rw [h2] at e
    simp at e
  have hS2 : CSto w2 X (mkF f sn) lk d K := by
    cases ho : (Value.slice s.1 s.2.1 s.2.2).ownBlock with
    | none =>
      rw [ho] at hbu
      exact h1.sto.still (hbu.mono (fun i e => by cases e))
    | some g =>
      rw [ho] at hbu
      exact h1.sto.aside (eb := g) (hbu.mono (fun i e => by simp only [Option.some.injEq] at e; exact e.symm)) (h1.ownX ho).1 (hty g ho)
  refine WMem.setPath (s := s) (s' := (some ⟨g2, 0, none⟩, s.2.1 + 1, c2)) hS2 ((hbu.block sb hsl (fun e => (h1.ownX e).2.1 rfl)).trans h1.blk) h.sbX (by rw [Qbz]; exact hown) (by simp [h.len]) ?_ ?_
  · intro y hy
    rcases List.mem_append.1 hy with hy | hy
    · exact (h1.rest y hy).but hbu hty
    · simp only [List.mem_singleton] at hy
      subst hy
      exact hx1.but hbu hty
  · intro e
    simp only [Value.ownBlock, Option.some.injEq] at e
    rcases hwh with h9 | h9
    · exact (h1.ownX h9).2.1 e
    · omega
end
end Go.Proofs.YtoiiibplkhedcaaGreatDoor

import Derived.Test.YtljdcaoibnikjaaWAW
import Derived.Test.YtljdcaoibnikjaaUTree
import Derived.Test.YtljdcaoibnikjaaNH
namespace Go.Proofs.Ytljdcaoibnikjaa

/-- What a store says, read as types without end: hd tells each cell's head. -/
def val (g : Nat → GC) (hd : Nat → Nat) : List Nat → Nat → Option Nd
  | [], i => some (g (hd i)).nd
  | j :: p, i => match (g (hd i)).ks[j]? with
    | some k => val g hd p k
    | none => none

theorem val_con (g : Nat → GC) (hd : Nat → Nat) (i : Nat) : (fun p => val g hd p i) = con (g (hd i)).nd ((g (hd i)).ks.map fun k => fun p => val g hd p k) := by
  funext p
  cases p with
  | nil => rfl
  | cons j p =>
    simp only [val, con, List.getElem?_map]
    cases (g (hd i)).ks[j]? <;> rfl

/-- It agrees with what the cells say: a store that was equated to its end has a solution. -/
theorem sat_val {X : Nat → Prop} {g : Nat → GC} {lk : Nat → Option Nat} {hd : Nat → Nat} (h1 : ∀ i j, lk i = some j → hd i = hd j) (h2 : ∀ i, lk i = none → hd i = i) : SatC X g lk (fun i p => val g hd p i) := by
  refine ⟨fun i j e => ?_, fun i _ hl _ => ?_⟩
  · show (fun p => val g hd p i) = fun p => val g hd p j
    rw [val_con, val_con, h1 i j e]
  · have := val_con g hd i
    rw [h2 i hl] at this
    exact this

/-- A type without end that has one, written out behind its kids. -/
def Fin'F (R : DT × List Nd → Prop) (x : DT × List Nd) : Prop :=
  (∃ (n : Nd) (ds : List DT) (xss : List (List Nd)), x = (con n ds, xss.flatten ++ [n]) ∧ (ds.length = xss.length) ∧ (∀ i (h1 : i < ds.length) (h2 : i < xss.length), R (ds[i], xss[i])))

structure Fin' (d : DT) (xs : List Nd) : Prop where
  of ::
  lfp : Lfp (Fin'F) (d, xs)

theorem Fin'.grows : Grows (Fin'F) := by
  rintro R R' x h0 ⟨n, ds, xss, e0, hl, h⟩
  · exact ⟨n, ds, xss, e0, hl, fun i h1 h2 => h0 _ (h i h1 h2)⟩

theorem Fin'.mk (n : Nd) (ds : List DT) (xss : List (List Nd)) (hl : ds.length = xss.length) (h : ∀ i (h1 : i < ds.length) (h2 : i < xss.length), Fin' (ds[i]) (xss[i])) : Fin' (con n ds) (xss.flatten ++ [n]) :=
  ⟨Lfp.fold (Fin'.grows) (⟨n, ds, xss, rfl, hl, fun i h1 h2 => (h i h1 h2).lfp⟩)⟩

theorem Fin'.elim {motive : ∀ d xs, Fin' d xs → Prop}
    (mk : ∀ (n : Nd) (ds : List DT) (xss : List (List Nd)) (hl : ds.length = xss.length) (h : ∀ i (h1 : i < ds.length) (h2 : i < xss.length), Fin' (ds[i]) (xss[i])), (∀ i (h1 : i < ds.length) (h2 : i < xss.length), motive (ds[i]) (xss[i]) (h i h1 h2)) → motive (con n ds) (xss.flatten ++ [n]) (Fin'.mk n ds xss hl h))
    {d : DT} {xs : List Nd} (h : Fin' d xs) : motive d xs h := by
  have key : ∀ h, motive (d, xs).1 (d, xs).2 h := Lfp.ind (Fin'.grows) (p := fun x => ∀ h, motive x.1 x.2 h) (by
    rintro x ⟨n, ds, xss, e0, hl, h⟩ h9
    · subst e0; exact mk n ds xss hl (fun i h1 h2 => ⟨(h i h1 h2).1⟩) (fun i h1 h2 => (h i h1 h2).2 _)) h.lfp
  exact key h

theorem Fin'.inv {motive : ∀ d xs, Fin' d xs → Prop}
    (mk : ∀ (n : Nd) (ds : List DT) (xss : List (List Nd)) (hl : ds.length = xss.length) (h : ∀ i (h1 : i < ds.length) (h2 : i < xss.length), Fin' (ds[i]) (xss[i])), motive (con n ds) (xss.flatten ++ [n]) (Fin'.mk n ds xss hl h))
    {d : DT} {xs : List Nd} (h : Fin' d xs) : motive d xs h := by
  induction h using Fin'.elim with
  | mk n ds xss hl h _ => exact mk n ds xss hl h

theorem Fin'.root {d : DT} {xs : List Nd} (h : Fin' d xs) : ∃ n, d [] = some n := by
  cases h using Fin'.inv with
  | mk n ds xss _ _ => exact ⟨n, rfl⟩

theorem con_len {n m : Nd} {ds es : List DT} (h : con n ds = con m es) (h1 : ∀ d ∈ ds, ∃ k, d [] = some k) (h2 : ∀ d ∈ es, ∃ k, d [] = some k) : ds.length = es.length := by
  have key : ∀ {n m : Nd} {ds es : List DT}, con n ds = con m es → (∀ d ∈ es, ∃ k, d [] = some k) → ¬ ds.length < es.length := by
    intro n m ds es h h2 hlt
    have h9 := congrFun h [ds.length]
    obtain ⟨k, hk⟩ := h2 es[ds.length] (List.getElem_mem hlt)
    simp [con, List.getElem?_eq_getElem hlt, hk] at h9
  have a := key h h2
  have b := key h.symm h1
  omega

/-- A type has one way of being written. -/
theorem Fin'.one {d : DT} {xs : List Nd} (h : Fin' d xs) : ∀ {ys : List Nd}, Fin' d ys → xs = ys := by
  induction h using Fin'.elim with
  | mk n ds xss hl h1 ih =>
    intro ys h'
    generalize hd : con n ds = d at h'
    cases h' using Fin'.inv with
    | mk m es yss hl' h2 =>
      obtain rfl := con_nd hd
      have r1 : ∀ d ∈ ds, ∃ k, d [] = some k := by
        intro d hm
        obtain ⟨i, hi, rfl⟩ := List.getElem_of_mem hm
        exact (h1 i hi (by omega)).root
      have r2 : ∀ d ∈ es, ∃ k, d [] = some k := by
        intro d hm
        obtain ⟨i, hi, rfl⟩ := List.getElem_of_mem hm
        exact (h2 i hi (by omega)).root
      have hlE := con_len hd r1 r2
      obtain rfl := con_kids hd hlE
      have : xss = yss := by
        apply List.ext_getElem (by omega)
        intro i h3 h4
        exact ih i (by omega) h3 (h2 i (by omega) h4)
      rw [this]

end Go.Proofs.Ytljdcaoibnikjaa

namespace Go.Proofs.Ytljdcaoibnikjaa

open Go.RowKit

/-- What equate leaves. -/
def ERes (X : Nat → Prop) (f : Nat → CC) (lk : Nat → Option Nat) (K : (Option Addr × Nat × Nat) → List Nat) (t : Int) (a b : Nat) (w : World) (e : Ending) (w' : World) : Prop :=
  But X w w' ∧ ((e = .returned .nilIface ∧ ∃ (f' : Nat → CC) (lk' : Nat → Option Nat) (d' : Nat → Nat), CSto w' X f' lk' d' K ∧ Ties X t f lk f' lk' ∧ ∀ θ, SatC X (gc K f') lk' θ ↔ SatC X (gc K f) lk θ ∧ θ a = θ b) ∨ ((∃ v, e = .returned (.iface 111 (.pointer (some v)))) ∧ (∃ f' lk' d', CSto w' X f' lk' d' K ∧ Ties X t f lk f' lk') ∧ ∀ θ, SatC X (gc K f) lk θ → θ a ≠ θ b))

set_option maxRecDepth 20000 in
set_option maxHeartbeats 4000000 in
theorem equate_any (X : Nat → Prop) (f : Nat → CC) (lk : Nat → Option Nat) (d : Nat → Nat) (K : (Option Addr × Nat × Nat) → List Nat) (w : World) (a b : Nat) (rt : List Nat) (hS : CSto w X f lk d K) (hroots : ∀ i, X i → lk i = none → i ∈ rt) (hrt : rt.length ≤ 10000000) (hXa : X a) (hXb : X b)
    (sb : Nat) (t : Int) (hsX : ¬ X sb) (hst : w.cell? ⟨sb, 1, none⟩ = some (.int .i64 t)) :
    Calls Try.prog 28 #[.pointer (some ⟨sb, 0, none⟩), .pointer (some ⟨a, 0, none⟩), .pointer (some ⟨b, 0, none⟩)] w fun e w' => ERes X f lk K t a b w e w' := by
  have hb0 : Below w.heap.size w (w.alloc (.cells #[.pointer (some ⟨sb, 0, none⟩)] 55)) := (Below.refl _ w).alloc (Nat.le_refl _) _
  have hb1 := hb0.alloc hb0.size (.cells #[.nilIface] 58)
  have hb2 := hb1.alloc hb1.size (.cells #[.pointer (some ⟨a, 0, none⟩), .pointer (some ⟨b, 0, none⟩)] 82)
  have hBF : But (fun _ => False) w (((w.alloc (.cells #[.pointer (some ⟨sb, 0, none⟩)] 55)).alloc (.cells #[.nilIface] 58)).alloc (.cells #[.pointer (some ⟨a, 0, none⟩), .pointer (some ⟨b, 0, none⟩)] 82)) := But.ofBelow hb2
  have hBX : But X w (((w.alloc (.cells #[.pointer (some ⟨sb, 0, none⟩)] 55)).alloc (.cells #[.nilIface] 58)).alloc (.cells #[.pointer (some ⟨a, 0, none⟩), .pointer (some ⟨b, 0, none⟩)] 82)) := But.ofBelow hb2
  have hlX : ∀ i, X i → i < w.heap.size := fun i hi => (hS.cells.at' i hi).lt
  have hsl : sb < w.heap.size := lt_of_cell hst
  have hz : (((w.alloc (.cells #[.pointer (some ⟨sb, 0, none⟩)] 55)).alloc (.cells #[.nilIface] 58)).alloc (.cells #[.pointer (some ⟨a, 0, none⟩), .pointer (some ⟨b, 0, none⟩)] 82)).heap.size = w.heap.size + 3 := by simp
  have k0 : (((w.alloc (.cells #[.pointer (some ⟨sb, 0, none⟩)] 55)).alloc (.cells #[.nilIface] 58)).alloc (.cells #[.pointer (some ⟨a, 0, none⟩), .pointer (some ⟨b, 0, none⟩)] 82)).heap[w.heap.size]? = some (.cells #[.pointer (some ⟨sb, 0, none⟩)] 55 (0, 0)) := by
    rw [heap_alloc_old _ _ (by simp; omega), heap_alloc_old _ _ (by simp)]
    exact heap_alloc_new _ _
  have k1 : (((w.alloc (.cells #[.pointer (some ⟨sb, 0, none⟩)] 55)).alloc (.cells #[.nilIface] 58)).alloc (.cells #[.pointer (some ⟨a, 0, none⟩), .pointer (some ⟨b, 0, none⟩)] 82)).heap[w.heap.size + 1]? = some (.cells #[.nilIface] 58 (0, 0)) := by
    rw [heap_alloc_old _ _ (by simp)]
    have h9 := heap_alloc_new (w.alloc (.cells #[.pointer (some ⟨sb, 0, none⟩)] 55)) (.cells #[.nilIface] 58)
    simpa using h9
  have k2 : (((w.alloc (.cells #[.pointer (some ⟨sb, 0, none⟩)] 55)).alloc (.cells #[.nilIface] 58)).alloc (.cells #[.pointer (some ⟨a, 0, none⟩), .pointer (some ⟨b, 0, none⟩)] 82)).heap[w.heap.size + 1 + 1]? = some (.cells #[.pointer (some ⟨a, 0, none⟩), .pointer (some ⟨b, 0, none⟩)] 82 (0, 0)) := by
    have h9 := heap_alloc_new ((w.alloc (.cells #[.pointer (some ⟨sb, 0, none⟩)] 55)).alloc (.cells #[.nilIface] 58)) (.cells #[.pointer (some ⟨a, 0, none⟩), .pointer (some ⟨b, 0, none⟩)] 82)
    simpa using h9
  have hBx : Boxes (((w.alloc (.cells #[.pointer (some ⟨sb, 0, none⟩)] 55)).alloc (.cells #[.nilIface] 58)).alloc (.cells #[.pointer (some ⟨a, 0, none⟩), .pointer (some ⟨b, 0, none⟩)] 82)) X (w.heap.size + 1) w.heap.size sb .nilIface t :=
    ⟨k1, k0, (hBX.cellB hsl hsX).trans hst, fun h => by have := hlX _ h; omega, fun h => by have := hlX _ h; omega, hsX, by omega, by omega⟩
  have hS1 : CSto (((w.alloc (.cells #[.pointer (some ⟨sb, 0, none⟩)] 55)).alloc (.cells #[.nilIface] 58)).alloc (.cells #[.pointer (some ⟨a, 0, none⟩), .pointer (some ⟨b, 0, none⟩)] 82)) X f lk d K := hS.short (hS.cells.but hBF (fun _ _ h => h)) hS.acyc hBX
  have hown : (((w.alloc (.cells #[.pointer (some ⟨sb, 0, none⟩)] 55)).alloc (.cells #[.nilIface] 58)).alloc (.cells #[.pointer (some ⟨a, 0, none⟩), .pointer (some ⟨b, 0, none⟩)] 82)).ownsRow (w.heap.size + 1 + 1) 82 2 (.slice (some ⟨w.heap.size + 1 + 1, 0, none⟩) 1 1) 1 (pcells [(a, b)]) :=
    ⟨rfl, Or.inr ⟨_, 1, _, rfl, Nat.le_refl _, k2, Nat.le_refl _, by simp [maxLen], rfl, rfl⟩⟩
  have hW : Work X f lk K (w.heap.size + 1) w.heap.size sb t a b (w.heap.size + 1 + 1) (1 + rt.length * 20000) (((w.alloc (.cells #[.pointer (some ⟨sb, 0, none⟩)] 55)).alloc (.cells #[.nilIface] 58)).alloc (.cells #[.pointer (some ⟨a, 0, none⟩), .pointer (some ⟨b, 0, none⟩)] 82)) (.slice (some ⟨w.heap.size + 1 + 1, 0, none⟩) 1 1) (((w.alloc (.cells #[.pointer (some ⟨sb, 0, none⟩)] 55)).alloc (.cells #[.nilIface] 58)).alloc (.cells #[.pointer (some ⟨a, 0, none⟩), .pointer (some ⟨b, 0, none⟩)] 82)) (rt.length * 20001 + 1) :=
    ⟨1, _, 1, [(a, b)], rfl, by omega, hown, rfl, But.refl _ _, by simp [hXa, hXb], .inl ⟨hBx, f, lk, d, rt, hS1, rfl, Nat.le_refl _, hroots, Ties.refl _ _ _ _, fun θ => by simp⟩⟩
  have HU := untilP_any X f lk K (w.heap.size + 1) w.heap.size sb t a b (w.heap.size + 1 + 1) (1 + rt.length * 20000) (by omega) (((w.alloc (.cells #[.pointer (some ⟨sb, 0, none⟩)] 55)).alloc (.cells #[.nilIface] 58)).alloc (.cells #[.pointer (some ⟨a, 0, none⟩), .pointer (some ⟨b, 0, none⟩)] 82)) (w.heap.size + 1 + 1) _ (fun i hi => by have := hlX i hi; omega) (by omega) (by omega) (by omega) hW
  have HBX : Hid (∀ w', But (fun i => X i ∨ i = w.heap.size + 1 ∨ w.heap.size + 1 + 1 ≤ i) (((w.alloc (.cells #[.pointer (some ⟨sb, 0, none⟩)] 55)).alloc (.cells #[.nilIface] 58)).alloc (.cells #[.pointer (some ⟨a, 0, none⟩), .pointer (some ⟨b, 0, none⟩)] 82)) w' → But X w w') := by
    intro w' h
    refine ⟨h.os.trans hBX.os, h.tape.trans hBX.tape, h.output.trans hBX.output, Nat.le_trans hBX.size h.size, fun i hi hn => ?_⟩
    refine (h.block i (Nat.lt_of_lt_of_le hi hBX.size) ?_).trans (hBX.block i hi hn)
    rintro (h9 | h9 | h9)
    · exact hn h9
    · omega
    · omega
  clear hW hown hS1 hBx k0 k1 k2 hBF hBX hb0 hb1 hb2 hS hroots hst hlX
  go_enter Try.func28, Try.ntmps28
  go_wp2_with fail
  refine HU.mono ?_
  rintro e w1 ⟨rfl, v, n, ⟨k, g, c, Q, rfl, hk, hown, hQ, hB, hQX, hres⟩, hlen⟩
  have hk0 : k = 0 := hlen
  subst hk0
  obtain rfl : Q = [] := List.eq_nil_of_length_eq_zero hQ
  have HB := HBX.out w1 hB
  clear HU HBX hown hB hQX hlen hz
  rcases hres with ⟨hBx, f', lk', d', rt', hS', _, _, _, hTi, hθ⟩ | ⟨_, ⟨v, hBx⟩, ⟨f', lk', d', hS', hTi⟩, hno⟩
  · have qe : w1.cell? ⟨w.heap.size + 1, 0, none⟩ = some .nilIface := by rw [cell_of_row _ _ _ _ 58 (0, 0) hBx.e]; rfl
    have HR : Hid (∃ (f' : Nat → CC) (lk' : Nat → Option Nat) (d' : Nat → Nat), CSto w1 X f' lk' d' K ∧ Ties X t f lk f' lk' ∧ ∀ θ, SatC X (gc K f') lk' θ ↔ SatC X (gc K f) lk θ ∧ θ a = θ b) := ⟨f', lk', d', hS', hTi, fun θ => by rw [← hθ θ]; simp⟩
    clear hBx hS' hθ
    go_wp2
    go_ret
    exact ⟨HB, .inl ⟨rfl, HR.out⟩⟩
  · have qe : w1.cell? ⟨w.heap.size + 1, 0, none⟩ = some (.iface 111 (.pointer (some v))) := by rw [cell_of_row _ _ _ _ 58 (0, 0) hBx.e]; rfl
    have HR : Hid (∃ f' lk' d', CSto w1 X f' lk' d' K ∧ Ties X t f lk f' lk') := ⟨f', lk', d', hS', hTi⟩
    clear hBx hS' hTi
    go_wp2
    go_ret
    exact ⟨HB, .inr ⟨⟨_, rfl⟩, HR.out, hno⟩⟩

end Go.Proofs.Ytljdcaoibnikjaa

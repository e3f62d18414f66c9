
import Derived.Test.YtljdcaoibnikjaaNH
namespace Go.Proofs.Ytljdcaoibnikjaa
open Go.RowKit

/-- What equate leaves. -/
def ERes (X : Nat → Prop) (f : Nat → CC) (lk : Nat → Option Nat) (K : (Option Addr × Nat × Nat) → List Nat) (t : Int) (a b : Nat) (w : World) (e : Ending) (w' : World) : Prop :=
  But X w w' ∧ ((e = .returned .nilIface ∧ ∃ (f' : Nat → CC) (lk' : Nat → Option Nat) (d' : Nat → Nat), CSto w' X f' lk' d' K ∧ Ties X t f lk f' lk' ∧ ∀ θ, SatC X (gc K f') lk' θ ↔ SatC X (gc K f) lk θ ∧ θ a = θ b) ∨ ((∃ v, e = .returned (.iface 111 (.pointer (some v)))) ∧ (∃ f' lk' d', CSto w' X f' lk' d' K ∧ Ties X t f lk f' lk') ∧ ∀ θ, SatC X (gc K f) lk θ → θ a ≠ θ b))

set_option maxRecDepth 20000 in
set_option maxHeartbeats 4000000 in
theorem equate_any (X : Nat → Prop) (f : Nat → CC) (lk : Nat → Option Nat) (d : Nat → Nat) (K : (Option Addr × Nat × Nat) → List Nat) (w : World) (a b : Nat) (rt : List Nat) (hS : CSto w X f lk d K) (hroots : ∀ i, X i → lk i = none → i ∈ rt) (hrt : rt.length ≤ 10000000) (hXa : X a) (hXb : X b)
    (sb : Nat) (t : Int) (hsX : ¬ X sb) (hst : w.cell? ⟨sb, 1, none⟩ = some (.int .i64 t)) :
    Calls Try.prog 28 #[.pointer (some ⟨sb, 0, none⟩), .pointer (some ⟨a, 0, none⟩), .pointer (some ⟨b, 0, none⟩)] w fun e w' => ERes X f lk K t a b w e w' := by
  have hb0 : Below w.heap.size w (w.alloc (.cells #[.pointer (some ⟨sb, 0, none⟩)] 55)) := (Below.refl _ w).alloc (Nat.le_refl _) _
  have hb1 := hb0.alloc hb0.size (.cells #[.nilIface] 58)
  have hb2 := hb1.alloc hb1.size (.cells #[.pointer (some ⟨a, 0, none⟩), .pointer (some ⟨b, 0, none⟩)] 82)
  have hBF : But (fun _ => False) w (((w.alloc (.cells #[.pointer (some ⟨sb, 0, none⟩)] 55)).alloc (.cells #[.nilIface] 58)).alloc (.cells #[.pointer (some ⟨a, 0, none⟩), .pointer (some ⟨b, 0, none⟩)] 82)) := But.ofBelow hb2
  have hBX : But X w (((w.alloc (.cells #[.pointer (some ⟨sb, 0, none⟩)] 55)).alloc (.cells #[.nilIface] 58)).alloc (.cells #[.pointer (some ⟨a, 0, none⟩), .pointer (some ⟨b, 0, none⟩)] 82)) := But.ofBelow hb2
  have hlX : ∀ i, X i → i < w.heap.size := fun i hi => (hS.cells.at' i hi).lt
  have hsl : sb < w.heap.size := lt_of_cell hst
  have hz : (((w.alloc (.cells #[.pointer (some ⟨sb, 0, none⟩)] 55)).alloc (.cells #[.nilIface] 58)).alloc (.cells #[.pointer (some ⟨a, 0, none⟩), .pointer (some ⟨b, 0, none⟩)] 82)).heap.size = w.heap.size + 3 := by simp
  have k0 : (((w.alloc (.cells #[.pointer (some ⟨sb, 0, none⟩)] 55)).alloc (.cells #[.nilIface] 58)).alloc (.cells #[.pointer (some ⟨a, 0, none⟩), .pointer (some ⟨b, 0, none⟩)] 82)).heap[w.heap.size]? = some (.cells #[.pointer (some ⟨sb, 0, none⟩)] 55 (0, 0)) := by
    rw [heap_alloc_old _ _ (by simp; omega), heap_alloc_old _ _ (by simp)]
    exact heap_alloc_new _ _
  have k1 : (((w.alloc (.cells #[.pointer (some ⟨sb, 0, none⟩)] 55)).alloc (.cells #[.nilIface] 58)).alloc (.cells #[.pointer (some ⟨a, 0, none⟩), .pointer (some ⟨b, 0, none⟩)] 82)).heap[w.heap.size + 1]? = some (.cells #[.nilIface] 58 (0, 0)) := by
    rw [heap_alloc_old _ _ (by simp)]
    have h9 := heap_alloc_new (w.alloc (.cells #[.pointer (some ⟨sb, 0, none⟩)] 55)) (.cells #[.nilIface] 58)
    simpa using h9
  have k2 : (((w.alloc (.cells #[.pointer (some ⟨sb, 0, none⟩)] 55)).alloc (.cells #[.nilIface] 58)).alloc (.cells #[.pointer (some ⟨a, 0, none⟩), .pointer (some ⟨b, 0, none⟩)] 82)).heap[w.heap.size + 1 + 1]? = some (.cells #[.pointer (some ⟨a, 0, none⟩), .pointer (some ⟨b, 0, none⟩)] 82 (0, 0)) := by
    have h9 := heap_alloc_new ((w.alloc (.cells #[.pointer (some ⟨sb, 0, none⟩)] 55)).alloc (.cells #[.nilIface] 58)) (.cells #[.pointer (some ⟨a, 0, none⟩), .pointer (some ⟨b, 0, none⟩)] 82)
    simpa using h9
  have hBx : Boxes (((w.alloc (.cells #[.pointer (some ⟨sb, 0, none⟩)] 55)).alloc (.cells #[.nilIface] 58)).alloc (.cells #[.pointer (some ⟨a, 0, none⟩), .pointer (some ⟨b, 0, none⟩)] 82)) X (w.heap.size + 1) w.heap.size sb .nilIface t :=
    ⟨k1, k0, (hBX.cellB hsl hsX).trans hst, fun h => by have := hlX _ h; omega, fun h => by have := hlX _ h; omega, hsX, by omega, by omega⟩
  have hS1 : CSto (((w.alloc (.cells #[.pointer (some ⟨sb, 0, none⟩)] 55)).alloc (.cells #[.nilIface] 58)).alloc (.cells #[.pointer (some ⟨a, 0, none⟩), .pointer (some ⟨b, 0, none⟩)] 82)) X f lk d K := hS.short (hS.cells.but hBF (fun _ _ h => h)) hS.acyc hBX
  have hown : (((w.alloc (.cells #[.pointer (some ⟨sb, 0, none⟩)] 55)).alloc (.cells #[.nilIface] 58)).alloc (.cells #[.pointer (some ⟨a, 0, none⟩), .pointer (some ⟨b, 0, none⟩)] 82)).ownsRow (w.heap.size + 1 + 1) 82 2 (.slice (some ⟨w.heap.size + 1 + 1, 0, none⟩) 1 1) 1 (pcells [(a, b)]) :=
    ⟨rfl, Or.inr ⟨_, 1, _, rfl, Nat.le_refl _, k2, Nat.le_refl _, by simp [maxLen], rfl, rfl⟩⟩
  have hW : Work X f lk K (w.heap.size + 1) w.heap.size sb t a b (w.heap.size + 1 + 1) (1 + rt.length * 20000) (((w.alloc (.cells #[.pointer (some ⟨sb, 0, none⟩)] 55)).alloc (.cells #[.nilIface] 58)).alloc (.cells #[.pointer (some ⟨a, 0, none⟩), .pointer (some ⟨b, 0, none⟩)] 82)) (.slice (some ⟨w.heap.size + 1 + 1, 0, none⟩) 1 1) (((w.alloc (.cells #[.pointer (some ⟨sb, 0, none⟩)] 55)).alloc (.cells #[.nilIface] 58)).alloc (.cells #[.pointer (some ⟨a, 0, none⟩), .pointer (some ⟨b, 0, none⟩)] 82)) (rt.length * 20001 + 1) :=
    ⟨1, _, 1, [(a, b)], rfl, by omega, hown, rfl, But.refl _ _, by simp [hXa, hXb], .inl ⟨hBx, f, lk, d, rt, hS1, rfl, Nat.le_refl _, hroots, Ties.refl _ _ _ _, fun θ => by simp⟩⟩
  have HU := untilP_any X f lk K (w.heap.size + 1) w.heap.size sb t a b (w.heap.size + 1 + 1) (1 + rt.length * 20000) (by omega) (((w.alloc (.cells #[.pointer (some ⟨sb, 0, none⟩)] 55)).alloc (.cells #[.nilIface] 58)).alloc (.cells #[.pointer (some ⟨a, 0, none⟩), .pointer (some ⟨b, 0, none⟩)] 82)) (w.heap.size + 1 + 1) _ (fun i hi => by have := hlX i hi; omega) (by omega) (by omega) (by omega) hW
  have HBX : Hid (∀ w', But (fun i => X i ∨ i = w.heap.size + 1 ∨ w.heap.size + 1 + 1 ≤ i) (((w.alloc (.cells #[.pointer (some ⟨sb, 0, none⟩)] 55)).alloc (.cells #[.nilIface] 58)).alloc (.cells #[.pointer (some ⟨a, 0, none⟩), .pointer (some ⟨b, 0, none⟩)] 82)) w' → But X w w') := by
    intro w' h
    refine ⟨h.os.trans hBX.os, h.tape.trans hBX.tape, h.output.trans hBX.output, Nat.le_trans hBX.size h.size, fun i hi hn => ?_⟩
    refine (h.block i (Nat.lt_of_lt_of_le hi hBX.size) ?_).trans (hBX.block i hi hn)
    rintro (h9 | h9 | h9)
    · exact hn h9
    · omega
    · omega
  clear hW hown hS1 hBx k0 k1 k2 hBF hBX hb0 hb1 hb2 hS hroots hst hlX
  go_enter Try.func28, Try.ntmps28
  go_wp2_with fail
  refine HU.mono ?_
  rintro e w1 ⟨rfl, v, n, ⟨k, g, c, Q, rfl, hk, hown, hQ, hB, hQX, hres⟩, hlen⟩
  have hk0 : k = 0 := hlen
  subst hk0
  obtain rfl : Q = [] := List.eq_nil_of_length_eq_zero hQ
  have HB := HBX.out w1 hB
  clear HU HBX hown hB hQX hlen hz
  rcases hres with ⟨hBx, f', lk', d', rt', hS', _, _, _, hTi, hθ⟩ | ⟨_, ⟨v, hBx⟩, ⟨f', lk', d', hS', hTi⟩, hno⟩
  · have qe : w1.cell? ⟨w.heap.size + 1, 0, none⟩ = some .nilIface := by rw [cell_of_row _ _ _ _ 58 (0, 0) hBx.e]; rfl
    have HR : Hid (∃ (f' : Nat → CC) (lk' : Nat → Option Nat) (d' : Nat → Nat), CSto w1 X f' lk' d' K ∧ Ties X t f lk f' lk' ∧ ∀ θ, SatC X (gc K f') lk' θ ↔ SatC X (gc K f) lk θ ∧ θ a = θ b) := ⟨f', lk', d', hS', hTi, fun θ => by rw [← hθ θ]; simp⟩
    clear hBx hS' hθ
    go_wp2
    go_ret
    exact ⟨HB, .inl ⟨rfl, HR.out⟩⟩
  · have qe : w1.cell? ⟨w.heap.size + 1, 0, none⟩ = some (.iface 111 (.pointer (some v))) := by rw [cell_of_row _ _ _ _ 58 (0, 0) hBx.e]; rfl
    have HR : Hid (∃ f' lk' d', CSto w1 X f' lk' d' K ∧ Ties X t f lk f' lk') := ⟨f', lk', d', hS', hTi⟩
    clear hBx hS' hTi
    go_wp2
    go_ret
    exact ⟨HB, .inr ⟨⟨_, rfl⟩, HR.out, hno⟩⟩

end Go.Proofs.Ytljdcaoibnikjaa

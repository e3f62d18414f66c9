import Derived.Test.YtljdcaoibnikjaaNV
import Derived.Test.YtljdcaoibnikjaaNW
import Derived.Test.YtljdcaoibnikjaaSInst
namespace Go.Proofs.Ytljdcaoibnikjaa
open Go.RowKit Go.Maps

def metaNd (x : Int) : Nd := ⟨61, x, ByteArray.empty, 0, 0⟩

theorem plain_metaQ {n : Nd} (h : n.plainb = true) (h61 : n.kind = 61) : n = metaNd n.num := by
  obtain ⟨kd, nm, tx, ks, pl⟩ := n
  simp only at h61
  subst h61
  unfold Nd.plainb at h
  simp only [Bool.and_eq_true, Bool.or_eq_true, beq_iff_eq, decide_eq_true_eq] at h
  obtain ⟨h1, h2⟩ := h
  subst h1
  have h3 : ks = 0 ∧ tx.size = 0 := by
    rcases h2 with (h2 | h2) | h2
    · exact ⟨h2.1.1.2, h2.2⟩
    · omega
    · omega
  obtain ⟨rfl, h4⟩ := h3
  have h5 : tx = ByteArray.empty := by
    obtain ⟨dt⟩ := tx
    have : dt = #[] := Array.eq_empty_of_size_eq_zero h4
    subst this
    rfl
  subst h5
  rfl

theorem sat_weak {X : Nat → Prop} {f : Nat → CC} {lk : Nat → Option Nat} {K : (Option Addr × Nat × Nat) → List Nat} {θ : Nat → DT} (h : SatC X (gcv K f) lk θ) : SatC X (gc K f) lk θ :=
  ⟨h.1, fun i hi hl _ => h.2 i hi hl rfl⟩

section
variable {w0 w1 w2 : World} {sb mb : Nat} {t0 : Int} {ok1 ok2 : (Int → DT) → Prop} {d : Nat → Nat} {f0 : Nat → CC} {K0 : (Option Addr × Nat × Nat) → List Nat} {L : Nat} {g t : List Nd} {b1 n1 b2 n2 L2 : Nat} {X1 X2 : Nat → Prop} {f1 f2 f' : Nat → CC} {K1 K2 : (Option Addr × Nat × Nat) → List Nat} {U1 U2 : Int → Int → Option Nat} {D1 D2 : DataW Value} {rt1 rt2 : List Nat} {lk' : Nat → Option Nat}

theorem inst_self (T1 : Taken w0 w1 sb mb 0 t0 1 ok1 (fun _ => False) f0 (fun _ => none) d K0 (fun _ _ => none) L g b1 n1 X1 f1 K1 U1 D1 rt1) (T2 : Taken w1 w2 sb mb n1 t0 0 ok2 X1 f1 (fun _ => none) d K1 U1 L2 t b2 n2 X2 f2 K2 U2 D2 rt2) {θ : Nat → DT} (hs : SatC X2 (gc K2 f2) (fun _ => none) θ) : Ev selfT t (θ b2) := by
  refine (T2.mean θ hs).asSelf (fun n hn h61 => ?_)
  have hu : U1 0 n.num = none := by rw [T1.grow.other 0 n.num (by omega)]
  obtain ⟨b, h1, h2, h3, h4⟩ := T2.leaf n hn h61 hu
  unfold sg
  rw [h1]
  have h9 := hs.2 b h4 h3 (by rw [h2]; rfl)
  rw [h2] at h9
  exact h9

theorem inst_good (T1 : Taken w0 w1 sb mb 0 t0 1 ok1 (fun _ => False) f0 (fun _ => none) d K0 (fun _ _ => none) L g b1 n1 X1 f1 K1 U1 D1 rt1) (T2 : Taken w1 w2 sb mb n1 t0 0 ok2 X1 f1 (fun _ => none) d K1 U1 L2 t b2 n2 X2 f2 K2 U2 D2 rt2)
    (hE : ∀ θ, SatC X2 (gc K2 f') lk' θ ↔ SatC X2 (gc K2 f2) (fun _ => none) θ ∧ θ b1 = θ b2) {θ : Nat → DT} (hs : SatC X2 (gcv K2 f') lk' θ) :
    ∃ ρ : Int → List Nd, (∀ x b, U2 1 x = some b → Ev selfT (ρ x) (θ b)) ∧ fill ρ g = t ∧ ∀ x, (∃ b, U2 1 x = some b) ↔ x ∈ metas g := by
  obtain ⟨s2, e12⟩ := (hE θ).1 (sat_weak hs)
  have m2 := inst_self T1 T2 s2
  have s1 := T2.grow.back s2
  have m1 := T1.mean θ s1
  rw [e12] at m1
  obtain ⟨c1, c2⟩ := m1.back m2
  have hU : ∀ x, U2 1 x = U1 1 x := fun x => T2.grow.other 1 x (by omega)
  have hk : ∀ x, ∃ xs, ∀ b, U2 1 x = some b → Ev selfT xs (θ b) := by
    intro x
    cases e : U2 1 x with
    | none => exact ⟨[], fun b h => by cases h⟩
    | some b =>
      have e1 := e
      rw [hU] at e1
      rcases T1.src x b e1 with h9 | ⟨y, hy, h61, rfl⟩
      · cases h9
      · obtain ⟨xs, hxs⟩ := c1 y hy h61
        unfold sg at hxs
        rw [e1] at hxs
        exact ⟨xs, fun b' h => by cases h; exact hxs⟩
  obtain ⟨ρ, hρ⟩ := Classical.axiomOfChoice hk
  refine ⟨ρ, hρ, c2 ρ (fun n hn h61 => ?_), fun x => ⟨?_, fun hx => ?_⟩⟩
  · obtain ⟨b, hb⟩ := T1.known n hn h61
    unfold sg
    rw [hb]
    exact hρ n.num b (by rw [hU]; exact hb)
  · rintro ⟨b, hb⟩
    rw [hU] at hb
    rcases T1.src x b hb with h9 | ⟨y, hy, h61, rfl⟩
    · cases h9
    · exact List.mem_map.2 ⟨y, List.mem_filter.2 ⟨hy, by simpa using h61⟩, rfl⟩
  · obtain ⟨y, hy, rfl⟩ := List.mem_map.1 hx
    obtain ⟨hy1, hy2⟩ := List.mem_filter.1 hy
    obtain ⟨b, hb⟩ := T1.known y hy1 (by simpa using hy2)
    exact ⟨b, by rw [hU]; exact hb⟩

theorem inst_bad (T1 : Taken w0 w1 sb mb 0 t0 1 ok1 (fun _ => False) f0 (fun _ => none) d K0 (fun _ _ => none) L g b1 n1 X1 f1 K1 U1 D1 rt1) (T2 : Taken w1 w2 sb mb n1 t0 0 ok2 X1 f1 (fun _ => none) d K1 U1 L2 t b2 n2 X2 f2 K2 U2 D2 rt2) (hok1 : ∀ ρ, ok1 ρ) (hok2 : ∃ ρ, ok2 ρ)
    (hno : ∀ θ, SatC X2 (gc K2 f2) (fun _ => none) θ → θ b1 ≠ θ b2) : InstNo g t := by
  intro ρ hρ hfill
  have hk : ∀ x, ∃ dd : DT, ∀ e, Ev selfT (ρ x) e → Ev selfT (ρ x) dd := by
    intro x
    by_cases h : ∃ e, Ev selfT (ρ x) e
    · obtain ⟨e, he⟩ := h
      exact ⟨e, fun _ _ => he⟩
    · exact ⟨fun _ => none, fun e he => absurd ⟨e, he⟩ h⟩
  obtain ⟨ρ1, hρ1⟩ := Classical.axiomOfChoice hk
  obtain ⟨ρ2, hρ2⟩ := hok2
  obtain ⟨θ1, s1, _, v1⟩ := T1.grow.on (fun _ _ => none) ⟨(fun i j e => by cases e), fun i (hi : False) => hi.elim⟩ ρ1 (hok1 ρ1)
  obtain ⟨θ2, s2, a2, _⟩ := T2.grow.on θ1 s1 ρ2 hρ2
  have m2 := inst_self T1 T2 s2
  have m1 := T1.mean θ1 s1
  have hD : Ev selfT (fill ρ g) (θ2 b2) := by rw [hfill]; exact m2
  have hcut := m1.cut hρ hD
  have m3 := m1.forth (ρ := ρ) (fun n hn h61 => by
    obtain ⟨b, hb⟩ := T1.known n hn h61
    obtain ⟨e, he⟩ := hcut n hn h61
    unfold sg
    rw [hb]
    simp only
    rw [v1 n.num b rfl hb]
    exact hρ1 n.num e he)
  rw [hfill] at m3
  have e9 := m3.fun m2
  exact hno θ2 s2 (by rw [a2 b1 T1.inX]; exact e9)
end

end Go.Proofs.Ytljdcaoibnikjaa

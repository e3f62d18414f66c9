import Derived.Test.YtljdcaoibnikjaaNU
namespace Go.Proofs.Ytljdcaoibnikjaa

open Go.RowKit Go.Maps

/-- What take leaves. -/
structure Taken (w w' : World) (sb mb n : Nat) (t lv : Int) (ok : (Int → DT) → Prop) (X : Nat → Prop) (f : Nat → CC) (lk : Nat → Option Nat) (d : Nat → Nat) (K : (Option Addr × Nat × Nat) → List Nat) (U : Int → Int → Option Nat) (L : Nat) (ty : List Nd) (b n' : Nat) (X' : Nat → Prop) (f' : Nat → CC) (K' : (Option Addr × Nat × Nat) → List Nat) (U' : Int → Int → Option Nat) (D' : DataW Value) (rt : List Nat) : Prop where
  num : n' ≤ n + ty.length
  stor : Stor w' sb mb n' t X' f' lk d K' U' D'
  grow : Grow lv ok X f lk K U X' f' lk K' U'
  inX : X' b
  mean : ∀ θ, SatC X' (gc K' f') lk θ → Ev (sg U' lv θ) ty (θ b)
  known : ∀ x ∈ ty, x.kind = 61 → ∃ b, U' lv x.num = some b
  roots : (∀ i, X' i → i ∈ rt) ∧ rt.length ≤ L + ty.length
  old : But (fun i => i = mb) w w'
  src : ∀ x c, U' lv x = some c → U lv x = some c ∨ ∃ y ∈ ty, y.kind = 61 ∧ y.num = x
  leaf : ∀ y ∈ ty, y.kind = 61 → U lv y.num = none → ∃ b, U' lv y.num = some b ∧ gc K' f' b = ⟨y, [], decide (1 ≤ lv)⟩ ∧ lk b = none ∧ X' b
  fresh : ∀ i, X' i → X i ∨ w.heap.size ≤ i
  nds : ∀ i, X' i → X i ∨ (f' i).nd ∈ ty
  um : ∀ i, X' i → ¬ X i → (f' i).nd.kind = 61 → U' lv (f' i).nd.num = some i

set_option maxRecDepth 20000 in
set_option maxHeartbeats 8000000 in
theorem take_any (w : World) (sb mb n : Nat) (hn : n ≤ 500000) (t lv : Int) (ok : (Int → DT) → Prop) (X : Nat → Prop) (f : Nat → CC) (lk : Nat → Option Nat) (d : Nat → Nat) (K : (Option Addr × Nat × Nat) → List Nat) (U : Int → Int → Option Nat) (D : DataW Value) (hS : Stor w sb mb n t X f lk d K U D) (w1 : (Lit.int .i64 lv).wf = true) (hlv0 : lv = 0 ∨ lv = 1)
    (ty : List Nd) (m : Nat) (HM : Hid (ty.length = m)) (hm : m ≤ 300) (hm0 : 0 < m) (HW : Hid (∀ x ∈ ty, (Lit.int .i64 x.num).wf = true)) (HL : Hid (Leafy ty)) (HUQ : Hid (∀ a ∈ ty, ∀ b ∈ ty, a.kind = 61 → b.kind = 61 → a.num = b.num → a = b)) (S : List Sp) (ys : List Sp) (HA : Hid (after ty m = some (S, ys))) (hS1 : S.length = 1) (HOK : Hid (∀ ρ, ok ρ → lv = 0 → ∀ x ∈ ty, x.kind = 61 → ρ x.num = selfT x)) (L : Nat) (rt : List Nat) (hrt : (∀ i, X i → i ∈ rt) ∧ rt.length ≤ L) (ao : Option Addr) (cap : Nat) (hx : Nodes w ao ty) :
    Calls Try.prog 29 #[.pointer (some ⟨sb, 0, none⟩), .slice ao m cap, .int .i64 lv] w fun e w' => ∃ b n' X' f' K' U' D' rt', e = .returned (.pointer (some ⟨b, 0, none⟩)) ∧ Taken w w' sb mb n t lv ok X f lk d K U L ty b n' X' f' K' U' D' rt' := by
  have hb0 : Below w.heap.size w (w.alloc (.cells #[.pointer (some ⟨sb, 0, none⟩)] 55)) := (Below.refl _ w).alloc (Nat.le_refl _) _
  have hb1 := hb0.alloc hb0.size (.cells #[.int .i64 lv] 3)
  have k0 : ((w.alloc (.cells #[.pointer (some ⟨sb, 0, none⟩)] 55)).alloc (.cells #[.int .i64 lv] 3)).heap[w.heap.size]? = some (.cells #[.pointer (some ⟨sb, 0, none⟩)] 55 (0, 0)) := by
    rw [heap_alloc_old _ _ (by simp)]
    exact heap_alloc_new _ _
  have k1 : ((w.alloc (.cells #[.pointer (some ⟨sb, 0, none⟩)] 55)).alloc (.cells #[.int .i64 lv] 3)).heap[w.heap.size + 1]? = some (.cells #[.int .i64 lv] 3 (0, 0)) := by
    have h9 := heap_alloc_new (w.alloc (.cells #[.pointer (some ⟨sb, 0, none⟩)] 55)) (.cells #[.int .i64 lv] 3)
    simpa using h9
  have HF := fold_any _ sb mb n hn t lv ok X f lk d K U D (hS.below hb1) w.heap.size (w.heap.size + 1) ⟨k0, k1⟩ w1 hlv0 ty m HM hm hm0 HW HL HUQ S ys HA hS1 HOK L rt hrt ao cap (hx.below hb1)
  have HB : Hid (But (fun i => i = mb) w ((w.alloc (.cells #[.pointer (some ⟨sb, 0, none⟩)] 55)).alloc (.cells #[.int .i64 lv] 3))) := But.ofBelow hb1
  have HZ : Hid (w.heap.size ≤ ((w.alloc (.cells #[.pointer (some ⟨sb, 0, none⟩)] 55)).alloc (.cells #[.int .i64 lv] 3)).heap.size) := hb1.size
  clear hS hx k0 k1 hb0 hb1
  go_enter Try.func29, Try.ntmps29
  go_wp2_with fail
  refine HF.mono ?_
  rintro e w2 ⟨g, c, b, n', X', f', K', U', D', rt', rfl, hst⟩
  have HT : Hid (Taken w w2 sb mb n t lv ok X f lk d K U L ty b n' X' f' K' U' D' rt') := by
    have hmt : ty.take m = ty := List.take_of_length_le (by have := HM.out; omega)
    have hl := HM.out
    refine ⟨by have := hst.num; omega, hst.stor, hst.grow, hst.inX b (by simp), fun θ hs => by simpa using hst.mean θ hs 0 (by simp) (by simp), fun x hx => hst.known x (by rw [hmt]; exact hx), ⟨hst.roots.1, by have := hst.roots.2; omega⟩, ?_, (by have h9 := hst.src; rw [hmt] at h9; exact h9), (by have h9 := hst.leaf; rw [hmt] at h9; exact h9), fun i hi => (hst.fresh i hi).imp id (fun h => Nat.le_trans HZ.out h), hst.nds, hst.um⟩
    refine ⟨hst.old.os.trans HB.out.os, hst.old.tape.trans HB.out.tape, hst.old.output.trans HB.out.output, Nat.le_trans HB.out.size hst.old.size, fun i hi hne => ?_⟩
    refine (hst.old.block i (Nat.lt_of_lt_of_le hi HB.out.size) ?_).trans (HB.out.block i hi hne)
    rintro (h | h)
    · exact hne h
    · have := HZ.out; omega
  clear hst HF
  go_wp2
  go_ret
  exact ⟨b, n', X', f', K', U', D', rt', rfl, HT.out⟩

end Go.Proofs.Ytljdcaoibnikjaa

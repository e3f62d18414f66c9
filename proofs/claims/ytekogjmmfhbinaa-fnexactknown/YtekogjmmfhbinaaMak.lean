import Derived.Test.YtekogjmmfhbinaaFns
import Derived.Test.YtekogjmmfhbinaaWBI
namespace Go.Proofs.Ytekogjmmfhbinaa

open Go.RowKit Go.Shelf

theorem cellB {W : World} {b : Nat} {v : Value} {t : Nat} (h : W.heap[b]? = some (.cells #[v] t (0, 0))) {W' : World} (hb : Below W.heap.size W W') : W'.cell? ⟨b, 0, none⟩ = some v := by
  have hl := (Array.getElem?_eq_some_iff.1 h).1
  rw [cell_of_row _ _ _ _ _ _ ((hb.block b hl).trans h)]
  rfl

theorem kind_fitV {W : World} {b : Nat} {k : Int} (h : W.heap[b]? = some (.cells #[.int .i64 k] 3 (0, 0))) : FitV W (.func (.func 84) #[] #[.pointer (some ⟨b, 0, none⟩)]) (pKind k) :=
  ⟨_, _, rfl, enters_of Try.func84 (by kernel_rfl) rfl, fun x _ hW => ofKind1_any x k b _ (cellB h hW)⟩

theorem just_kidsV {W : World} {b : Nat} {ps : List (Nd → Bool)} {l : Nat} {ap : Option Addr} {cp : Nat} (HL : Hid (ps.length = l)) (hl : l ≤ 60000) (h : W.heap[b]? = some (.cells #[.slice ap l cp] 93 (0, 0))) (hp : FitsAt W ap ps) :
    KidsV W (.func (.func 77) #[] #[.pointer (some ⟨b, 0, none⟩)]) (fun _ ks => fitAll ps ks) :=
  ⟨_, _, rfl, enters_of Try.func77 (by kernel_rfl) rfl, fun x ks q ao cap _ hW HQ hq _ hx => just1_any x ks q HQ hq ao cap b ap l cp ps HL hl _ (cellB h hW) hx (hp.below hW)⟩

theorem some_kidsV {W : World} {b1 b2 : Nat} {least : Int} {v : Value} {p : Nd → Bool} (h1 : W.heap[b1]? = some (.cells #[.int .i64 least] 3 (0, 0))) (h2 : W.heap[b2]? = some (.cells #[v] 74 (0, 0))) (hv : FitV W v p) :
    KidsV W (.func (.func 85) #[] #[.pointer (some ⟨b1, 0, none⟩), .pointer (some ⟨b2, 0, none⟩)]) (fun _ ks => decide (least ≤ (ks.length : Int)) && ks.all p) :=
  ⟨_, _, rfl, enters_of Try.func85 (by kernel_rfl) rfl, fun x ks q ao cap _ hW HQ hq _ hx => some1_any x ks q HQ hq ao cap b1 b2 least v p _ (cellB h1 hW) (cellB h2 hW) hx (hv.below hW)⟩

theorem notOne_kidsV {W : World} {b : Nat} {v : Value} {p : Nd → Bool} (h : W.heap[b]? = some (.cells #[v] 74 (0, 0))) (hv : FitV W v p) :
    KidsV W (.func (.func 87) #[] #[.pointer (some ⟨b, 0, none⟩)]) (fun _ ks => ((ks.length : Int) != 1) && ks.all p) :=
  ⟨_, _, rfl, enters_of Try.func87 (by kernel_rfl) rfl, fun x ks q ao cap _ hW HQ hq _ hx => notOne1_any x ks q HQ hq ao cap b v p _ (cellB h hW) hx (hv.below hW)⟩

theorem atMostOne_kidsV {W : World} {b : Nat} {v : Value} {p : Nd → Bool} (h : W.heap[b]? = some (.cells #[v] 74 (0, 0))) (hv : FitV W v p) :
    KidsV W (.func (.func 88) #[] #[.pointer (some ⟨b, 0, none⟩)]) (fun _ ks => decide ((ks.length : Int) ≤ 1) && ks.all p) :=
  ⟨_, _, rfl, enters_of Try.func88 (by kernel_rfl) rfl, fun x ks q ao cap _ hW HQ hq _ hx => atMostOne1_any x ks q HQ hq ao cap b v p _ (cellB h hW) hx (hv.below hW)⟩

theorem firstApart_kidsV {W : World} {b1 b2 : Nat} {v1 v2 : Value} {p1 p2 : Nd → Bool} (h1 : W.heap[b1]? = some (.cells #[v1] 74 (0, 0))) (h2 : W.heap[b2]? = some (.cells #[v2] 74 (0, 0))) (hv1 : FitV W v1 p1) (hv2 : FitV W v2 p2) :
    KidsV W (.func (.func 90) #[] #[.pointer (some ⟨b1, 0, none⟩), .pointer (some ⟨b2, 0, none⟩)]) (fun _ ks => firstB p1 p2 ks) :=
  ⟨_, _, rfl, enters_of Try.func90 (by kernel_rfl) rfl, fun x ks q ao cap _ hW HQ hq hcap hx => firstApart1_any x ks q HQ hq ao cap hcap b1 b2 v1 v2 p1 p2 _ (cellB h1 hW) (cellB h2 hW) hx (hv1.below hW) (hv2.below hW)⟩

theorem lastApart_kidsV {W : World} {b1 b2 : Nat} {v1 v2 : Value} {p1 p2 : Nd → Bool} (h1 : W.heap[b1]? = some (.cells #[v1] 74 (0, 0))) (h2 : W.heap[b2]? = some (.cells #[v2] 74 (0, 0))) (hv1 : FitV W v1 p1) (hv2 : FitV W v2 p2) :
    KidsV W (.func (.func 89) #[] #[.pointer (some ⟨b1, 0, none⟩), .pointer (some ⟨b2, 0, none⟩)]) (fun _ ks => lastB p1 p2 ks) :=
  ⟨_, _, rfl, enters_of Try.func89 (by kernel_rfl) rfl, fun x ks q ao cap _ hW HQ hq hcap hx => lastApart1_any x ks q HQ hq ao cap hcap b1 b2 v1 v2 p1 p2 _ (cellB h1 hW) (cellB h2 hW) hx (hv1.below hW) (hv2.below hW)⟩

set_option maxHeartbeats 1000000 in
theorem ofKind_any (k : Int) (w : World) :
    Calls Try.prog 62 #[.int .i64 k] w fun e w' => (∃ b, e = .returned (.func (.func 84) #[] #[.pointer (some ⟨b, 0, none⟩)]) ∧ w.heap.size ≤ b ∧ w'.heap[b]? = some (.cells #[.int .i64 k] 3 (0, 0))) ∧ Below w.heap.size w w' := by
  go_enter Try.func62, Try.ntmps62
  go_wp2
  go_ret
  exact ⟨⟨_, rfl, Nat.le_refl _, heap_alloc_new _ _⟩, (Below.refl _ _).alloc (Nat.le_refl _) _⟩

set_option maxHeartbeats 1000000 in
theorem just_any (ap : Option Addr) (l cp : Nat) (w : World) :
    Calls Try.prog 51 #[.slice ap l cp] w fun e w' => (∃ b, e = .returned (.func (.func 77) #[] #[.pointer (some ⟨b, 0, none⟩)]) ∧ w.heap.size ≤ b ∧ w'.heap[b]? = some (.cells #[.slice ap l cp] 93 (0, 0))) ∧ Below w.heap.size w w' := by
  go_enter Try.func51, Try.ntmps51
  go_wp2
  go_ret
  exact ⟨⟨_, rfl, Nat.le_refl _, heap_alloc_new _ _⟩, (Below.refl _ _).alloc (Nat.le_refl _) _⟩

set_option maxHeartbeats 1000000 in
theorem notOne_any (N : Nat) (lb : Array Value) (w : World) :
    Calls Try.prog 66 #[.func (.func N) #[] lb] w fun e w' => (∃ b, e = .returned (.func (.func 87) #[] #[.pointer (some ⟨b, 0, none⟩)]) ∧ w.heap.size ≤ b ∧ w'.heap[b]? = some (.cells #[.func (.func N) #[] lb] 74 (0, 0))) ∧ Below w.heap.size w w' := by
  go_enter Try.func66, Try.ntmps66
  go_wp2
  go_ret
  exact ⟨⟨_, rfl, Nat.le_refl _, heap_alloc_new _ _⟩, (Below.refl _ _).alloc (Nat.le_refl _) _⟩

set_option maxHeartbeats 1000000 in
theorem atMostOne_any (N : Nat) (lb : Array Value) (w : World) :
    Calls Try.prog 69 #[.func (.func N) #[] lb] w fun e w' => (∃ b, e = .returned (.func (.func 88) #[] #[.pointer (some ⟨b, 0, none⟩)]) ∧ w.heap.size ≤ b ∧ w'.heap[b]? = some (.cells #[.func (.func N) #[] lb] 74 (0, 0))) ∧ Below w.heap.size w w' := by
  go_enter Try.func69, Try.ntmps69
  go_wp2
  go_ret
  exact ⟨⟨_, rfl, Nat.le_refl _, heap_alloc_new _ _⟩, (Below.refl _ _).alloc (Nat.le_refl _) _⟩

set_option maxHeartbeats 1000000 in
theorem some_any (least : Int) (N : Nat) (lb : Array Value) (w : World) :
    Calls Try.prog 64 #[.int .i64 least, .func (.func N) #[] lb] w fun e w' => (∃ b c, e = .returned (.func (.func 85) #[] #[.pointer (some ⟨b, 0, none⟩), .pointer (some ⟨c, 0, none⟩)]) ∧ w.heap.size ≤ b ∧ w.heap.size ≤ c ∧ w'.heap[b]? = some (.cells #[.int .i64 least] 3 (0, 0)) ∧ w'.heap[c]? = some (.cells #[.func (.func N) #[] lb] 74 (0, 0))) ∧ Below w.heap.size w w' := by
  have h2 := heap_alloc_new (w.alloc (.cells #[.int .i64 least] 3)) (.cells #[.func (.func N) #[] lb] 74)
  rw [World.size_alloc] at h2
  go_enter Try.func64, Try.ntmps64
  go_wp2
  go_ret
  exact ⟨⟨_, _, rfl, Nat.le_refl _, Nat.le_succ _, (Below.heap_alloc _ _ _ (by simp)).trans (heap_alloc_new _ _), h2⟩, ((Below.refl _ _).alloc (Nat.le_refl _) _).alloc (by simp) _⟩

set_option maxHeartbeats 1000000 in
theorem firstApart_any (N1 : Nat) (lb1 : Array Value) (N2 : Nat) (lb2 : Array Value) (w : World) :
    Calls Try.prog 74 #[.func (.func N1) #[] lb1, .func (.func N2) #[] lb2] w fun e w' => (∃ b c, e = .returned (.func (.func 90) #[] #[.pointer (some ⟨b, 0, none⟩), .pointer (some ⟨c, 0, none⟩)]) ∧ w.heap.size ≤ b ∧ w.heap.size ≤ c ∧ w'.heap[b]? = some (.cells #[.func (.func N1) #[] lb1] 74 (0, 0)) ∧ w'.heap[c]? = some (.cells #[.func (.func N2) #[] lb2] 74 (0, 0))) ∧ Below w.heap.size w w' := by
  have h2 := heap_alloc_new (w.alloc (.cells #[.func (.func N1) #[] lb1] 74)) (.cells #[.func (.func N2) #[] lb2] 74)
  rw [World.size_alloc] at h2
  go_enter Try.func74, Try.ntmps74
  go_wp2
  go_ret
  exact ⟨⟨_, _, rfl, Nat.le_refl _, Nat.le_succ _, (Below.heap_alloc _ _ _ (by simp)).trans (heap_alloc_new _ _), h2⟩, ((Below.refl _ _).alloc (Nat.le_refl _) _).alloc (by simp) _⟩

set_option maxHeartbeats 1000000 in
theorem lastApart_any (N1 : Nat) (lb1 : Array Value) (N2 : Nat) (lb2 : Array Value) (w : World) :
    Calls Try.prog 72 #[.func (.func N1) #[] lb1, .func (.func N2) #[] lb2] w fun e w' => (∃ b c, e = .returned (.func (.func 89) #[] #[.pointer (some ⟨b, 0, none⟩), .pointer (some ⟨c, 0, none⟩)]) ∧ w.heap.size ≤ b ∧ w.heap.size ≤ c ∧ w'.heap[b]? = some (.cells #[.func (.func N1) #[] lb1] 74 (0, 0)) ∧ w'.heap[c]? = some (.cells #[.func (.func N2) #[] lb2] 74 (0, 0))) ∧ Below w.heap.size w w' := by
  have h2 := heap_alloc_new (w.alloc (.cells #[.func (.func N1) #[] lb1] 74)) (.cells #[.func (.func N2) #[] lb2] 74)
  rw [World.size_alloc] at h2
  go_enter Try.func72, Try.ntmps72
  go_wp2
  go_ret
  exact ⟨⟨_, _, rfl, Nat.le_refl _, Nat.le_succ _, (Below.heap_alloc _ _ _ (by simp)).trans (heap_alloc_new _ _), h2⟩, ((Below.refl _ _).alloc (Nat.le_refl _) _).alloc (by simp) _⟩

/-- What ref's type is asked for. -/
def refB (x : Nd) (ks : List Nd) : Bool := if x.num = -8 then ks.length == 1 && pType (ndAt ks 0) else ks.length == 0

set_option maxHeartbeats 1000000 in
theorem typeOfRef_any (x : Nd) (ks : List Nd) (q : Nat) (HQ : Hid (ks.length = q)) (ao : Option Addr) (cap : Nat) (W : World) (hx : Nodes W ao ks) :
    Calls Try.prog 71 #[.agg #[.int .i64 x.kind, .int .i64 x.num, .string x.text, .int .i64 x.kids, .int .i64 x.place], .slice ao q cap] W fun e w' =>
      e = .returned (.bool (refB x ks)) ∧ Below W.heap.size W w' := by
  have hb0 := new_node x W
  by_cases h8 : x.num = -8
  · have t8 : (x.num == -8) = true := by simpa using h8
    rw [h8] at hb0
    by_cases h1 : q = 1
    · subst h1
      have h0 : 0 < ks.length := by have := HQ.out; omega
      obtain ⟨b, o, rfl, hn⟩ := hx 0 h0
      have hn0 : NodeAt W b o (ndAt ks 0) := by rw [ndAt_get h0]; simpa using hn
      have HB : Hid (refB x ks = pType (ndAt ks 0)) := by
        show refB x ks = _
        unfold refB
        rw [if_pos h8, HQ.out]
        rfl
      obtain ⟨y, hy⟩ : ∃ y, ndAt ks 0 = y := ⟨_, rfl⟩
      rw [hy] at hn0 HB
      obtain ⟨d0, d1, d2, d3, d4⟩ := hn0
      have hlb := lt_of_cell d0
      simp only at hlb
      have HC := isCodeType_any y
      obtain ⟨ykd, ynm, ytx, yks, ypl⟩ := y
      obtain ⟨z, hz⟩ : ∃ z, pType ⟨ykd, ynm, ytx, yks, ypl⟩ = z := ⟨_, rfl⟩
      rw [hz] at HC HB
      simp only at HC d0 d1 d2 d3 d4
      clear hx hn hy hz
      go_enter Try.func71, Try.ntmps71
      go_wp2_with fail
      refine (HC _).mono ?_
      rintro e w1 ⟨rfl, hb1⟩
      have hbb := Below.step hb0 hb1
      clear hb0 hb1 HC d0 d1 d2 d3 d4
      go_wp2
      go_ret
      exact ⟨by rw [HB.out]; rfl, hbb⟩
    · have t1 : ((q : Int) == 1) = false := by simp; omega
      have HB : Hid (refB x ks = false) := by
        show refB x ks = _
        unfold refB
        rw [if_pos h8, HQ.out]
        simp [h1]
      clear hx
      go_enter Try.func71, Try.ntmps71
      go_wp2
      go_ret
      exact ⟨by rw [HB.out]; rfl, hb0⟩
  · have t8 : (x.num == -8) = false := by simpa using h8
    have HB : Hid (refB x ks = ((q : Int) == 0)) := by
      show refB x ks = _
      unfold refB
      rw [if_neg h8, HQ.out]
      cases q <;> simp <;> omega
    clear hx
    go_enter Try.func71, Try.ntmps71
    go_wp2
    go_ret
    exact ⟨by rw [HB.out]; rfl, hb0⟩

end Go.Proofs.Ytekogjmmfhbinaa


import Derived.Test.YtkmlfpfgiblcdabProg
import Derived.Test.YtkmlfpfgiblcdabYAA
import Derived.Laws.BitsAllLaws
namespace Go.Proofs.Ytkmlfpfgiblcdab
open Go.RowKit

/-- A slice of n bytes. -/
def Code (w : World) (ao : Option Addr) (n : Nat) : Prop :=
  ∀ i, i < n → ∃ b o v, ao = some ⟨b, o, none⟩ ∧ w.cell? ⟨b, o + i, none⟩ = some (.int .u8 ((v : Nat) : Int)) ∧ v < 256

theorem Code.below {w w' : World} {ao : Option Addr} {n : Nat} (h : Code w ao n) (hb : Below w.heap.size w w') : Code w' ao n := by
  intro i hi
  obtain ⟨b, o, v, e, hc, hv⟩ := h i hi
  exact ⟨b, o, v, e, (hb.cell (p := ⟨b, o + i, none⟩) (lt_of_cell hc)).trans hc, hv⟩

theorem i64_xor (a b : Nat) (ha : a < 4611686018427387904) (hb : b < 4611686018427387904) : bits .xor .i64 (a : Int) (b : Int) = ((a ^^^ b : Nat) : Int) := by
  show IntKind.i64.wrap ((BitVec.ofInt 64 (a : Int) ^^^ BitVec.ofInt 64 (b : Int)).toNat : Int) = _
  have hx : a ^^^ b < 2 ^ 62 := Nat.xor_lt_two_pow (by omega) (by omega)
  rw [BitVec.toNat_xor, ofInt_u64 a (by omega), ofInt_u64 b (by omega)]
  simp [IntKind.wrap, IntKind.bits, IntKind.signed]
  omega

theorem xor_rem {x y : Int} {k : Nat} (hx : 0 ≤ x) (hx2 : x < 4611686018427387904) (hy : 0 ≤ y) (hy2 : y < 4611686018427387904) (hk : 1 ≤ k) :
    0 ≤ (bits .xor .i64 x y).tmod (k : Int) ∧ (bits .xor .i64 x y).tmod (k : Int) < (k : Int) := by
  obtain ⟨a, rfl⟩ := Int.eq_ofNat_of_zero_le hx
  obtain ⟨b, rfl⟩ := Int.eq_ofNat_of_zero_le hy
  rw [i64_xor a b (by omega) (by omega)]
  exact ⟨Int.tmod_nonneg _ (by omega), Int.tmod_lt_of_pos _ (by omega)⟩

/-- What l1Take answers. -/
def Took (k p : Nat) (e : Ending) : Prop := ∃ r : Nat, r < k ∧ e = .returned (.tuple #[.int .i64 (r : Int), .int .i64 ((p + 1 : Nat) : Int)])

theorem took_of {k p : Nat} {x : Int} (h0 : 0 ≤ x) (h1 : x < (k : Int)) : Took k p (.returned (.tuple #[.int .i64 x, .int .i64 ((p : Int) + 1)])) :=
  ⟨x.toNat, by omega, by have : ((x.toNat : Nat) : Int) = x := by omega
                         rw [this]; simp⟩

theorem rem_in {x : Int} {k : Nat} (_ : 0 ≤ x) (hk : 1 ≤ k) : 0 ≤ x % (k : Int) ∧ x % (k : Int) < (k : Int) := ⟨Int.emod_nonneg _ (by omega), Int.emod_lt_of_pos _ (by omega)⟩

set_option maxHeartbeats 1000000 in
theorem take_in (n : Nat) (hn : n ≤ 1048576) (ao : Option Addr) (cap : Nat) (w : World) (hc : Code w ao n) (p k : Nat) (hk : 1 ≤ k) (hk2 : k ≤ 64) (hp : p < n) :
    Calls Try.prog 62 #[.slice ao n cap, .int .i64 (p : Int), .int .i64 (k : Int)] w fun e w' => Took k p e ∧ Below w.heap.size w w' := by
  obtain ⟨b, o, v, rfl, hv, hv2⟩ := hc p hp
  clear hc
  go_enter Try.func62, Try.ntmps62
  go_wp2
  all_goals
    go_ret2
    refine ⟨took_of ?_ ?_, Below.refl _ _⟩
    · first | omega | exact (rem_in (by omega) hk).1
    · first | omega | exact (rem_in (by omega) hk).2

set_option maxHeartbeats 1000000 in
theorem take_none (ao : Option Addr) (cap : Nat) (w : World) (p k : Nat) (hk : 1 ≤ k) (hk2 : k ≤ 64) (hp : p ≤ 1000) :
    Calls Try.prog 62 #[.slice ao 0 cap, .int .i64 (p : Int), .int .i64 (k : Int)] w fun e w' => Took k p e ∧ Below w.heap.size w w' := by
  go_enter Try.func62, Try.ntmps62
  go_wp2
  all_goals (go_ret2; exact ⟨took_of (by omega) (by omega), Below.refl _ _⟩)

set_option maxHeartbeats 2000000 in
theorem take_past (n : Nat) (hn : n ≤ 1048576) (h0 : 0 < n) (ao : Option Addr) (cap : Nat) (w : World) (hc : Code w ao n) (p k : Nat) (hk : 1 ≤ k) (hk2 : k ≤ 64) (hp : p ≤ 1000) (hpn : n ≤ p) :
    Calls Try.prog 62 #[.slice ao n cap, .int .i64 (p : Int), .int .i64 (k : Int)] w fun e w' => Took k p e ∧ Below w.heap.size w w' := by
  have e0 : (0 : Int) < (n : Int) := by omega
  have e1 := rem_in (x := (p : Int)) (k := n) (by omega) h0
  have e2 := rem_in (x := (p : Int) * 7 + 3) (k := n) (by omega) h0
  obtain ⟨e1a, e1b⟩ := e1
  obtain ⟨e2a, e2b⟩ := e2
  have e3a : (0 : Int) ≤ (p : Int) / (n : Int) := Int.ediv_nonneg (by omega) (by omega)
  have e3b : (p : Int) / (n : Int) ≤ (p : Int) := Int.ediv_le_self _ (by omega)
  obtain ⟨b, o, v, rfl, hv, hv2⟩ := hc (p % n) (Nat.mod_lt _ h0)
  obtain ⟨b', o', u, he, hu, hu2⟩ := hc ((p * 7 + 3) % n) (Nat.mod_lt _ h0)
  cases he
  clear hc
  go_enter Try.func62, Try.ntmps62
  go_wp2
  all_goals
    go_ret2
    refine ⟨took_of ?_ ?_, Below.refl _ _⟩
    · first | omega | exact (xor_rem (by omega) (by omega) (by omega) (by omega) hk).1
    · first | omega | exact (xor_rem (by omega) (by omega) (by omega) (by omega) hk).2

theorem takeB_any (n : Nat) (hn : n ≤ 1048576) (ao : Option Addr) (cap : Nat) (w : World) (hc : Code w ao n) (p k : Nat) (hk : 1 ≤ k) (hk2 : k ≤ 64) (hp : p ≤ 1000) :
    Calls Try.prog 62 #[.slice ao n cap, .int .i64 (p : Int), .int .i64 (k : Int)] w fun e w' => Took k p e ∧ Below w.heap.size w w' := by
  by_cases h0 : n = 0
  · subst h0
    exact take_none ao cap w p k hk hk2 hp
  · by_cases h : p < n
    · exact take_in n hn ao cap w hc p k hk hk2 h
    · exact take_past n hn (by omega) ao cap w hc p k hk hk2 hp (by omega)

end Go.Proofs.Ytkmlfpfgiblcdab

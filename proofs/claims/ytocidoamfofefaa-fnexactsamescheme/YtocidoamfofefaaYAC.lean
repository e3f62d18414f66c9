import Derived.Test.YtocidoamfofefaaYAA
import Derived.Test.YtocidoamfofefaaYAB
namespace Go.Proofs.Ytocidoamfofefaa
open Go.RowKit

theorem Try.infoN : (Try.prog.info? 39).map (fun i => (i.zero, i.size, i.bytes)) = some (some (.agg #[.int .i64 0, .int .i64 0, .string ByteArray.empty, .int .i64 0, .int .i64 0]), 5, 48) := by kernel_rfl

theorem make_nodes (n : Nat) (h : n ≤ 1048576) (w : World) :
    (Instr.makeSlice 25 (.int .i64 (n : Int)) (.int .i64 (n : Int))).run Try.prog w = .ok (.slice (some ⟨w.heap.size, 0, none⟩) n n) (w.alloc (.cells (madeCells #[.int .i64 0, .int .i64 0, .string ByteArray.empty, .int .i64 0, .int .i64 0] (n * 5)) 39)) := by
  obtain ⟨i, hi, hzz⟩ := Option.map_eq_some_iff.1 Try.infoN
  simp only [Prod.mk.injEq] at hzz
  obtain ⟨hz, hs, hb⟩ := hzz
  have hr := run_make (P := Try.prog) w 25 39 i _ Try.underlying25 hi hz .i64 .i64 n n (by omega) (Int.le_refl _) (by rw [hb]; omega) (by omega)
  simp only [Int.toNat_natCast, hs] at hr
  exact hr

set_option maxHeartbeats 400000 in
theorem toNodeS_any (xs : List Nd) (ao : Option Addr) (cap : Nat) (w : World) (hx : Nodes w ao xs) (hlen : xs.length ≤ 1048576) :
    Calls Try.prog 9 #[.slice ao xs.length cap] w fun e w' =>
      ∃ g, e = .returned (.slice (some ⟨g, 0, none⟩) xs.length xs.length) ∧ w.heap.size ≤ g ∧ Row w' g xs ∧ Below w.heap.size w w' := by
  have hmk := make_nodes xs.length hlen
  go_enter Try.func9, Try.ntmps9
  go_wp2
  clear hmk
  go_loopw [4] (fun i wr => ∃ (k : Nat), k ≤ xs.length ∧ i = .int .i64 k ∧ Row wr w.heap.size (xs.take k ++ List.replicate (xs.length - k) Nd.zero) ∧ Below w.heap.size w wr) (fun i _ => xs.length - (intOf i).toNat)
  case atStart => exact ⟨0, Nat.zero_le _, rfl, by simpa using Row.made w xs.length, (Below.refl _ _).alloc (Nat.le_refl _) _⟩
  case round =>
    obtain ⟨k, hk, rfl, hrow, hb⟩ := hrel
    by_cases hlt : k < xs.length
    · obtain ⟨b, o, rfl, hn⟩ := hx.below hb k hlt
      obtain ⟨c0, c1, c2, c3, c4⟩ := hn
      clear hx
      go_wp2_with fail
      refine (toNode_any xs[k] wr).mono ?_
      rintro e w1 ⟨rfl, hb1⟩
      have hrow1 := hrow.below hb1
      have hbb := Below.step hb hb1
      have f0 := hrow1.frozen (k * 5)
      have f1 := hrow1.frozen (k * 5 + 1)
      have f2 := hrow1.frozen (k * 5 + 2)
      have f3 := hrow1.frozen (k * 5 + 3)
      have f4 := hrow1.frozen (k * 5 + 4)
      have hl : (xs.take k ++ List.replicate (xs.length - k) Nd.zero).length = xs.length := by simp; omega
      obtain ⟨v0, d0⟩ := hrow1.has (k * 5) (by rw [hl]; omega)
      obtain ⟨v1, d1⟩ := hrow1.has (k * 5 + 1) (by rw [hl]; omega)
      obtain ⟨v2, d2⟩ := hrow1.has (k * 5 + 2) (by rw [hl]; omega)
      obtain ⟨v3, d3⟩ := hrow1.has (k * 5 + 3) (by rw [hl]; omega)
      obtain ⟨v4, d4⟩ := hrow1.has (k * 5 + 4) (by rw [hl]; omega)
      have R := hrow1.put k (by rw [hl]; exact hlt) xs[k]
      rw [fill_step xs k hlt] at R
      have R2 := below_put hbb (Nat.le_refl _) (k * 5) xs[k]
      clear hl hrow hrow1 hb hb1 hbb c0 c1 c2 c3 c4
      go_wp2
      go_roundw
      case rel => exact ⟨k + 1, by omega, by go_num, R, R2⟩
      case measure => simp [intOf]; omega
    · have hke : k = xs.length := by omega
      subst hke
      clear hx
      go_wp2
      go_ret
      exact ⟨_, rfl, Nat.le_refl _, by simpa using hrow, hb⟩

end Go.Proofs.Ytocidoamfofefaa

namespace Go.Proofs.Ytocidoamfofefaa

/-- The letter of a kind, as a byte: R 82, B 66, q 113, c 99, t 116, s 115, none 45. -/
def letK (k : Int) : Nat :=
  if k = 84 then 82 else if k = 82 then 66
  else if k = 90 ∨ k = 91 ∨ k = 15 ∨ k = 17 ∨ k = 18 ∨ k = 19 ∨ k = 20 then 113
  else if 70 ≤ k ∧ k ≤ 89 then 99
  else if k = 60 ∨ k = 12 ∨ k = 13 ∨ k = 14 then 116
  else if k = 62 then 115 else 45

/-- Whether a kind may stand for a letter. -/
def isK (k : Int) (c : Nat) : Bool := letK k == c || (c == 115 && letK k == 116)

/-- Kinds that bind a number, or name one. -/
def boundK (k : Int) : Bool := k == 70 || k == 76 || k == 80 || k == 82 || k == 90 || k == 91 || k == 78 || k == 60 || k == 62

/-- The operators. -/
def opsL : List (List UInt8) := [[58, 61], [61], [60, 62], [60], [60, 61], [62], [62, 61], [94], [43], [45], [42], [47], [37]]

/-- What belongs to a node itself. -/
def ownB (n : Nd) : Bool :=
  n.place == 0 &&
    (if boundK n.kind then decide (n.num > 0) && n.text.size == 0
     else if n.kind == 71 then decide (-8 ≤ n.num) && decide (n.num ≤ -1) && n.text.size == 0
     else if n.kind == 72 || n.kind == 17 then n.text.size == 0
     else if n.num != 0 then false
     else if n.kind == 73 || n.kind == 18 || n.kind == 74 || n.kind == 19 || n.kind == 12 then true
     else if n.kind == 83 then n.text.toList == [77, 97, 116, 99, 104] || n.text.toList == [66, 105, 110, 100]
     else if n.kind == 88 then opsL.any (fun o => n.text.toList == o)
     else if n.kind == 89 then n.text.toList == [126] || n.text.toList == [33]
     else n.text.size == 0)

end Go.Proofs.Ytocidoamfofefaa

import Derived.Test.YtfkopelhaghdaaaDoorStr
namespace Go.Proofs.YtfkopelhaghdaaaDoor
open Go.RowKit Go.Lib Go.Sort

theorem encode_small (n : Nat) (h : n < 128) : Utf8.encode (n : Int) = ⟨#[UInt8.ofNat n]⟩ := by
  have hv : Utf8.valid (n : Int) = true := by unfold Utf8.valid; simp; omega
  unfold Utf8.encode
  simp [hv, h]

theorem dec4 (n : Nat) (h : n < 256) : decDigits (1000 + n) = [49, UInt8.ofNat (48 + n / 100), UInt8.ofNat (48 + n / 10 % 10), UInt8.ofNat (48 + n % 10)] := by
  rw [decDigits.eq_def, dif_neg (by omega), decDigits.eq_def, dif_neg (by omega), decDigits.eq_def, dif_neg (by omega), decDigits_one (by omega)]
  have e1 : (1000 + n) / 10 / 10 / 10 = 1 := by omega
  have e2 : (1000 + n) / 10 / 10 % 10 = n / 100 := by omega
  have e3 : (1000 + n) / 10 % 10 = n / 10 % 10 := by omega
  have e4 : (1000 + n) % 10 = n % 10 := by omega
  rw [e1, e2, e3, e4]
  rfl

set_option maxHeartbeats 1000000 in
theorem byte_any (b : UInt8) (w : World) (htab : TabIs Tryd.prog w "internal/strconv.uint64pow10" .u64 pow10Tab) :
    Calls Tryd.prog 15 #[.int .u8 (b.toNat : Int)] w fun e w' => e = .returned (.string ⟨(esc b).toArray⟩) ∧ Below w.heap.size w w' := by
  have hc : b.toNat < 256 := b.toNat_lt
  by_cases h10 : b.toNat = 10
  · obtain rfl : b = 10 := UInt8.toNat_inj.1 h10
    clear h10 htab hc
    go_enter Tryd.func15, Tryd.ntmps15
    go_wp2
    go_ret
    exact ⟨rfl, Below.refl _ _⟩
  by_cases h9 : b.toNat = 9
  · obtain rfl : b = 9 := UInt8.toNat_inj.1 h9
    clear h9 h10 htab hc
    go_enter Tryd.func15, Tryd.ntmps15
    go_wp2
    go_ret
    exact ⟨rfl, Below.refl _ _⟩
  by_cases h92 : b.toNat = 92
  · obtain rfl : b = 92 := UInt8.toNat_inj.1 h92
    clear h9 h10 h92 htab hc
    go_enter Tryd.func15, Tryd.ntmps15
    go_wp2
    all_goals go_ret
    all_goals exact ⟨rfl, Below.refl _ _⟩
  by_cases h34 : b.toNat = 34
  · obtain rfl : b = 34 := UInt8.toNat_inj.1 h34
    clear h9 h10 h92 h34 htab hc
    go_enter Tryd.func15, Tryd.ntmps15
    go_wp2
    all_goals go_ret
    all_goals exact ⟨rfl, Below.refl _ _⟩
  have e10 : ((b.toNat : Int) == 10) = false := by simp; omega
  have e9 : ((b.toNat : Int) == 9) = false := by simp; omega
  have e92 : ((b.toNat : Int) == 92) = false := by simp; omega
  have e34 : ((b.toNat : Int) == 34) = false := by simp; omega
  by_cases hp : 32 ≤ b.toNat ∧ b.toNat ≤ 126
  · have p1 : (32 : Int) ≤ (b.toNat : Int) := by omega
    have p2 : (b.toNat : Int) ≤ 126 := by omega
    have HE : Hid (Utf8.encode (b.toNat : Int) = ⟨(esc b).toArray⟩) := by
      show Utf8.encode (b.toNat : Int) = _
      rw [encode_small _ (by omega)]
      unfold esc
      rw [if_neg (b_ne b 10 h10), if_neg (b_ne b 9 h9), if_neg (fun e => e.elim (b_ne b 92 h92) (b_ne b 34 h34)), if_pos hp]
      simp
    clear h9 h10 h92 h34 htab hp
    go_enter Tryd.func15, Tryd.ntmps15
    go_wp2
    go_ret
    exact ⟨by rw [HE.out]; rfl, Below.refl _ _⟩
  · have HE := esc_far b h10 h9 h92 h34 hp
    obtain ⟨T, hT⟩ : ∃ T : ByteArray, T = ⟨(itoa ((1000 : Int) + (b.toNat : Int))).toArray⟩ := ⟨_, rfl⟩
    have hi := Tryd.strconv_Itoa ((1000 : Int) + (b.toNat : Int)) (by omega) (by omega) w htab
    rw [← hT] at hi
    have hTl : T = ⟨#[49, UInt8.ofNat (48 + b.toNat / 100), UInt8.ofNat (48 + b.toNat / 10 % 10), UInt8.ofNat (48 + b.toNat % 10)]⟩ := by
      rw [hT]
      unfold itoa
      rw [if_neg (by omega), show ((1000 : Int) + (b.toNat : Int)).toNat = 1000 + b.toNat by omega, dec4 _ hc]
    obtain ⟨D, hD⟩ : ∃ D : ByteArray, D = ⟨#[UInt8.ofNat (48 + b.toNat / 100), UInt8.ofNat (48 + b.toNat / 10 % 10), UInt8.ofNat (48 + b.toNat % 10)]⟩ := ⟨_, rfl⟩
    have hsl : ∀ w, (Instr.slice 9 (.string T) (some (.int .i64 1)) none none).run Tryd.prog w = .ok (.string D) w := fun w => by
      rw [run_slice_string_l w 9 T Tryd.underlying9 .i64 1 (by omega) (by rw [hTl]; simp [ByteArray.size]), hTl, hD]
      rfl
    have hle : (⟨#[92]⟩ : ByteArray).size + D.size ≤ 9223372036854775807 := by rw [hD]; simp [ByteArray.size]
    have HF : Hid ((⟨#[92]⟩ : ByteArray) ++ D = ⟨(esc b).toArray⟩) := by
      show (⟨#[92]⟩ : ByteArray) ++ D = _
      rw [hD, HE]
      exact cat_mk [92] _
    clear HE hT hTl hD htab h10 h9 h92 h34
    have fin : ∀ w1, (∃ k os, w1 = grow (w.drewN k) os) → Below w.heap.size w w1 := by
      rintro w1 ⟨k, os, rfl⟩
      exact ⟨rfl, rfl, rfl, by simp [grow], fun k hk => by simp [grow, Array.getElem?_append_left, hk]⟩
    by_cases hl : b.toNat < 32
    · have p3 : ¬ (32 : Int) ≤ (b.toNat : Int) := by omega
      go_enter Tryd.func15, Tryd.ntmps15
      go_wp2_with fail
      refine hi.mono ?_
      rintro e w1 ⟨rfl, hg⟩
      have b1 := fin w1 hg
      clear hi hg fin
      go_wp2
      go_ret
      exact ⟨by rw [HF.out]; rfl, b1⟩
    · have p1 : (32 : Int) ≤ (b.toNat : Int) := by omega
      have p4 : ¬ (b.toNat : Int) ≤ 126 := by omega
      go_enter Tryd.func15, Tryd.ntmps15
      go_wp2_with fail
      refine hi.mono ?_
      rintro e w1 ⟨rfl, hg⟩
      have b1 := fin w1 hg
      clear hi hg fin
      go_wp2
      go_ret
      exact ⟨by rw [HF.out]; rfl, b1⟩

end Go.Proofs.YtfkopelhaghdaaaDoor

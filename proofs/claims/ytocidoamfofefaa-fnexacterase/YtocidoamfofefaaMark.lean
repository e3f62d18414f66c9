
import Derived.Test.YtocidoamfofefaaLeaf
import Derived.Test.YtocidoamfofefaaOwn
import Derived.Laws.BytesArg
import Derived.Deep.RegionWith
namespace Go.Proofs.Ytocidoamfofefaa
open Go.RowKit

/-- The decimal digits, as the loop lays them. -/
def digs : Nat → Nat → ByteArray → ByteArray
  | 0, _, out => out
  | f + 1, q, out => if q = 0 then out else digs f (q / 10) (strOfNums [48 + (q : Int) % 10] ++ out)

def mtext (k : Nat) : ByteArray := ⟨#[109]⟩ ++ digs 20 k ⟨#[]⟩

theorem digs_zero (f : Nat) (out : ByteArray) : digs f 0 out = out := by
  cases f <;> simp [digs]

theorem conv_byte (w : World) (v : Int) : (convert 74 9 (.slice (some ⟨w.heap.size, 0, none⟩) 1 1)).run Try.prog (w.alloc (.cells #[.int .u8 v] 5)) = .ok (.string (strOfNums [v])) (w.alloc (.cells #[.int .u8 v] 5)) := by
  refine run_convert_bytes_arg (P := Try.prog) _ 74 5 Try.underlying74 Try.underlying5 w.heap.size 0 1 1 [v] rfl ?_ 9 Try.underlying9
  intro i hi
  have : i = 0 := by omega
  subst this
  simp

set_option maxHeartbeats 400000 in
theorem markText_any (k : Nat) (hk : k ≤ 1000000000) (h0 : 0 < k) (w : World) :
    Calls Try.prog 35 #[.int .i64 k] w fun e w' => e = .returned (.string (mtext k)) ∧ Below w.heap.size w w' := by
  have hcv := conv_byte
  have hss : ∀ v, (strOfNums [v]).size = 1 := fun v => strOfNums_size [v]
  go_enter Try.func35, Try.ntmps35
  go_wp2
  go_loopw [0, 3] (fun a b wr => ∃ (f q : Nat) (out : ByteArray), q ≤ 1000000000 ∧ q < 10 ^ f ∧ a = .int .i64 q ∧ b = .string out ∧ out.size + f ≤ 20 ∧ digs f q out = digs 20 k ⟨#[]⟩ ∧ Below w.heap.size w wr) (fun a _ _ => (intOf a).toNat)
  case atStart => exact ⟨20, k, _, hk, by omega, rfl, rfl, Nat.le_refl _, rfl, Below.refl _ _⟩
  case round =>
    obtain ⟨f, q, out, hq, hf, rfl, rfl, hsz, hd, hb⟩ := hrel
    have HF : Hid (q < 10 ^ f) := hf
    have HD : Hid (digs f q out = digs 20 k ⟨#[]⟩) := hd
    clear hf hd
    by_cases hq0 : 0 < q
    · have hfp : 0 < f := by
        rcases Nat.eq_zero_or_pos f with h | h
        · subst h; have := HF.out; simp at this; omega
        · exact h
      have HF2 : Hid (q / 10 < 10 ^ (f - 1)) := by
        have h1 := HF.out
        have e : 10 ^ f = 10 ^ (f - 1) * 10 := by rw [← Nat.pow_succ]; congr 1; omega
        rw [e] at h1
        show q / 10 < 10 ^ (f - 1)
        omega
      have HD2 : Hid (digs (f - 1) (q / 10) (strOfNums [48 + (q : Int) % 10] ++ out) = digs 20 k ⟨#[]⟩) := by
        have h1 := HD.out
        obtain ⟨f', rfl⟩ : ∃ f', f = f' + 1 := ⟨f - 1, by omega⟩
        rw [digs, if_neg (by omega)] at h1
        exact h1
      go_wp2
      go_roundw
      case rel => exact ⟨f - 1, q / 10, _, by omega, HF2.out, by go_num, rfl, by rw [ByteArray.size_append, hss]; omega, HD2.out, hb.alloc hb.size _⟩
      case measure => simp [intOf]; omega
    · have hqz : q = 0 := by omega
      subst hqz
      have HE : Hid (out = digs 20 k ⟨#[]⟩) := by have := HD.out; rw [digs_zero] at this; exact this
      have hsd : (ByteArray.mk #[109]).size = 1 := rfl
      go_wp2
      go_ret
      exact ⟨by rw [HE.out]; rfl, hb⟩

end Go.Proofs.Ytocidoamfofefaa

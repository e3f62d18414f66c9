
import Derived.Test.YtkmlfpfgiblcdabINum
namespace Go.Proofs.Ytkmlfpfgiblcdab
open Go.RowKit

theorem typeb_span {t : List Nd} (h : typeb t = true) : 0 < t.length ∧ t.length ≤ 300 := by
  simp only [typeb, Bool.and_eq_true, decide_eq_true_eq] at h
  obtain ⟨⟨h1, h2⟩, _⟩ := h
  refine ⟨?_, h1⟩
  obtain ⟨h3, _⟩ := deep_after rfl h2
  exact h3

set_option maxHeartbeats 1000000 in
theorem implCanon_anyM (t : List Nd) (m : Nat) (HM : Hid (t.length = m)) (hm : m ≤ 1048576) (HW : Hid (∀ n ∈ t, n.kind = 61 → (Lit.int .i64 n.num).wf = true)) (ao : Option Addr) (cap : Nat) (w : World) (hx : Nodes w ao t) :
    Calls Try.prog 15 #[.slice ao m cap] w fun e w' => ∃ ag cg, e = .returned (.slice ag (canonOf t).length cg) ∧ Ans w' w.heap.size ag (canonOf t) ∧ Below w.heap.size w w' := by
  have HT := iIsType_any t m HM hm ao cap w hx
  cases ht : typeb t
  · rw [ht] at HT
    have HV : Hid (canonOf t = []) := by simp [Hid, canonOf, ht]
    clear hx
    go_enter Try.func15, Try.ntmps15
    go_wp2_with fail
    refine HT.mono ?_
    rintro e w1 ⟨rfl, hb1⟩
    clear HT
    go_wp2
    go_ret
    rw [HV.out]
    exact ⟨_, _, rfl, Or.inl rfl, hb1.alloc hb1.size _⟩
  · rw [ht] at HT
    obtain ⟨h0, h3⟩ := typeb_span ht
    have h3m : m ≤ 300 := by have := HM.out; omega
    obtain ⟨b, o, rfl, hn0⟩ := hx 0 h0
    have HV : Hid (canonOf t = (nmTo 1 t m).2) := by
      rw [Hid, canonOf, if_pos ht, nmTo_one, HM.out]
    have HL : Hid ((nmTo 1 t m).2.length = m) := (nmTo_len 1 t m (by have := HM.out; omega)).1
    clear hn0 h0 h3
    go_enter Try.func15, Try.ntmps15
    go_wp2_with fail
    refine HT.mono ?_
    rintro e w1 ⟨rfl, hb1⟩
    have hx1 := hx.below hb1
    clear HT hx
    go_wp2_with fail
    refine (numberedFrom_any 1 (by omega) (by omega) t m HM h3m HW b o cap w1 hx1).mono ?_
    rintro e w2 ⟨g, c, rfl, hg, hr, hb2⟩
    have hs := hb1.size
    have hb := Below.step hb1 hb2
    clear hb1 hb2 hx1
    go_wp2
    go_ret
    rw [HV.out, HL.out]
    exact ⟨_, _, rfl, hr.ans (by omega), hb⟩

theorem implCanon_any (t : List Nd) (m : Nat) (HM : Hid (t.length = m)) (hm : m ≤ 1048576) (HW : Hid (∀ n ∈ t, (Lit.int .i64 n.num).wf = true)) (ao : Option Addr) (cap : Nat) (w : World) (hx : Nodes w ao t) :
    Calls Try.prog 15 #[.slice ao m cap] w fun e w' => ∃ ag cg, e = .returned (.slice ag (canonOf t).length cg) ∧ Ans w' w.heap.size ag (canonOf t) ∧ Below w.heap.size w w' := implCanon_anyM t m HM hm (fun n hn _ => HW.out n hn) ao cap w hx

end Go.Proofs.Ytkmlfpfgiblcdab

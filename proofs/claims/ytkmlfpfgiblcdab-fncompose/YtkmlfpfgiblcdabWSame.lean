
import Derived.Test.YtkmlfpfgiblcdabWEx
import Derived.Test.YtkmlfpfgiblcdabBS
import Derived.Deep.RegionHeld3
namespace Go.Proofs.Ytkmlfpfgiblcdab
open Go.RowKit

set_option maxRecDepth 100000 in
set_option maxHeartbeats 4000000 in
theorem wSameBinds_same (bs : List (Int × List Nd)) (n : Nat) (HX : Hid (bs.length = n)) (HK : Hid (∀ b ∈ bs, b.2.length ≤ 1048576)) (ao bo : Option Addr) (cap cbp : Nat) (w : World) (hx : Binds w ao bs) (hy : Binds w bo bs) (hlx : n ≤ 1048576) :
    Calls Try.prog 34 #[.slice ao n cap, .slice bo n cbp] w fun e w' => e = .returned (.bool true) ∧ Below w.heap.size w w' := by
  go_enter Try.func34, Try.ntmps34
  go_wp2
  go_loopw [5] (fun i wr => ∃ (k : Nat), k ≤ n ∧ i = .int .i64 k ∧ Below w.heap.size w wr) (fun i _ => n - (intOf i).toNat)
  case atStart => exact ⟨0, Nat.zero_le _, rfl, Below.refl _ _⟩
  case round =>
    obtain ⟨k, hk, rfl, hb⟩ := hrel
    by_cases hlt : k < n
    · have hltk : k < bs.length := by have := HX.out; omega
      have hkl := HK.out bs[k] (List.getElem_mem hltk)
      obtain ⟨⟨x, ks⟩, hxk⟩ : ∃ x, bs[k] = x := ⟨_, rfl⟩
      obtain ⟨b, o, ai, ci, rfl, c0, c1, hn⟩ := hx.below hb k hltk
      obtain ⟨b', o', ai', ci', rfl, d0, d1, hn'⟩ := hy.below hb k hltk
      rw [hxk] at c0 c1 hn d0 d1 hn' hkl
      simp only at c0 c1 hn d0 d1 hn' hkl
      obtain ⟨l, hl⟩ : ∃ l, ks.length = l := ⟨_, rfl⟩
      rw [hl] at c1 d1 hkl
      have HL : Hid (ks.length = l) := hl
      have hbl : b < wr.heap.size := lt_of_cell c0
      have hbl' : b' < wr.heap.size := lt_of_cell d0
      have hnd := hn.below ((Below.refl _ wr).drew)
      have hnd' := hn'.below ((Below.refl _ wr).drew)
      clear hx hy hxk hl hn hn'
      go_wp2_with fail
      go_region_held3 (fun w' => w'.cell? ⟨b, o + k * 2, none⟩ = some (.int .i64 x) ∧ w'.cell? ⟨b, o + k * 2 + 1, none⟩ = some (.slice ai l ci) ∧ w'.cell? ⟨b', o' + k * 2, none⟩ = some (.int .i64 x) ∧ w'.cell? ⟨b', o' + k * 2 + 1, none⟩ = some (.slice ai' l ci')) (first | exact ⟨c0, c1, d0, d1⟩ | exact hc5 | go_keep)
        (first
        | (go_at_call 35; refine (wExact_same ks l HL ai ai' ci ci' _ hnd hnd' hkl).mono ?_; rintro e w5 ⟨rfl, hb5⟩; have hc5 : w5.cell? ⟨b, o + k * 2, none⟩ = some (.int .i64 x) ∧ w5.cell? ⟨b, o + k * 2 + 1, none⟩ = some (.slice ai l ci) ∧ w5.cell? ⟨b', o' + k * 2, none⟩ = some (.int .i64 x) ∧ w5.cell? ⟨b', o' + k * 2 + 1, none⟩ = some (.slice ai' l ci') := ⟨(bcell_drew hb5 b _ hbl).trans c0, (bcell_drew hb5 b _ hbl).trans c1, (bcell_drew hb5 b' _ hbl').trans d0, (bcell_drew hb5 b' _ hbl').trans d1⟩))
      have hbb := Below.step hb (undrew hb5)
      clear hb hb5 hc5 c0 c1 d0 d1 hnd hnd'
      go_wp2
      go_roundw
      case rel => exact ⟨k + 1, by omega, by go_num, hbb⟩
      case measure => simp [intOf]; omega
    · clear hx hy
      go_wp2
      go_ret
      exact ⟨rfl, hb⟩

end Go.Proofs.Ytkmlfpfgiblcdab

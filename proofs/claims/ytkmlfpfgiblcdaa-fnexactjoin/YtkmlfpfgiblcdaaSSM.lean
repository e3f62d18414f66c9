
import Derived.Test.YtkmlfpfgiblcdaaSSW
import Derived.Test.YtkmlfpfgiblcdaaEq
import Derived.Test.YtkmlfpfgiblcdaaHeld
namespace Go.Proofs.Ytkmlfpfgiblcdaa
open Go.RowKit

theorem alike_refl (xs : List Nd) : Alike Nd.eqb xs xs := ⟨rfl, fun _ _ _ => Nd.eqb_refl _⟩

set_option maxHeartbeats 1000000 in
theorem eqNodeSS_same (kss : List (List Nd)) (n : Nat) (HN : Hid (kss.length = n)) (ao bo : Option Addr) (cap cbp : Nat) (w : World) (hx : Lists w ao kss) (hy : Lists w bo kss) (hm : ∀ ks ∈ kss, ks.length ≤ 1048576) (hlx : n ≤ 1048576) :
    Calls Try.prog 22 #[.slice ao n cap, .slice bo n cbp] w fun e w' => e = .returned (.bool true) ∧ Below w.heap.size w w' := by
  go_enter Try.func22, Try.ntmps22
  go_wp2
  go_loopw [5] (fun i wr => ∃ (k : Nat), k ≤ n ∧ i = .int .i64 k ∧ Below w.heap.size w wr) (fun i _ => n - (intOf i).toNat)
  case atStart => exact ⟨0, Nat.zero_le _, rfl, Below.refl _ _⟩
  case round =>
    obtain ⟨k, hk, rfl, hb⟩ := hrel
    by_cases hlt : k < n
    · have hltk : k < kss.length := by have := HN.out; omega
      obtain ⟨b, o, ai, ci, rfl, hc, hn⟩ := hx.below hb k hltk
      obtain ⟨b', o', ai', ci', rfl, hc', hn'⟩ := hy.below hb k hltk
      have hmk := hm kss[k] (List.getElem_mem hltk)
      obtain ⟨ks, hks⟩ : ∃ ks, kss[k] = ks := ⟨_, rfl⟩
      rw [hks] at hc hc' hn hn' hmk
      obtain ⟨l, hl⟩ : ∃ l, ks.length = l := ⟨_, rfl⟩
      have HL : Hid (ks.length = l) := hl
      rw [hl] at hc hc' hmk
      have hlb : b < wr.heap.size := lt_of_cell hc
      have hlb' : b' < wr.heap.size := lt_of_cell hc'
      have hB : Below wr.heap.size wr wr.drew := (Below.refl _ _).drew
      have hnd := hn.below hB
      have hnd' := hn'.below hB
      clear hx hy hm hks hl hn hn'
      go_wp2_with fail
      go_region_with (go_at_call 13; refine (eqNodeS_any ks ks l l HL HL ai ai' ci ci' _ hnd hnd' (by omega) (by omega)).mono ?_; rintro e w1 ⟨⟨r, rfl, hr⟩, hb1⟩; have hr1 : r = true := hr.2 (alike_refl ks); subst hr1; clear hr)
      all_goals
        have hbb := Below.step hb (undrew hb1)
        clear hb hb1 hc hc' hB hnd hnd'
        go_wp2
        go_roundw
        case rel => exact ⟨k + 1, by omega, by go_num, hbb⟩
        case measure => simp [intOf]; omega
    · clear hx hy hm
      go_wp2
      go_ret
      exact ⟨rfl, hb⟩

set_option maxHeartbeats 1000000 in
theorem markNodeSS_any (kss : List (List Nd)) (n : Nat) (HN : Hid (kss.length = n)) (g : Nat) (gs : List Nat) (cap k : Nat) (w : World) (hx : Two w g gs kss) (ht : total kss ≤ 1048576) (hlx : n ≤ 1048576) (hk : k ≤ 1000) (hk0 : 0 < k) :
    Calls Try.prog 23 #[.slice (some ⟨g, 0, none⟩) n cap, .int .i64 k] w fun e w' => e = .returned (.int .i64 (k + 5 * total kss : Nat)) ∧ But (· ∈ gs) w w' := by
  have HG : Hid (gs.length = n) := hx.rows.1.trans HN.out
  go_enter Try.func23, Try.ntmps23
  go_wp2
  go_loopw [1, 5] (fun a i wr => ∃ (j : Nat), j ≤ n ∧ i = .int .i64 j ∧ a = .int .i64 (k + 5 * total (kss.take j) : Nat) ∧ OwnS wr g (leads gs kss) ∧ (∀ i (h : i < gs.length) (h' : i < kss.length), j ≤ i → Row wr gs[i] kss[i]) ∧ But (· ∈ gs) w wr) (fun _ i _ => n - (intOf i).toNat)
  case atStart => exact ⟨0, Nat.zero_le _, rfl, rfl, hx.lead, fun i h h' _ => hx.rows.2 i h h', But.refl _ _⟩
  case round =>
    obtain ⟨j, hj, rfl, rfl, hown, hrows, hb⟩ := hrel
    by_cases hlt : j < n
    · have hltk : j < kss.length := by have := HN.out; omega
      have hltg : j < gs.length := by have := HG.out; omega
      have hc : wr.cell? ⟨g, j, none⟩ = some (.slice (some ⟨gs[j], 0, none⟩) kss[j].length kss[j].length) := by
        rw [hown.at j]
        simp [leads, List.getElem?_zipWith, List.getElem?_eq_getElem hltk, List.getElem?_eq_getElem hltg]
      have hr := hrows j hltg hltk (Nat.le_refl _)
      have hts := total_take_succ kss j hltk
      have htl := total_take_le kss (j + 1)
      obtain ⟨q, hq⟩ : ∃ q, k + 5 * total (kss.take j) = q := ⟨_, rfl⟩
      obtain ⟨l, hl⟩ : ∃ l, kss[j].length = l := ⟨_, rfl⟩
      have HQ : Hid (k + 5 * total (kss.take (j + 1)) = q + 5 * l) := by show k + 5 * total (kss.take (j + 1)) = q + 5 * l; omega
      have hq1 : q ≤ 10000000 := by omega
      have hl1 : l ≤ 1048576 := by omega
      have hq0 : 0 < q := by omega
      have HL : Hid (kss[j].length = l) := hl
      have hne := hown.ne hr
      have HND : Hid gs.Nodup := hx.nodup
      rw [hq]
      rw [hl] at hc
      have HR : Hid (∀ i (h : i < gs.length) (h' : i < kss.length), j ≤ i → Row wr gs[i] kss[i]) := hrows
      clear hts htl hq hl hx hrows
      go_wp2_with fail
      refine (markNodeS_any kss[j] l gs[j] l q wr HL hr (by omega) (by omega) (by omega)).mono ?_
      rintro e w1 ⟨rfl, _, hb1⟩
      have o1 := hown.but hb1 (fun e => hne e.symm)
      have bb := hb.trans (hb1.mono (fun q hq => by rw [hq]; exact List.getElem_mem hltg))
      have HR2 : Hid (∀ i (h : i < gs.length) (h' : i < kss.length), j + 1 ≤ i → Row w1 gs[i] kss[i]) := by
        intro i h h' hi
        refine hb1.row (HR.out i h h' (by omega)) ?_
        intro e
        have := (List.getElem_inj (h₀ := h) (h₁ := hltg) HND.out).1 e
        omega
      clear hb hb1 hown hr hne HR hc
      go_wp2
      go_roundw
      case rel => exact ⟨j + 1, by omega, by go_num, by rw [HQ.out]; go_num, o1, HR2.out, bb⟩
      case measure => simp [intOf]; omega
    · have HE : Hid (kss.take j = kss) := List.take_of_length_le (by have := HN.out; omega)
      clear hx hrows hown
      go_wp2
      go_ret
      exact ⟨by rw [HE.out]; congr 1, hb⟩

end Go.Proofs.Ytkmlfpfgiblcdaa

import Derived.Test.YtkmlfpfgiblcdabZAG
import Derived.Test.YtkmlfpfgiblcdabEq
import Derived.Test.YtkmlfpfgiblcdabLeafSame
import Derived.StillTactics
namespace Go.Proofs.Ytkmlfpfgiblcdab
open Go.RowKit

set_option maxRecDepth 100000 in
set_option maxHeartbeats 2000000 in
theorem drawCanon_any (n : Nat) (hn : n ≤ 1048576) (ao : Option Addr) (cap : Nat) (w : World) (hc : Code w ao n) :
    Calls Try.prog 65 #[.slice ao n cap] w fun e w' => ∃ g c l zs, e = .returned (.slice (some ⟨g, 0, none⟩) l c) ∧ zs.length = l ∧ l ≤ 64 ∧ Row w' g zs ∧ NumD zs ∧ Below w.heap.size w w' := by
  obtain ⟨i0, hi, hz0, hz1, hz2⟩ := info_parts Try.infoN
  go_enter Try.func65, Try.ntmps65
  go_wp2_with fail
  refine (takeB_any n hn ao cap w hc 0 10 (by omega) (by omega) (by omega)).mono ?_
  rintro e w1 ⟨⟨how, hhow, rfl⟩, hb1⟩
  have HD := drawType_any n hn ao cap 6 (by omega) (by omega) 5 (by omega) 1 w1 (hc.below hb1) (by simp [stepsT])
  go_wp2_with fail
  refine HD.mono ?_
  rintro e w2 ⟨g, c, l, p, zs, rfl, hl, h0, hlm, hg, hon, hnn, _, hb2⟩
  have hb := Below.step hb1 hb2
  have hs1 := hb1.size
  have hl63 : l ≤ 63 := by simpa [maxT] using hlm
  have hob := owns_block hon.2
  clear HD hb1 hb2 hlm
  by_cases h9 : how = 9
  · subst h9
    have hO2 := hon.alloc (.cells #[.int .i64 60, .int .i64 0, .string ByteArray.empty, .int .i64 0, .int .i64 0] 53)
    have hone := nd_new_cells w2 ⟨60, 0, ByteArray.empty, 0, 0⟩
    go_wp2_with (at_builtin; refine wpList_append2 _ rfl (.tmp 20) (.tmp 22) 25 rfl w1.heap.size 53 i0 _ 5 48 Try.underlying25 hi hz0 hz1 hz2 rfl (by decide) g l c _ rfl hO2.2 ⟨_, 0, none⟩ 1 1 (Nd.row ⟨60, 0, ByteArray.empty, 0, 0⟩) rfl rfl hone (nd_row_one _) ?a3 ?a4 ?a5 ?_)
    case a3 => unfold maxLen; omega
    case a4 => omega
    case a5 => simp; omega
    intro g3 c3 w3 hown3 hgrow3 hwh
    have hO3 := OwnN.push hown3 hon.1 rfl
    have hb3 : Below w.heap.size w w3 := (hb.alloc hb.size _).grown hgrow3 (hb.alloc hb.size _).size (fun q hq => by cases hq; omega)
    clear hown3 hgrow3 hwh hO2 hone hon hb
    go_wp2
    go_ret
    exact ⟨g3, c3, l + 1, _, rfl, hO3.1, by omega, hO3.row.2, hnn.append (NumD.one (by simp) (by simp)), hb3⟩
  · have h9i : ((how : Int) == 9) = false := by simp; omega
    go_wp2
    go_ret
    exact ⟨g, c, l, zs, rfl, hl, by omega, hon.row.2, hnn, hb⟩

set_option maxHeartbeats 400000 in
theorem drawUnknowns_any (n : Nat) (hn : n ≤ 1048576) (ao : Option Addr) (cap : Nat) (w : World) (hc : Code w ao n) :
    Calls Try.prog 33 #[.slice ao n cap] w fun e w' => ∃ g c l zs, e = .returned (.slice (some ⟨g, 0, none⟩) l c) ∧ zs.length = l ∧ l ≤ 64 ∧ Row w' g zs ∧ NumD zs ∧ Below w.heap.size w w' := by
  go_enter Try.func33, Try.ntmps33
  go_wp2_with fail
  refine (drawCanon_any n hn ao cap w hc).mono ?_
  rintro e w1 ⟨g, c, l, zs, rfl, hl, hl2, hr, hn', hb⟩
  go_wp2
  go_ret
  exact ⟨g, c, l, zs, rfl, hl, hl2, hr, hn', hb⟩

end Go.Proofs.Ytkmlfpfgiblcdab

namespace Go.Proofs.Ytkmlfpfgiblcdab
open Go.RowKit

theorem neqS (x : Nd) (w : World) :
    (binOp .neq 53 (.agg #[.int .i64 x.kind, .int .i64 x.num, .string x.text, .int .i64 x.kids, .int .i64 x.place]) (.agg #[.int .i64 x.kind, .int .i64 x.num, .string x.text, .int .i64 x.kids, .int .i64 x.place])).run Try.prog w =
      .ok (.bool false) w := by
  go_simp
  repeat' split
  all_goals simp_all

theorem Try.mixed : Try.prog.follows .mixedOrders = true := by kernel_rfl

set_option maxRecDepth 20000 in
set_option maxHeartbeats 1000000 in
/-- Equal lists are exact. -/
theorem wExact_same (xs : List Nd) (n : Nat) (HX : Hid (xs.length = n)) (ao bo : Option Addr) (cap cbp : Nat) (w : World) (hx : Nodes w ao xs) (hy : Nodes w bo xs) (hlx : n ≤ 1048576) :
    Calls Try.prog 35 #[.slice ao n cap, .slice bo n cbp] w fun e w' => e = .returned (.bool true) ∧ Below w.heap.size w w' := by
  go_enter Try.func35, Try.ntmps35
  go_wp2
  go_loopw [5] (fun i wr => ∃ (k : Nat), k ≤ n ∧ i = .int .i64 k ∧ Below w.heap.size w wr) (fun i _ => n - (intOf i).toNat)
  case atStart => exact ⟨0, Nat.zero_le _, rfl, Below.refl _ _⟩
  case round =>
    obtain ⟨k, hk, rfl, hb⟩ := hrel
    by_cases hlt : k < n
    · have hltk : k < xs.length := by have := HX.out; omega
      obtain ⟨b, o, rfl, hn⟩ := hx.below hb k hltk
      obtain ⟨b', o', rfl, hn'⟩ := hy.below hb k hltk
      obtain ⟨x, hxk⟩ : ∃ x, xs[k] = x := ⟨_, rfl⟩
      rw [hxk] at hn hn'
      obtain ⟨c0, c1, c2, c3, c4⟩ := hn
      obtain ⟨d0, d1, d2, d3, d4⟩ := hn'
      clear hx hy hxk
      have hne := neqS x
      go_wp2
      go_still Try.mixed
      have hb2 : Below w.heap.size w wr.drew := hb.drew
      go_wp2
      go_roundw
      case rel => exact ⟨k + 1, by omega, by go_num, hb2⟩
      case measure => (simp [intOf]) <;> omega
    · clear hx hy
      go_wp2
      go_ret
      exact ⟨rfl, hb⟩

end Go.Proofs.Ytkmlfpfgiblcdab

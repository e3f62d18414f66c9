
import Derived.Test.YtkmlfpfgiblcdaaKidSp
import Derived.Test.YtkmlfpfgiblcdaaSKids
import Derived.Test.YtkmlfpfgiblcdaaClone
namespace Go.Proofs.Ytkmlfpfgiblcdaa
open Go.RowKit Go.Shelf

attribute [local go_sem] Oper.semAt_some

/-- What kidsOf hands out: slices of the term itself. -/
def encK (g : Nat) (s : Sp) : Array Value := #[.slice (some ⟨g, s.fr * 5, none⟩) (s.rt + 1 - s.fr) (s.rt + 1 - s.fr)]

theorem Sps.but {S : Nat → Prop} {w w' : World} {G : Nat} {ks : List Sp} (h : Sps w (some ⟨G, 0, none⟩) ks) (hb : But S w w') (hs : ¬ S G) : Sps w' (some ⟨G, 0, none⟩) ks := by
  intro i hi
  obtain ⟨b, o, e, h0, h1, h2⟩ := h i hi
  cases e
  have hl : G < w.heap.size := lt_of_cell h0
  have hc : ∀ j, w'.cell? ⟨G, j, none⟩ = w.cell? ⟨G, j, none⟩ := fun j => World.cell?_of_block (a := ⟨G, j, none⟩) (hb.block G hl hs)
  exact ⟨G, 0, rfl, (hc _).trans h0, (hc _).trans h1, (hc _).trans h2⟩

set_option maxRecDepth 100000 in
set_option maxHeartbeats 2000000 in
theorem kidsOf1_turn (t : List Nd) (m q cm : Nat) (hcm : m ≤ cm) (HM : Hid (t.length = m)) (hm : m ≤ 6000) (h0 : 0 < m) (S ys K : List Sp) (HA : Hid (after t m = some (S, ys))) (HK : Hid (KidsAt t ys (m - 1) K)) (HQ : Hid (K.length = q)) (g Bn n₀ n : Nat) (w : World)
    (w00 : World) (hsz : w00.heap.size = n₀) (hx : Row w00 g t) :
    Iter2 Fence.wide n Try.prog 51 #[.pointer (some ⟨Bn, 0, none⟩)] (encK g) (fun xs => xs = K) (fun _ => True) (fun pre x => K[pre.length]? = some x) (fun A => Box1 A Bn 25 (.slice (some ⟨g, 0, none⟩) m cm) ∧ Below n₀ w00 A) q n₀ w := by
  intro J Jx hJ hJU hY W hW hWs hJ0
  have hRd := (hJU _ _ _ hJ0).2
  have hc := hRd.1.cell
  have hgl := hx.lt
  have hxW := hx.below (hRd.2.mono (by omega))
  refine callsIn_of_wp Try.func51 rfl trivial ?_
  simp only [Try.ntmps51, List.size_toArray, List.length_cons, List.length_nil, Nat.reduceAdd, Nat.reduceSub, Array.replicate_succ, Array.replicate_zero, List.push_toArray, List.append_toArray, List.nil_append, List.cons_append]
  gi_wp2_with fail
  refine ⟨trivial, fun h => (by cases h), callsIn_wide.2 ((kidSpans_any t m q HM hm h0 S ys K HA HK HQ _ _ _ hxW.nodes).mono ?_)⟩
  rintro e w2 ⟨G, rfl, hsp, hG, hb2⟩
  have hJ2 := hJ _ _ _ _ hJ0 (But.ofBelow hb2)
  have hqm : q ≤ 6000 := by have := HK.out.len; have := HQ.out; omega
  have hGW : w.heap.size + 2 ≤ G := by omega
  clear hRd hc hxW hx hb2 hJ0 hG hgl
  gi_wp2
  gi_loopw [8] (fun p wr => ∃ (j : Nat) (U : Nat → Prop), j ≤ q ∧ p = .int .i64 (j : Int) ∧ J (K.take j) U wr ∧ Sps wr (some ⟨G, 0, none⟩) K ∧ ¬ U G) (fun p _ => q - (intOf p).toNat)
  case atStart => exact ⟨0, fun _ => False, Nat.zero_le _, rfl, hJ2, hsp, fun h => h⟩
  case round =>
    obtain ⟨j, U, hj, rfl, hjj, hspr, hUG⟩ := hrel
    clear hJ2 hsp
    by_cases hlt : j < q
    · have hltK : j < K.length := by have := HQ.out; omega
      obtain ⟨s, hs⟩ : ∃ s, K[j] = s := ⟨_, rfl⟩
      obtain ⟨hmem, hfr, hrt⟩ := HK.out.mem j hltK
      rw [hs] at hfr hrt
      obtain ⟨b, o, he, hat⟩ := hspr j hltK
      cases he
      rw [hs, Nat.zero_add] at hat
      obtain ⟨c0, c1, c2⟩ := hat
      have hGl : G < wr.heap.size := lt_of_cell c0
      obtain ⟨hUl, hbx, _⟩ := hJU _ _ _ hjj
      have hcx := hbx.cell
      have hBl := hbx.lt
      have HT : Hid (K.take (j + 1) = K.take j ++ [s]) := by show K.take (j + 1) = _; rw [List.take_succ_eq_append_getElem hltK, hs]
      have HN : Hid (K[(K.take j).length]? = some s) := by
        have e : (K.take j).length = j := by simp; omega
        show K[(K.take j).length]? = some s
        rw [e, List.getElem?_eq_getElem hltK, hs]
      have HSP : Hid (Sps wr (some ⟨G, 0, none⟩) K) := hspr
      have hln : (K.take j).length < q := by simp; omega
      clear hspr hs hmem hbx
      gi_wp2_with fail
      refine ⟨trivial, fun h => (by cases h), callsIn_wide.2 ((cut_any m cm hcm s hfr (by omega) hm g _).mono ?_)⟩
      rintro e w3 ⟨rfl, hb3⟩
      have hA : Below wr.heap.size wr (wr.alloc (.cells #[.int .i64 (s.fr : Int), .int .i64 (s.rt : Int), .int .i64 (s.dp : Int)] 61)) := (Below.refl _ wr).alloc (Nat.le_refl _) _
      have hB3 := Below.step hA hb3
      have hJ3 := hJ _ _ _ _ hjj (But.ofBelow hB3)
      have HS3 : Hid (Sps w3 (some ⟨G, 0, none⟩) K) := HSP.out.below hB3
      have hG3 : G < w3.heap.size := by have := hB3.size; omega
      obtain ⟨fn, tmps, assign, body, hy, hR⟩ := hY _ U s w3 hJ3 hln HN.out
      simp only [encK] at hy
      clear hb3 hA hB3 HSP c0 c1 c2 hcx
      gi_wp2_with fail
      refine ⟨fun h => (by cases h), hR.mono ?_⟩
      rintro e W3 (⟨rfl, ⟨U', hJ4, hU4⟩, hk4⟩ | ⟨rfl, hJx4⟩)
      · have HS4 : Hid (Sps W3 (some ⟨G, 0, none⟩) K) := HS3.out.but hk4 (fun h => h.2.elim (fun h => by omega) hUG)
        have hUG4 : ¬ U' G := fun h => (hU4 G h).elim hUG (fun h => by omega)
        rw [← HT.out] at hJ4
        gi_wp2
        go_roundw
        case rel => exact ⟨j + 1, U', by omega, by go_num, hJ4, HS4.out, hUG4⟩
        case measure => simp [intOf]; omega
      · gi_wp2
        refine bodyPost_ret (results_none rfl _ _ _) rfl ?_
        exact ⟨⟨_, rfl⟩, .inr ⟨_, trivial, hJx4⟩⟩
    · have HE : Hid (K.take j = K) := List.take_of_length_le (by have := HQ.out; omega)
      rw [HE.out] at hjj
      clear hspr
      gi_wp2
      go_end0
      exact ⟨⟨_, rfl⟩, .inl ⟨K, U, rfl, hjj⟩⟩

set_option maxHeartbeats 400000 in
theorem kidsOf_any (ao : Option Addr) (n cap : Nat) (w : World) :
    Calls Try.prog 48 #[.slice ao n cap] w fun e w' => e = .returned (.func (.func 51) #[] #[.pointer (some ⟨w.heap.size, 0, none⟩)]) ∧ w' = w.alloc (.cells #[.slice ao n cap] 25) := by
  go_enter Try.func48, Try.ntmps48
  go_wp2
  go_ret
  exact ⟨rfl, rfl⟩

end Go.Proofs.Ytkmlfpfgiblcdaa


import Derived.Test.YtljdcaoibnikjaaYAI
import Derived.Test.YtljdcaoibnikjaaSpOver
namespace Go.Proofs.Ytljdcaoibnikjaa
open Go.RowKit

theorem nodes_news {w : World} {ad : Addr} {xs : List Nd} (h : Nodes w (some ad) xs) : ∀ j u, (flat xs)[j]? = some u → w.cell? (ad.add j) = some u := by
  intro j u hj
  have hl : j < (flat xs).length := (List.getElem?_eq_some_iff.1 hj).1
  rw [flat_length] at hl
  have hq : j / 5 < xs.length := by omega
  obtain ⟨b, o, e, hn⟩ := h (j / 5) hq
  simp only [Option.some.injEq] at e
  subst e
  have ej : j = (j / 5) * 5 + j % 5 := by omega
  have hr : j % 5 < 5 := by omega
  have hg := flat_get xs (j / 5) (j % 5) hq hr
  rw [← ej] at hg
  rw [hg] at hj
  have ad1 : ∀ k, Addr.add ⟨b, o, none⟩ k = ⟨b, o + k, none⟩ := by
    intro k
    unfold Addr.add
    split
    · rename_i h0; rw [h0]; rfl
    · rfl
  obtain ⟨c0, c1, c2, c3, c4⟩ := hn
  have ad2 : Addr.add ⟨b, o, none⟩ j = ⟨b, o + j / 5 * 5 + j % 5, none⟩ := by
    rw [ad1]
    congr 1
    omega
  rw [ad2]
  generalize j % 5 = r at hj hr ⊢
  match r, hr with
  | 0, _ => simp [Nd.row] at hj; subst hj; exact c0
  | 1, _ => simp [Nd.row] at hj; subst hj; exact c1
  | 2, _ => simp [Nd.row] at hj; subst hj; exact c2
  | 3, _ => simp [Nd.row] at hj; subst hj; exact c3
  | 4, _ => simp [Nd.row] at hj; subst hj; exact c4

set_option maxHeartbeats 400000 in
theorem clone_any (xs : List Nd) (m : Nat) (HM : Hid (xs.length = m)) (hm : m ≤ 1048576) (ad : Addr) (cap : Nat) (w : World) (hx : Nodes w (some ad) xs) :
    Calls Try.prog 39 #[.slice (some ad) m cap] w fun e w' => ∃ g c, e = .returned (.slice (some ⟨g, 0, none⟩) m c) ∧ w.heap.size ≤ g ∧ Row w' g xs ∧ Below w.heap.size w w' := by
  obtain ⟨i0, hi, hz0, hz1, hz2⟩ := info_parts Try.infoN
  have hO := OwnN.empty (w := w) (B := w.heap.size) (Nat.le_refl _)
  have hnil : ∀ (w : World), (binOp .eql 27 (.slice (some ad) m cap) (.slice none 0 0)).run Try.prog w = .ok (.bool false) w := fun w => Lib.run_eql_slice_nil w _ _ (some ad) m cap 0 0 Try.underlying27
  have hn := nodes_news (hx.below ((Below.refl _ w).alloc (Nat.le_refl _) (.cells #[] 53)))
  go_enter Try.func39, Try.ntmps39
  clear hx
  go_wp2_with (at_builtin; refine wpList_append2 _ rfl (.tmp 5) (.tmp 6) 27 rfl w.heap.size 53 i0 _ 5 48 Try.underlying27 hi hz0 hz1 hz2 rfl (by decide) w.heap.size 0 0 _ rfl hO.2 ad m cap (flat xs) rfl ?a1 hn (nd_flat_one xs) ?a3 ?a4 ?a5 ?_)
  case a1 => rw [flat_length, HM.out]
  case a3 => unfold maxLen; omega
  case a4 => omega
  case a5 => simp
  intro g2 c2 w2 hown2 hgrow2 hwh
  have hF : OwnN w2 w.heap.size g2 c2 m xs := ⟨HM.out, by simpa [flat] using hown2⟩
  obtain ⟨hg, hr⟩ := hF.row
  have hbb : Below w.heap.size w w2 := ((Below.refl _ w).alloc (Nat.le_refl _) _).grown hgrow2 (by simp) (fun q hq => by cases hq; exact Nat.le_refl _)
  clear hown2 hgrow2 hwh hF hO hn
  go_wp2
  go_ret
  exact ⟨_, _, rfl, hg, hr, hbb⟩

end Go.Proofs.Ytljdcaoibnikjaa

import Derived.Test.YthioecjcnajmgaaGreatDoorKGen
import Derived.Test.YthioecjcnajmgaaGreatDoorDrawP
import Derived.BigQuiet
namespace Go.Proofs.YthioecjcnajmgaaGreatDoor
open Go.RowKit

set_option maxHeartbeats 1000000 in
theorem wSameNums_same (xs : List Int) (n : Nat) (HX : Hid (xs.length = n)) (ao bo : Option Addr) (cap cbp : Nat) (w : World) (hx : LCells w ao xs) (hy : LCells w bo xs) (hlx : n ≤ 1048576) :
    Calls Tryz.prog 10 #[.slice ao n cap, .slice bo n cbp] w fun e w' => e = .returned (.bool true) ∧ Below w.heap.size w w' := by
  go_enter Tryz.func10, Tryz.ntmps10
  go_wp2
  go_loopw [5] (fun i wr => ∃ (k : Nat), k ≤ n ∧ i = .int .i64 k ∧ Below w.heap.size w wr) (fun i _ => n - (intOf i).toNat)
  case atStart => exact ⟨0, Nat.zero_le _, rfl, Below.refl _ _⟩
  case round =>
    obtain ⟨k, hk, rfl, hb⟩ := hrel
    by_cases hlt : k < n
    · have hltx : k < xs.length := by have := HX.out; omega
      obtain ⟨b, o, rfl, c0⟩ := hx.below hb k hltx
      obtain ⟨b', o', rfl, e0⟩ := hy.below hb k hltx
      obtain ⟨v, hv⟩ : ∃ v, xs[k] = v := ⟨_, rfl⟩
      rw [hv] at c0 e0
      have tv : (v != v) = false := by simp
      clear hx hy hv
      go_wp2_with fail
      go_quiet (fail)
      go_wp2
      go_roundw
      case rel => exact ⟨k + 1, by omega, by go_num, Below.step hb ⟨rfl, rfl, rfl, Nat.le_refl _, fun _ _ => rfl⟩⟩
      case measure => simp [intOf]; omega
    · clear hx hy
      go_wp2
      go_ret
      exact ⟨rfl, hb⟩

/-- A list that lies elsewhere. -/
def Aside (w : World) (g : Nat) (ao : Option Addr) : Prop := ∀ b o, ao = some ⟨b, o, none⟩ → b ≠ g ∧ b < w.heap.size

/-- Pairs of lists that lie wherever they do, in a slice of the call's own. -/
structure GPr (w : World) (B g c : Nat) (ps : List (List Nd × List Nd)) (vs : List (Value × Value)) : Prop where
  own : OwnPs w B g c ps.length vs
  rows : ∀ j (h : j < ps.length), ∃ a1 c1 a2 c2, vs[j]? = some (.slice a1 ps[j].1.length c1, .slice a2 ps[j].2.length c2) ∧ Nodes w a1 ps[j].1 ∧ Nodes w a2 ps[j].2 ∧ Aside w g a1 ∧ Aside w g a2

theorem GPr.empty {w : World} {B : Nat} (hB : B ≤ w.heap.size) : GPr (w.alloc (.cells #[] 30)) B w.heap.size 0 [] [] :=
  ⟨OwnPs.empty hB, fun j h => by simp at h⟩

theorem GPr.block {w : World} {B g c : Nat} {ps : List (List Nd × List Nd)} {vs : List (Value × Value)} (h : GPr w B g c ps vs) : B ≤ g ∧ g < w.heap.size := owns_block h.own.2

theorem Aside.mono {w w' : World} {g : Nat} {ao : Option Addr} (h : Aside w g ao) (hs : w.heap.size ≤ w'.heap.size) : Aside w' g ao := fun b o e => by
  have := h b o e
  omega

theorem GPr.below {w w' : World} {B g c : Nat} {ps : List (List Nd × List Nd)} {vs : List (Value × Value)} (h : GPr w B g c ps vs) (hb : Below w.heap.size w w') : GPr w' B g c ps vs :=
  ⟨h.own.but (S := fun _ => False) (But.ofBelow hb) (fun h => h), fun j hj => by
    obtain ⟨a1, c1, a2, c2, e, h1, h2, h3, h4⟩ := h.rows j hj
    exact ⟨a1, c1, a2, c2, e, h1.below hb, h2.below hb, h3.mono hb.size, h4.mono hb.size⟩⟩

theorem GPr.pairs {w : World} {B g c : Nat} {ps : List (List Nd × List Nd)} {vs : List (Value × Value)} (h : GPr w B g c ps vs) : Pairs w (some ⟨g, 0, none⟩) ps := by
  intro j hj
  obtain ⟨a1, c1, a2, c2, e, h1, h2, _, _⟩ := h.rows j hj
  obtain ⟨_, _, ho⟩ := h.own.row
  have hl : vs.length = ps.length := h.own.1
  have hlt : j < vs.length := by omega
  have e2 : vs[j] = (.slice a1 ps[j].1.length c1, .slice a2 ps[j].2.length c2) := by
    rw [List.getElem?_eq_getElem hlt] at e
    simpa using e
  obtain ⟨d0, d1⟩ := cells2_get vs j hlt
  rw [e2] at d0 d1
  have hcl := cells2_length vs
  refine ⟨g, 0, a1, c1, a2, c2, rfl, ?_, ?_, h1, h2⟩
  · rw [Nat.zero_add]
    exact (OwnT.at ho (j * 2) (by omega)).trans d0
  · rw [Nat.zero_add]
    exact (OwnT.at ho (j * 2 + 1) (by omega)).trans d1

theorem GPr.push {w w' : World} {B g c g2 c2 ca cb : Nat} {ps : List (List Nd × List Nd)} {vs : List (Value × Value)} {a b : List Nd} {aa ab : Option Addr} (h : GPr w B g c ps vs) (hg : w.grownBy w' (some g)) (hw : g2 = g ∨ g2 = w.heap.size) (hs : w.heap.size ≤ w'.heap.size) (hra : Nodes w aa a) (hrb : Nodes w ab b) (hoa : Aside w g aa) (hob : Aside w g ab)
    (ho : w'.ownsRow B 30 2 (.slice (some ⟨g2, 0, none⟩) (ps.length + 1) c2) (ps.length + 1) (cells2 vs ++ [.slice aa a.length ca, .slice ab b.length cb])) :
    GPr w' B g2 c2 (ps ++ [(a, b)]) (vs ++ [(.slice aa a.length ca, .slice ab b.length cb)]) := by
  have hvl : vs.length = ps.length := h.own.1
  have hbut : But (· = g) w w' := (But.refl (· = g) w).grown hg (fun _ => rfl)
  have kept : ∀ {q : Option Addr} {zs : List Nd}, Nodes w q zs → Aside w g q → Nodes w' q zs := fun {q zs} hq hne => hq.but hbut (fun b o e => (hne b o e).1)
  have aside : ∀ {q : Option Addr}, Aside w g q → Aside w' g2 q := fun {q} hq b o e => by
    have := hq b o e
    rcases hw with rfl | rfl <;> omega
  have hO := OwnPs.push (x := (.slice aa a.length ca, .slice ab b.length cb)) ho hvl rfl
  refine ⟨by simpa using hO, ?_⟩
  intro j hj
  by_cases hji : j < ps.length
  · obtain ⟨a1, c1, a2, c2, e, h1, h2, h3, h4⟩ := h.rows j hji
    refine ⟨a1, c1, a2, c2, ?_, ?_, ?_, aside h3, aside h4⟩
    · rw [List.getElem?_append_left (by omega), List.getElem_append_left hji]
      exact e
    · rw [List.getElem_append_left hji]
      exact kept h1 h3
    · rw [List.getElem_append_left hji]
      exact kept h2 h4
  · have hje : j = ps.length := by simp at hj; omega
    subst hje
    refine ⟨aa, ca, ab, cb, ?_, ?_, ?_, aside hoa, aside hob⟩
    · rw [List.getElem?_append_right (by omega)]
      simp [hvl]
    · simp only [List.getElem_append_right (Nat.le_refl _), Nat.sub_self, List.getElem_cons_zero]
      exact kept hra hoa
    · simp only [List.getElem_append_right (Nat.le_refl _), Nat.sub_self, List.getElem_cons_zero]
      exact kept hrb hob

end Go.Proofs.YthioecjcnajmgaaGreatDoor

import Derived.Test.YtkmlfpfgiblcdabTake
import Derived.Test.YtkmlfpfgiblcdabSJoin
import Derived.Test.YtkmlfpfgiblcdabCopy
import Derived.Test.YtkmlfpfgiblcdabSCanon
import Derived.Test.YtkmlfpfgiblcdabOne
import Derived.Deep.Cut
import Derived.Test.YtkmlfpfgiblcdabSComp
import Derived.Deep.RegionLaw
import Derived.Deep.RegionHeld3
import Derived.BigQuiet
namespace Go.Proofs.Ytkmlfpfgiblcdab
open Go.RowKit

/-- Numbers that a draw may have. -/
def NumD (zs : List Nd) : Prop := ∀ z ∈ zs, 0 ≤ z.num ∧ z.num ≤ 1000

theorem NumD.append {xs ys : List Nd} (h : NumD xs) (h' : NumD ys) : NumD (xs ++ ys) := by
  intro z hz
  rcases List.mem_append.1 hz with hz | hz
  · exact h z hz
  · exact h' z hz

theorem NumD.one {n : Nd} (h0 : 0 ≤ n.num) (h1 : n.num ≤ 1000) : NumD [n] := by
  intro z hz
  simp at hz
  subst hz
  exact ⟨h0, h1⟩

theorem NumD.flatten {kss : List (List Nd)} (h : ∀ ks ∈ kss, NumD ks) : NumD kss.flatten := by
  intro z hz
  obtain ⟨ks, hk, hz⟩ := List.mem_flatten.1 hz
  exact h ks hk z hz

theorem NumD.wf {zs : List Nd} (h : NumD zs) : ∀ z ∈ zs, (Lit.int .i64 z.num).wf = true := by
  intro z hz
  have := h z hz
  exact WalkArith.wf_i64 (by omega)

/-- How far a draw goes on in its code, and how large what it draws is. -/
def stepsT : Nat → Nat
  | 0 => 3
  | d + 1 => 3 + 2 * stepsT d
def maxT : Nat → Nat
  | 0 => 1
  | d + 1 => 1 + 2 * maxT d

theorem stepsT_3 (d : Nat) : 3 ≤ stepsT d := by
  cases d <;> simp [stepsT]
theorem maxT_1 (d : Nat) : 1 ≤ maxT d := by
  cases d <;> simp [maxT]

/-- What l8DrawType answers. -/
def DrewT (w : World) (d p : Nat) (e : Ending) (w' : World) : Prop := ∃ (g c l p' : Nat) (zs : List Nd), e = .returned (.tuple #[.slice (some ⟨g, 0, none⟩) l c, .int .i64 (p' : Int)]) ∧ zs.length = l ∧ 0 < l ∧ l ≤ maxT d ∧ w.heap.size ≤ g ∧ OwnN w' w.heap.size g c l zs ∧ NumD zs ∧ p' ≤ p + stepsT d ∧ Below w.heap.size w w'

/-- And that it is one term. -/
def DrewTO (w : World) (d p : Nat) (e : Ending) (w' : World) : Prop := ∃ (g c l p' : Nat) (zs : List Nd), e = .returned (.tuple #[.slice (some ⟨g, 0, none⟩) l c, .int .i64 (p' : Int)]) ∧ zs.length = l ∧ 0 < l ∧ l ≤ maxT d ∧ w.heap.size ≤ g ∧ OwnN w' w.heap.size g c l zs ∧ NumD zs ∧ p' ≤ p + stepsT d ∧ Below w.heap.size w w' ∧ One zs

theorem DrewTO.drew {w w' : World} {d p : Nat} {e : Ending} (h : DrewTO w d p e w') : DrewT w d p e w' := by
  obtain ⟨g, c, l, p', zs, h1, h2, h3, h4, h5, h6, h7, h8, h9, _⟩ := h
  exact ⟨g, c, l, p', zs, h1, h2, h3, h4, h5, h6, h7, h8, h9⟩

theorem leafO (n : Nd) (h : n.kids = 0) : One [n] := One.join (A := []) (by simp) (by simp [h])


theorem OwnN.base {w : World} {B B' g c l : Nat} {zs : List Nd} (h : OwnN w B g c l zs) (hb : B' ≤ B) : OwnN w B' g c l zs := by
  obtain ⟨h1, h2, h3⟩ := h
  refine ⟨h1, h2, ?_⟩
  rcases h3 with h3 | ⟨g', cap, cur, e, h4, h5⟩
  · exact Or.inl h3
  · exact Or.inr ⟨g', cap, cur, e, by omega, h5⟩

set_option maxHeartbeats 400000 in
theorem leaf_any (k v : Int) (w : World) :
    Calls Try.prog 64 #[.int .i64 k, .int .i64 v] w fun e w' => e = .returned (.slice (some ⟨w.heap.size, 0, none⟩) 1 1) ∧ OwnN w' w.heap.size w.heap.size 1 1 [⟨k, v, ByteArray.empty, 0, 0⟩] ∧ Below w.heap.size w w' := by
  have h := OwnN.one (w := w) (B := w.heap.size) (Nat.le_refl _) ⟨k, v, ByteArray.empty, 0, 0⟩
  go_enter Try.func64, Try.ntmps64
  go_wp2
  go_ret
  exact ⟨rfl, h, (Below.refl _ _).alloc (Nat.le_refl _) _⟩

set_option maxHeartbeats 400000 in
theorem con_any (s : ByteArray) (ao : Option Addr) (cap : Nat) (w : World) :
    Calls Try.prog 82 #[.string s, .slice ao 0 cap] w fun e w' => ∃ g c, e = .returned (.slice (some ⟨g, 0, none⟩) 1 c) ∧ w.heap.size ≤ g ∧ OwnN w' w.heap.size g c 1 [⟨12, 0, s, 0, 0⟩] ∧ Below w.heap.size w w' := by
  have HJ := specJoin_any ⟨12, 0, s, 0, 0⟩ [] 0 rfl ao cap w (fun i hi => by simp at hi) (by simp [total]) (by omega)
  go_enter Try.func82, Try.ntmps82
  go_wp2_with fail
  refine HJ.mono ?_
  rintro e w1 ⟨v, rfl, hH, hb⟩
  obtain ⟨g, c, rfl, hg, _⟩ := hH.row (by simp)
  have hO : OwnN w1 w.heap.size g c 1 [⟨12, 0, s, 0, 0⟩] := ⟨rfl, by simpa [HoldsJ] using hH⟩
  clear HJ hH
  go_wp2
  go_ret
  exact ⟨g, c, rfl, hg, hO, hb⟩

theorem Try.infoV : (Try.prog.info? 25).map (fun i => (i.zero, i.size, i.bytes)) = some (some (.slice none 0 0), 1, 24) := by kernel_rfl

theorem one_cellT (T : Nat) (w : World) (v : Value) : ∀ j u, [v][j]? = some u → (w.alloc (.cells #[v] T)).cell? (Addr.add ⟨w.heap.size, 0, none⟩ j) = some u := by
  intro j u hj
  match j, hj with
  | 0, hj =>
    simp at hj
    subst hj
    have ad : Addr.add ⟨w.heap.size, 0, none⟩ 0 = ⟨w.heap.size, 0, none⟩ := by unfold Addr.add; simp
    rw [ad, cell_of_row _ w.heap.size 0 _ T (0, 0) (heap_alloc_new _ _)]
    rfl

theorem slice_one (ao : Option Addr) (l c : Nat) : ∀ u ∈ [Value.slice ao l c], u.oneCell' = true := by
  intro u hu
  simp at hu
  subst hu
  rfl

/-- Lists of nodes that were drawn, one by one. -/
structure Kds (w : World) (B g c i : Nat) (kss : List (List Nd)) (vs : List Value) : Prop where
  own : w.ownsRow B 25 1 (.slice (some ⟨g, 0, none⟩) i c) i vs
  len : kss.length = i
  rows : ∀ j (h : j < kss.length), ∃ gj cj, vs[j]? = some (.slice (some ⟨gj, 0, none⟩) kss[j].length cj) ∧ Row w gj kss[j]

theorem Kds.empty {w : World} {B : Nat} (hB : B ≤ w.heap.size) : Kds (w.alloc (.cells #[] 25)) B w.heap.size 0 0 [] [] :=
  ⟨⟨rfl, Or.inr ⟨_, 0, #[], rfl, hB, heap_alloc_new _ _, Nat.le_refl _, by simp [maxLen], rfl, rfl⟩⟩, rfl, fun j h => by simp at h⟩

theorem Kds.block {w : World} {B g c i : Nat} {kss : List (List Nd)} {vs : List Value} (h : Kds w B g c i kss vs) : B ≤ g ∧ g < w.heap.size := owns_block h.own

theorem Kds.ne {w : World} {B g c i gj : Nat} {kss : List (List Nd)} {vs : List Value} {ks : List Nd} (h : Kds w B g c i kss vs) (hr : Row w gj ks) : gj ≠ g := by
  intro e
  subst e
  obtain ⟨_, h9⟩ := h.own
  rcases h9 with ⟨h0, _⟩ | ⟨g2, cap2, cur, he, _, hh, _⟩
  · cases h0
  · simp only [Value.slice.injEq, Option.some.injEq, Addr.mk.injEq, and_true, true_and] at he
    obtain ⟨rfl, rfl⟩ := he
    obtain ⟨cur', rest, hc, _⟩ := hr
    rw [hh] at hc
    simp at hc

theorem Kds.below {w w' : World} {B g c i : Nat} {kss : List (List Nd)} {vs : List Value} (h : Kds w B g c i kss vs) (hb : Below w.heap.size w w') : Kds w' B g c i kss vs :=
  ⟨owns_but (S := fun _ => False) h.own (But.ofBelow hb) (fun h => h), h.len, fun j hj => by
    obtain ⟨gj, cj, e, hr⟩ := h.rows j hj
    exact ⟨gj, cj, e, hr.below hb⟩⟩

theorem Kds.lists {w : World} {B g c i : Nat} {kss : List (List Nd)} {vs : List Value} (h : Kds w B g c i kss vs) : Lists w (some ⟨g, 0, none⟩) kss := by
  intro j hj
  obtain ⟨gj, cj, e, hr⟩ := h.rows j hj
  have hl := h.len
  refine ⟨g, 0, some ⟨gj, 0, none⟩, cj, rfl, ?_, hr.nodes⟩
  rw [Nat.zero_add]
  have h9 := owns_at h.own j (by omega)
  rw [h9]
  exact e

theorem Kds.push {w w' : World} {B g c i g2 c2 gn cn : Nat} {kss : List (List Nd)} {vs : List Value} {ks : List Nd} (h : Kds w B g c i kss vs) (hg : w.grownBy w' (some g)) (hr : Row w gn ks)
    (ho : w'.ownsRow B 25 1 (.slice (some ⟨g2, 0, none⟩) (i + 1) c2) (i + 1) (vs ++ [.slice (some ⟨gn, 0, none⟩) ks.length cn])) : Kds w' B g2 c2 (i + 1) (kss ++ [ks]) (vs ++ [.slice (some ⟨gn, 0, none⟩) ks.length cn]) := by
  have hvl : vs.length = i := by have := h.own.1; omega
  have hl := h.len
  have kept : ∀ {q : Nat} {zs : List Nd}, Row w q zs → Row w' q zs := fun {q zs} hq => by
    have hne := h.ne hq
    have hlt := hq.lt
    obtain ⟨cur, rest, hc, he⟩ := hq
    exact ⟨cur, rest, (hg.block q hlt (by simpa using hne)).trans hc, he⟩
  refine ⟨ho, by simp [hl], ?_⟩
  intro j hj
  by_cases hji : j < kss.length
  · obtain ⟨gj, cj, e, hr'⟩ := h.rows j hji
    refine ⟨gj, cj, ?_, ?_⟩
    · rw [List.getElem?_append_left (by omega), List.getElem_append_left hji]
      exact e
    · rw [List.getElem_append_left hji]
      exact kept hr'
  · have hje : j = kss.length := by simp at hj; omega
    subst hje
    refine ⟨gn, cn, ?_, ?_⟩
    · rw [List.getElem?_append_right (by omega)]
      simp [hvl, hl]
    · simp only [List.getElem_append_right (Nat.le_refl _), Nat.sub_self, List.getElem_cons_zero]
      exact kept hr

theorem NodeAt.below9 {w w' : World} {b o : Nat} {n : Nd} (h : NodeAt w b o n) (hb : Below w.heap.size w w') : NodeAt w' b o n := by
  have hl : b < w.heap.size := lt_of_cell h.1
  obtain ⟨c0, c1, c2, c3, c4⟩ := h
  exact ⟨(bcell hb _ _ hl).trans c0, (bcell hb _ _ hl).trans c1, (bcell hb _ _ hl).trans c2, (bcell hb _ _ hl).trans c3, (bcell hb _ _ hl).trans c4⟩

theorem root_new (w : World) (k : Int) (tx : ByteArray) : NodeAt (w.alloc (.cells #[.int .i64 k, .int .i64 0, .string tx, .int .i64 0, .int .i64 0] 53)) w.heap.size 0 ⟨k, 0, tx, 0, 0⟩ := by
  refine ⟨?_, ?_, ?_, ?_, ?_⟩
  all_goals
    rw [cell_of_row _ w.heap.size _ _ 53 (0, 0) (heap_alloc_new w _)]
    rfl

theorem cell_kept8 {w w' : World} {g k o : Nat} (hg : w.grownBy w' (some k)) (hl : g < w.heap.size) (hne : g ≠ k) : w'.cell? ⟨g, o, none⟩ = w.cell? ⟨g, o, none⟩ := by
  have h := hg.block g hl (by simpa using hne)
  unfold World.cell?
  rw [h]

theorem total_flat9 (kss : List (List Nd)) : total kss = kss.flatten.length := by
  induction kss with
  | nil => rfl
  | cons k ks ih => simp only [total, List.map_cons, List.sum_cons, List.flatten_cons, List.length_append] at ih ⊢; omega

theorem flatten_len {kss : List (List Nd)} {M : Nat} (h : ∀ ks ∈ kss, ks.length ≤ M) : kss.flatten.length ≤ kss.length * M := by
  induction kss with
  | nil => simp
  | cons k ks ih =>
    have h1 := h k (List.mem_cons_self ..)
    have h2 := ih (fun x hx => h x (List.mem_cons_of_mem _ hx))
    simp only [List.flatten_cons, List.length_append, List.length_cons, Nat.add_mul]
    omega

set_option maxRecDepth 100000 in
set_option maxHeartbeats 4000000 in
theorem drawType_step (n : Nat) (hn : n ≤ 1048576) (ao : Option Addr) (cap : Nat) (metas : Nat) (hm0 : 1 ≤ metas) (hm1 : metas ≤ 16) (d : Nat) (hd5 : d ≤ 5)
    (IH : ∀ d', d' + 1 = d → ∀ (p : Nat) (w : World), Code w ao n → p + stepsT d' ≤ 1000 → Calls Try.prog 63 #[.slice ao n cap, .int .i64 (p : Int), .int .i64 (d' : Int), .int .i64 (metas : Int)] w fun e w' => DrewTO w d' p e w')
    (p : Nat) (w : World) (hc : Code w ao n) (hp : p + stepsT d ≤ 1000) :
    Calls Try.prog 63 #[.slice ao n cap, .int .i64 (p : Int), .int .i64 (d : Int), .int .i64 (metas : Int)] w fun e w' => DrewTO w d p e w' := by
  have hs3 := stepsT_3 d
  obtain ⟨i1, hj1, hy0, hy1, hy2⟩ := info_parts Try.infoV
  go_enter Try.func63, Try.ntmps63
  go_wp2_with fail
  refine (takeB_any n hn ao cap w hc p 12 (by omega) (by omega) (by omega)).mono ?_
  rintro e w1 ⟨⟨a, ha, rfl⟩, hb1⟩
  go_wp2_with fail
  refine (takeB_any n hn ao cap w1 (hc.below hb1) (p + 1) 16 (by omega) (by omega) (by omega)).mono ?_
  rintro e w2 ⟨⟨b, hb, rfl⟩, hb2⟩
  have hbb := Below.step hb1 hb2
  clear hb1 hb2
  by_cases hd0 : d = 0
  · subst hd0
    clear IH hc
    by_cases h3 : a % 3 = 0
    · have h3i : ((a : Int) % 3) = 0 := by omega
      obtain ⟨v, hv, hv0, hv1⟩ : ∃ v : Int, (b : Int) % (metas : Int) = v ∧ 0 ≤ v ∧ v < 16 := by
        obtain ⟨q0, q1⟩ := rem_in (x := (b : Int)) (k := metas) (by omega) hm0
        exact ⟨_, rfl, q0, by omega⟩
      have hmt : decide ((metas : Int) > 0) = true := decide_eq_true (by omega)
      go_wp2_with fail
      refine (leaf_any 61 _ w2).mono ?_
      rintro e w3 ⟨rfl, hr, hb3⟩
      have hg := hbb.size
      have hb4 := Below.step hbb hb3
      clear hbb hb3
      go_wp2
      go_ret2
      exact ⟨w2.heap.size, 1, 1, p + 1 + 1, _, by simp, rfl, by omega, maxT_1 _, hg, hr.base hg, NumD.one (by simp; omega) (by simp; omega), by have := stepsT_3 (0); omega, hb4, leafO _ rfl⟩
    · have h3i : ¬ ((a : Int) % 3) = 0 := by omega
      by_cases h4 : a = 4
      · subst h4
        go_wp2_with fail
        refine (leaf_any 60 _ w2).mono ?_
        rintro e w3 ⟨rfl, hr, hb3⟩
        have hg := hbb.size
        have hb4 := Below.step hbb hb3
        clear hbb hb3
        go_wp2
        go_ret2
        exact ⟨w2.heap.size, 1, 1, p + 1 + 1, _, by simp, rfl, by omega, maxT_1 _, hg, hr.base hg, NumD.one (by simp; omega) (by simp; omega), by have := stepsT_3 (0); omega, hb4, leafO _ rfl⟩
      · have h4i : ((a : Int) == 4) = false := by simp; omega
        rcases Nat.mod_two_eq_zero_or_one b with h2 | h2
        all_goals
          have h2i : ((b : Int) % 2) = ((b % 2 : Nat) : Int) := by omega
          rw [h2] at h2i
          go_wp2_with fail
          refine (con_any _ _ _ _).mono ?_
          rintro e w3 ⟨g, c, rfl, hg, hr, hb3⟩
          have hg2 := hbb.size
          have hb4 := Below.step ((hbb.alloc hbb.size _).alloc (hbb.alloc hbb.size _).size _) hb3
          have hg3 : w.heap.size ≤ g := by simp at hg; omega
          have hg4 : w.heap.size ≤ w2.heap.size + 1 + 1 := by omega
          clear hbb hb3 hg hg2
          go_wp2
          go_ret2
          exact ⟨g, c, 1, p + 1 + 1, _, by simp, rfl, by omega, maxT_1 _, hg3, hr.base (by simp; omega), NumD.one (by simp) (by simp), by have := stepsT_3 (0); omega, hb4, leafO _ rfl⟩
  · have hdi : decide ((d : Int) ≤ 0) = false := decide_eq_false (by omega)
    by_cases ha6 : a < 6
    · have ha6i : decide ((a : Int) < 6) = true := decide_eq_true (by omega)
      clear IH hc
      by_cases h3 : a % 3 = 0
      · have h3i : ((a : Int) % 3) = 0 := by omega
        obtain ⟨v, hv, hv0, hv1⟩ : ∃ v : Int, (b : Int) % (metas : Int) = v ∧ 0 ≤ v ∧ v < 16 := by
          obtain ⟨q0, q1⟩ := rem_in (x := (b : Int)) (k := metas) (by omega) hm0
          exact ⟨_, rfl, q0, by omega⟩
        have hmt : decide ((metas : Int) > 0) = true := decide_eq_true (by omega)
        go_wp2_with fail
        refine (leaf_any 61 _ w2).mono ?_
        rintro e w3 ⟨rfl, hr, hb3⟩
        have hg := hbb.size
        have hb4 := Below.step hbb hb3
        clear hbb hb3
        go_wp2
        go_ret2
        exact ⟨w2.heap.size, 1, 1, p + 1 + 1, _, by simp, rfl, by omega, maxT_1 _, hg, hr.base hg, NumD.one (by simp; omega) (by simp; omega), by have := stepsT_3 (d); omega, hb4, leafO _ rfl⟩
      · have h3i : ¬ ((a : Int) % 3) = 0 := by omega
        by_cases h4 : a = 4
        · subst h4
          go_wp2_with fail
          refine (leaf_any 60 _ w2).mono ?_
          rintro e w3 ⟨rfl, hr, hb3⟩
          have hg := hbb.size
          have hb4 := Below.step hbb hb3
          clear hbb hb3
          go_wp2
          go_ret2
          exact ⟨w2.heap.size, 1, 1, p + 1 + 1, _, by simp, rfl, by omega, maxT_1 _, hg, hr.base hg, NumD.one (by simp; omega) (by simp; omega), by have := stepsT_3 (d); omega, hb4, leafO _ rfl⟩
        · have h4i : ((a : Int) == 4) = false := by simp; omega
          rcases Nat.mod_two_eq_zero_or_one b with h2 | h2
          all_goals
            have h2i : ((b : Int) % 2) = ((b % 2 : Nat) : Int) := by omega
            rw [h2] at h2i
            go_wp2_with fail
            refine (con_any _ _ _ _).mono ?_
            rintro e w3 ⟨g, c, rfl, hg, hr, hb3⟩
            have hg2 := hbb.size
            have hb4 := Below.step ((hbb.alloc hbb.size _).alloc (hbb.alloc hbb.size _).size _) hb3
            have hg3 : w.heap.size ≤ g := by simp at hg; omega
            have hg4 : w.heap.size ≤ w2.heap.size + 1 + 1 := by omega
            clear hbb hb3 hg hg2
            go_wp2
            go_ret2
            exact ⟨g, c, 1, p + 1 + 1, _, by simp, rfl, by omega, maxT_1 _, hg3, hr.base (by simp; omega), NumD.one (by simp) (by simp), by have := stepsT_3 (d); omega, hb4, leafO _ rfl⟩
    · have ha6i : decide ((a : Int) < 6) = false := decide_eq_false (by omega)
      obtain ⟨d, rfl⟩ : ∃ d', d = d' + 1 := ⟨d - 1, by omega⟩
      have hIH := IH d rfl
      have hmx : maxT (d + 1) = 1 + 2 * maxT d := rfl
      have hst : stepsT (d + 1) = 3 + 2 * stepsT d := rfl
      go_wp2_with fail
      refine (takeB_any n hn ao cap w2 (hc.below hbb) (p + 1 + 1) 3 (by omega) (by omega) (by omega)).mono ?_
      rintro e w3 ⟨⟨k0, hk0, rfl⟩, hb3⟩
      have hb4 := Below.step hbb hb3
      clear hbb hb3
      go_upto_if 72 with fail
      go_cut [12] from 18 (fun v wx => ∃ (kd : Int) (tx : ByteArray) (k : Nat), v = .int .i64 (k : Int) ∧ k ≤ 2 ∧ NodeAt wx w3.heap.size 0 ⟨kd, 0, tx, 0, 0⟩ ∧ Below w.heap.size w wx)
      case first =>
        have hcs : (a < 9 ∨ a = 9 ∧ k0 = 1) ∨ a = 9 ∧ k0 ≠ 1 ∨ 10 ≤ a ∧ b % 2 = 0 ∨ 10 ≤ a ∧ b % 2 = 1 := by omega
        clear hIH IH hc
        have hbA := hb4.alloc hb4.size (.cells #[.int .i64 13, .int .i64 0, .string ⟨#[]⟩, .int .i64 0, .int .i64 0] 53)
        rcases hcs with (h9 | ⟨h9, h1⟩) | ⟨h9, h1⟩ | ⟨h9, h1⟩ | ⟨h9, h1⟩
        · have h9i : decide ((a : Int) < 9) = true := decide_eq_true (by omega)
          go_wp2
          go_meet
          case rel =>
            exact ⟨13, ⟨#[]⟩, 2, rfl, by omega, root_new w3 13 ⟨#[]⟩, hb4.alloc hb4.size _⟩
        · subst h9 h1
          go_wp2
          go_meet
          case rel =>
            exact ⟨14, ⟨#[]⟩, 2, rfl, by omega, root_new w3 14 ⟨#[]⟩, hb4.alloc hb4.size _⟩
        · subst h9
          have h1i : ((k0 : Int) == 1) = false := by simp; omega
          go_wp2
          go_meet
          case rel =>
            exact ⟨14, ⟨#[]⟩, k0, rfl, by omega, root_new w3 14 ⟨#[]⟩, hb4.alloc hb4.size _⟩
        · have h9i : decide ((a : Int) < 9) = false := decide_eq_false (by omega)
          have h10i : ((a : Int) == 9) = false := by simp; omega
          have h2i : ((b : Int) % 2) = 0 := by omega
          go_wp2
          go_meet
          case rel =>
            exact ⟨12, ⟨#[108, 105, 115, 116]⟩, k0, rfl, by omega, (root_new w3 12 ⟨#[108, 105, 115, 116]⟩).below9 ((Below.refl _ _).alloc (Nat.le_refl _) _), (hb4.alloc hb4.size _).alloc (hb4.alloc hb4.size _).size _⟩
        · have h9i : decide ((a : Int) < 9) = false := decide_eq_false (by omega)
          have h10i : ((a : Int) == 9) = false := by simp; omega
          have h2i : ((b : Int) % 2) = 1 := by omega
          go_wp2
          go_meet
          case rel =>
            exact ⟨12, ⟨#[116]⟩, k0, rfl, by omega, (root_new w3 12 ⟨#[116]⟩).below9 ((Below.refl _ _).alloc (Nat.le_refl _) _), (hb4.alloc hb4.size _).alloc (hb4.alloc hb4.size _).size _⟩
      case rest =>
        obtain ⟨kd, tx, k, rfl, hk2, hroot9, hb49⟩ := hcut
        have hw39 : w3.heap.size < wc.heap.size := lt_of_cell hroot9.1
        have hbc : Below wc.heap.size wc (wc.alloc (.cells #[] 25)) := (Below.refl _ _).alloc (Nat.le_refl _) _
        have hroot0 := hroot9.below9 hbc
        have hb5 : Below w.heap.size w (wc.alloc (.cells #[] 25)) := hb49.alloc hb49.size _
        have hK0 := Kds.empty (w := wc) (B := w.heap.size) hb49.size
        clear hroot9 hb49 hbc hb4
        go_wp2
        go_loopw [1, 14, 15] (fun pv kv iv wr => ∃ (i q g c : Nat) (kss : List (List Nd)) (vs : List Value), i ≤ k ∧ iv = .int .i64 (i : Int) ∧ pv = .int .i64 (q : Int) ∧ kv = .slice (some ⟨g, 0, none⟩) i c ∧ Kds wr w.heap.size g c i kss vs ∧ Hid (∀ ks ∈ kss, NumD ks ∧ ks.length ≤ maxT d ∧ One ks) ∧ q ≤ p + 3 + i * stepsT d ∧ Below w.heap.size w wr ∧ NodeAt wr w3.heap.size 0 ⟨kd, 0, tx, 0, 0⟩ ∧ w3.heap.size ≠ g) (fun _ _ iv _ => k - (intOf iv).toNat)
        case atStart => exact ⟨0, p + 1 + 1 + 1, wc.heap.size, 0, [], [], Nat.zero_le _, rfl, by simp, rfl, hK0, fun ks hk => by simp at hk, by omega, hb5, hroot0, by omega⟩
        case round =>
          clear hroot0 hb5 hK0
          obtain ⟨i, q, g, c, kss, vs, hi, rfl, rfl, rfl, hK, HK, hq, hb6, hroot, hne⟩ := hrel
          have hw3 : w3.heap.size < wr.heap.size := lt_of_cell hroot.1
          by_cases hlt : i < k
          · have hq9 : q + stepsT d ≤ 1000 := by
              have h8 : i * stepsT d ≤ 1 * stepsT d := Nat.mul_le_mul_right _ (by omega)
              omega
            have HD := hIH q wr (hc.below hb6) hq9
            clear hIH IH
            go_wp2_with fail
            refine HD.mono ?_
            rintro e w7 ⟨gn, cn, ln, pn, ks, rfl, hln, _, hlm, hgn, hon, hnn, hpn, hb7, hon9⟩
            have hrn := hon.row.2
            clear hon
            have hK7 := hK.below hb7
            have hbw7 := Below.step hb6 hb7
            have hs7 := hb7.size
            have hKb := hK7.block
            have hroot7 : NodeAt w7 w3.heap.size 0 ⟨kd, 0, tx, 0, 0⟩ := by
              obtain ⟨c0, c1, c2, c3, c4⟩ := hroot
              exact ⟨(bcell hb7 _ _ hw3).trans c0, (bcell hb7 _ _ hw3).trans c1, (bcell hb7 _ _ hw3).trans c2, (bcell hb7 _ _ hw3).trans c3, (bcell hb7 _ _ hw3).trans c4⟩
            have HLN : Hid (ks.length = ln) := hln
            have hone := one_cellT 25 w7 (.slice (some ⟨gn, 0, none⟩) ln cn)
            have hK8 := hK7.below ((Below.refl _ w7).alloc (Nat.le_refl _) (.cells #[.slice (some ⟨gn, 0, none⟩) ln cn] 25))
            have hr8 := hrn.below ((Below.refl _ w7).alloc (Nat.le_refl _) (.cells #[.slice (some ⟨gn, 0, none⟩) ln cn] 25))
            clear HD hK hb6 hb7 hln hroot
            go_wp2_with (at_builtin; refine wpList_append2 _ rfl (.tmp 100) (.tmp 102) 110 rfl w.heap.size 25 i1 _ 1 24 Try.underlying110 hj1 hy0 hy1 hy2 rfl (by decide) g i c _ rfl hK8.own ⟨_, 0, none⟩ 1 1 [.slice (some ⟨gn, 0, none⟩) ln cn] rfl rfl hone (slice_one _ _ _) ?b3 ?b4 ?b5 ?_)
            case b3 => unfold maxLen; omega
            case b4 => omega
            case b5 => have := hbw7.size; simp; omega
            intro g2 c2 w8 hown8 hgrow8 hwh8
            have hK9 := hK8.push (cn := cn) hgrow8 hr8 (by rw [HLN.out]; exact hown8)
            have hb8 : Below w.heap.size w w8 := (hbw7.alloc hbw7.size _).grown hgrow8 (hbw7.alloc hbw7.size _).size (fun j hj => by cases hj; exact hKb.1)
            have hne8 : w3.heap.size ≠ g := hne
            have hroot8 : NodeAt w8 w3.heap.size 0 ⟨kd, 0, tx, 0, 0⟩ := by
              have hA8 : ∀ o, w8.cell? ⟨w3.heap.size, o, none⟩ = w7.cell? ⟨w3.heap.size, o, none⟩ := fun o => by
                rw [cell_kept8 hgrow8 (by simp; omega) hne8]
                exact bcell ((Below.refl _ w7).alloc (Nat.le_refl _) _) _ _ (by omega)
              obtain ⟨c0, c1, c2, c3, c4⟩ := hroot7
              exact ⟨(hA8 _).trans c0, (hA8 _).trans c1, (hA8 _).trans c2, (hA8 _).trans c3, (hA8 _).trans c4⟩
            have HK9 : Hid (∀ k ∈ kss ++ [ks], NumD k ∧ k.length ≤ maxT d ∧ One k) := by
              intro k hk
              rcases List.mem_append.1 hk with hk | hk
              · exact HK.out k hk
              · simp at hk
                subst hk
                exact ⟨hnn, by rw [HLN.out]; exact hlm, hon9⟩
            have hne9 : w3.heap.size ≠ g2 := by
              rcases hwh8 with h9 | h9
              · omega
              · omega
            have hq8 : pn ≤ p + 3 + (i + 1) * stepsT d := by rw [Nat.add_mul]; omega
            clear hown8 hgrow8 hwh8 hK8 hr8 hone hrn hK7 hbw7 hroot7 hnn hon9
            go_wp2
            go_roundw
            case rel => exact ⟨i + 1, pn, g2, c2, _, _, by omega, by go_num, rfl, rfl, hK9, HK9, hq8, hb8, hroot8, hne9⟩
            case measure => simp [intOf]; omega
          · have hik : i = k := by omega
            subst hik
            have hkl := hK.len
            have hfl := flatten_len (M := maxT d) (fun ks hk => (HK.out ks hk).2.1)
            have hmd : maxT d ≤ 31 := by
              have hd4 : d = 0 ∨ d = 1 ∨ d = 2 ∨ d = 3 ∨ d = 4 := by omega
              rcases hd4 with rfl | rfl | rfl | rfl | rfl <;> simp [maxT]
            have hfl2 : kss.flatten.length ≤ 2 * maxT d := by
              have h8 : kss.length * maxT d ≤ 2 * maxT d := Nat.mul_le_mul_right _ (by omega)
              omega
            have HJ := specJoin_any ⟨kd, 0, tx, 0, 0⟩ kss i hkl (some ⟨g, 0, none⟩) c wr hK.lists (by rw [total_flat9]; omega) (by omega)
            simp only at HJ
            have HNK : Hid (NumD (kss.flatten ++ [⟨kd, 0, tx, (i : Int), 0⟩])) := (NumD.flatten (fun ks hk => (HK.out ks hk).1)).append (NumD.one (by simp) (by simp))
            have HON : Hid (One (kss.flatten ++ [⟨kd, 0, tx, (i : Int), 0⟩])) := One.join (fun ks hk => (HK.out ks hk).2.2) (by simp [hkl])
            obtain ⟨c0, c1, c2, c3, c4⟩ := hroot
            simp only [Nat.zero_add] at c0 c1 c2 c3 c4
            have hs6 := hb6.size
            clear hK HK hIH IH hc
            go_wp2_with fail
            refine HJ.mono ?_
            rintro e w9 ⟨v, rfl, hH, hb9⟩
            obtain ⟨g9, c9, rfl, hg9, _⟩ := hH.row (by simp)
            have hO8 : OwnN w9 wr.heap.size g9 c9 (kss.flatten ++ [(⟨kd, 0, tx, (i : Int), 0⟩ : Nd)]).length (kss.flatten ++ [(⟨kd, 0, tx, (i : Int), 0⟩ : Nd)]) := ⟨rfl, hH⟩
            have hO9 := hO8.base hs6
            have hbf := Below.step hb6 hb9
            clear HJ hH hb6 hb9 c0 c1 c2 c3 c4
            go_wp2
            go_ret2
            refine ⟨g9, c9, _, q, _, rfl, by simp, by simp, ?_, by omega, by simpa using hO9, HNK.out, ?_, hbf, HON.out⟩
            · have hsum : (kss.map List.length).sum = kss.flatten.length := List.length_flatten.symm
              rw [hsum]
              omega
            · have h8 : i * stepsT d ≤ 2 * stepsT d := Nat.mul_le_mul_right _ (by omega)
              omega

theorem drawTypeO_any (n : Nat) (hn : n ≤ 1048576) (ao : Option Addr) (cap : Nat) (metas : Nat) (hm0 : 1 ≤ metas) (hm1 : metas ≤ 16) (d : Nat) (hd5 : d ≤ 5) (p : Nat) (w : World) (hc : Code w ao n) (hp : p + stepsT d ≤ 1000) :
    Calls Try.prog 63 #[.slice ao n cap, .int .i64 (p : Int), .int .i64 (d : Int), .int .i64 (metas : Int)] w fun e w' => DrewTO w d p e w' := by
  induction d generalizing p w with
  | zero => exact drawType_step n hn ao cap metas hm0 hm1 0 (by omega) (fun d' h => by omega) p w hc hp
  | succ d ih =>
    refine drawType_step n hn ao cap metas hm0 hm1 (d + 1) hd5 (fun d' h p' w' hc' hp' => ?_) p w hc hp
    obtain rfl : d' = d := by omega
    exact ih (by omega) p' w' hc' hp'

theorem drawType_any (n : Nat) (hn : n ≤ 1048576) (ao : Option Addr) (cap : Nat) (metas : Nat) (hm0 : 1 ≤ metas) (hm1 : metas ≤ 16) (d : Nat) (hd5 : d ≤ 5) (p : Nat) (w : World) (hc : Code w ao n) (hp : p + stepsT d ≤ 1000) :
    Calls Try.prog 63 #[.slice ao n cap, .int .i64 (p : Int), .int .i64 (d : Int), .int .i64 (metas : Int)] w fun e w' => DrewT w d p e w' := (drawTypeO_any n hn ao cap metas hm0 hm1 d hd5 p w hc hp).mono (fun _ _ h => h.drew)

end Go.Proofs.Ytkmlfpfgiblcdab

namespace Go.Proofs.Ytkmlfpfgiblcdab
open Go.RowKit

/-- Binds that were drawn, one by one. -/
structure LB (w : World) (B g c : Nat) (bs : List (Int × List Nd)) (ps : List (Value × Value)) : Prop where
  own : OwnBs w B g c bs.length ps
  rows : ∀ j (h : j < bs.length), ∃ gj cj, ps[j]? = some (.int .i64 bs[j].1, .slice (some ⟨gj, 0, none⟩) bs[j].2.length cj) ∧ Row w gj bs[j].2

theorem LB.empty {w : World} {B : Nat} (hB : B ≤ w.heap.size) : LB (w.alloc (.cells #[] 71)) B w.heap.size 0 [] [] :=
  ⟨OwnBs.empty hB, fun j h => by simp at h⟩

theorem LB.block {w : World} {B g c : Nat} {bs : List (Int × List Nd)} {ps : List (Value × Value)} (h : LB w B g c bs ps) : B ≤ g ∧ g < w.heap.size := owns_block h.own.2

theorem LB.ne {w : World} {B g c gj : Nat} {bs : List (Int × List Nd)} {ps : List (Value × Value)} {ks : List Nd} (h : LB w B g c bs ps) (hr : Row w gj ks) : gj ≠ g := by
  intro e
  subst e
  obtain ⟨_, h9⟩ := h.own.2
  rcases h9 with ⟨h0, _⟩ | ⟨g2, cap2, cur, he, _, hh, _⟩
  · cases h0
  · simp only [Value.slice.injEq, Option.some.injEq, Addr.mk.injEq, and_true, true_and] at he
    obtain ⟨rfl, rfl⟩ := he
    obtain ⟨cur', rest, hc, _⟩ := hr
    rw [hh] at hc
    simp at hc

theorem LB.but {S : Nat → Prop} {w w' : World} {B g c : Nat} {bs : List (Int × List Nd)} {ps : List (Value × Value)} (h : LB w B g c bs ps) (hb : But S w w') (hg : ¬ S g) (hS : ∀ k, S k → ∀ cs f, w.heap[k]? ≠ some (.cells cs 53 f)) : LB w' B g c bs ps :=
  ⟨h.own.but hb hg, fun j hj => by
    obtain ⟨gj, cj, e, hr⟩ := h.rows j hj
    refine ⟨gj, cj, e, hb.row hr ?_⟩
    intro h9
    obtain ⟨cur, rest, hc, _⟩ := hr
    exact hS _ h9 _ _ hc⟩

theorem LB.below {w w' : World} {B g c : Nat} {bs : List (Int × List Nd)} {ps : List (Value × Value)} (h : LB w B g c bs ps) (hb : Below w.heap.size w w') : LB w' B g c bs ps :=
  h.but (S := fun _ => False) (But.ofBelow hb) (fun h => h) (fun _ h => h.elim)

theorem LB.binds {w : World} {B g c : Nat} {bs : List (Int × List Nd)} {ps : List (Value × Value)} (h : LB w B g c bs ps) : Binds w (some ⟨g, 0, none⟩) bs := by
  intro j hj
  obtain ⟨gj, cj, e, hr⟩ := h.rows j hj
  obtain ⟨_, ho⟩ := h.own.row
  have hl : ps.length = bs.length := h.own.1
  have hlt : j < ps.length := by omega
  have e2 : ps[j] = (.int .i64 bs[j].1, .slice (some ⟨gj, 0, none⟩) bs[j].2.length cj) := by
    rw [List.getElem?_eq_getElem hlt] at e
    simpa using e
  obtain ⟨c0, c1⟩ := cells2_get ps j hlt
  rw [e2] at c0 c1
  have hcl := cells2_length ps
  refine ⟨g, 0, some ⟨gj, 0, none⟩, cj, rfl, ?_, ?_, hr.nodes⟩
  · rw [Nat.zero_add]
    exact (OwnT.at ho (j * 2) (by omega)).trans c0
  · rw [Nat.zero_add]
    exact (OwnT.at ho (j * 2 + 1) (by omega)).trans c1

/-- The block of a slice of Binds holds no nodes. -/
theorem LB.kind {w : World} {B g c : Nat} {bs : List (Int × List Nd)} {ps : List (Value × Value)} (h : LB w B g c bs ps) : ∀ cs f, w.heap[g]? ≠ some (.cells cs 53 f) := by
  intro cs f e
  obtain ⟨_, ho⟩ := h.own.row
  obtain ⟨cur, rest, hc, _⟩ := ho
  rw [hc] at e
  simp at e

theorem LB.push {w w' : World} {B g c g2 c2 gn cn : Nat} {bs : List (Int × List Nd)} {ps : List (Value × Value)} {x : Int} {ks : List Nd} (h : LB w B g c bs ps) (hg : w.grownBy w' (some g)) (hr : Row w gn ks)
    (ho : w'.ownsRow B 71 2 (.slice (some ⟨g2, 0, none⟩) (bs.length + 1) c2) (bs.length + 1) (cells2 ps ++ [.int .i64 x, .slice (some ⟨gn, 0, none⟩) ks.length cn])) :
    LB w' B g2 c2 (bs ++ [(x, ks)]) (ps ++ [(.int .i64 x, .slice (some ⟨gn, 0, none⟩) ks.length cn)]) := by
  have hvl : ps.length = bs.length := h.own.1
  have hbut : But (· = g) w w' := (But.refl (· = g) w).grown hg (fun _ => rfl)
  have kept : ∀ {q : Nat} {zs : List Nd}, Row w q zs → Row w' q zs := fun {q zs} hq => hbut.row hq (h.ne hq)
  have hO := OwnBs.push (x := (.int .i64 x, .slice (some ⟨gn, 0, none⟩) ks.length cn)) ho hvl rfl
  refine ⟨by simpa using hO, ?_⟩
  intro j hj
  by_cases hji : j < bs.length
  · obtain ⟨gj, cj, e, hr'⟩ := h.rows j hji
    refine ⟨gj, cj, ?_, ?_⟩
    · rw [List.getElem?_append_left (by omega), List.getElem_append_left hji]
      exact e
    · rw [List.getElem_append_left hji]
      exact kept hr'
  · have hje : j = bs.length := by simp at hj; omega
    subst hje
    refine ⟨gn, cn, ?_, ?_⟩
    · rw [List.getElem?_append_right (by omega)]
      simp [hvl]
    · simp only [List.getElem_append_right (Nat.le_refl _), Nat.sub_self, List.getElem_cons_zero]
      exact kept hr

/-- Numbers and types of drawn Binds. -/
def BindOk (bs : List (Int × List Nd)) : Prop := ∀ b ∈ bs, (-1 ≤ b.1 ∧ b.1 ≤ 1000) ∧ NumD b.2 ∧ b.2.length ≤ 63

theorem BindOk.snoc {bs : List (Int × List Nd)} {x : Int} {ks : List Nd} (h : BindOk bs) (h0 : -1 ≤ x) (h1 : x ≤ 1000) (hk : NumD ks) (hl : ks.length ≤ 63) : BindOk (bs ++ [(x, ks)]) := by
  intro b hb
  rcases List.mem_append.1 hb with hb | hb
  · exact h b hb
  · simp at hb
    subst hb
    exact ⟨⟨h0, h1⟩, hk, hl⟩

/-- One of two lists. -/
abbrev FL := Nat × Nat × List (Int × List Nd) × List (Value × Value)
def FL.val (f : FL) : Value := .slice (some ⟨f.1, 0, none⟩) f.2.2.1.length f.2.1

/-- Two slices of Binds, in a slice. -/
structure Fill (w : World) (B G : Nat) (F : Nat → FL) : Prop where
  box : OwnT 38 w G [(F 0).val, (F 1).val]
  at' : ∀ j, j < 2 → LB w B (F j).1 (F j).2.1 (F j).2.2.1 (F j).2.2.2
  ok : ∀ j, j < 2 → BindOk (F j).2.2.1
  ne : (F 0).1 ≠ (F 1).1

theorem Fill.below {w w' : World} {B G : Nat} {F : Nat → FL} (h : Fill w B G F) (hb : Below w.heap.size w w') : Fill w' B G F :=
  ⟨OwnT.below h.box hb, fun j hj => (h.at' j hj).below hb, h.ok, h.ne⟩

theorem Fill.cell {w : World} {B G : Nat} {F : Nat → FL} (h : Fill w B G F) (j : Nat) (hj : j < 2) : w.cell? ⟨G, j, none⟩ = some (F j).val := by
  rw [OwnT.at h.box j (by simpa using hj)]
  match j, hj with
  | 0, _ => rfl
  | 1, _ => rfl

theorem Fill.neG {w : World} {B G : Nat} {F : Nat → FL} (h : Fill w B G F) (j : Nat) (hj : j < 2) : (F j).1 ≠ G := by
  intro e
  obtain ⟨_, ho⟩ := (h.at' j hj).own.row
  obtain ⟨cur, rest, hc, _⟩ := ho
  obtain ⟨cur', rest', hc', _⟩ := h.box
  rw [e, hc'] at hc
  simp at hc

/-- One Bind more in list k: behind the append and the store. -/
theorem Fill.step {w w' : World} {B G g2 c2 gn cn k : Nat} {F : Nat → FL} {x : Int} {ks : List Nd} (h : Fill w B G F) (hk : k < 2) (hg : w.grownBy w' (some (F k).1)) (hr : Row w gn ks) (hw : g2 = (F k).1 ∨ g2 = w.heap.size)
    (ho : w'.ownsRow B 71 2 (.slice (some ⟨g2, 0, none⟩) ((F k).2.2.1.length + 1) c2) ((F k).2.2.1.length + 1) (cells2 (F k).2.2.2 ++ [.int .i64 x, .slice (some ⟨gn, 0, none⟩) ks.length cn]))
    (h0 : -1 ≤ x) (h1 : x ≤ 1000) (hn : NumD ks) (hl : ks.length ≤ 63) :
    ∃ F', Fill (w'.setCell ⟨G, k, none⟩ (.slice (some ⟨g2, 0, none⟩) ((F k).2.2.1.length + 1) c2)) B G F' ∧ (F' k).2.2.1.length = (F k).2.2.1.length + 1 ∧ ∀ j, j < 2 → j ≠ k → F' j = F j := by
  have hbut : But (· = (F k).1) w w' := (But.refl _ w).grown hg (fun _ => rfl)
  have hGne := h.neG k hk
  have hLB := (h.at' k hk).push (cn := cn) hg hr ho
  have hset : But (· = G) w' (w'.setCell ⟨G, k, none⟩ (.slice (some ⟨g2, 0, none⟩) ((F k).2.2.1.length + 1) c2)) := (But.refl (· = G) w').setCell (p := ⟨G, k, none⟩) rfl _
  have hbox := OwnT.but h.box hbut (fun e => hGne e.symm)
  have hkindG : ∀ cs f, w'.heap[G]? ≠ some (.cells cs 53 f) := by
    intro cs f e
    obtain ⟨cur, rest, hc, _⟩ := hbox
    rw [hc] at e
    simp at e
  have hg2G : g2 ≠ G := by
    intro e
    obtain ⟨_, hob⟩ := hLB.own.row
    obtain ⟨cur, rest, hc, _⟩ := hob
    obtain ⟨cur', rest', hc', _⟩ := hbox
    rw [e, hc'] at hc
    simp at hc
  refine ⟨fun j => if j = k then (g2, c2, (F k).2.2.1 ++ [(x, ks)], (F k).2.2.2 ++ [(.int .i64 x, .slice (some ⟨gn, 0, none⟩) ks.length cn)]) else F j, ⟨?_, ?_, ?_, ?_⟩, ?_, ?_⟩
  · have h9 := OwnT.set hbox k (.slice (some ⟨g2, 0, none⟩) ((F k).2.2.1.length + 1) c2) (by simpa using hk)
    have hk2 : k = 0 ∨ k = 1 := by omega
    rcases hk2 with rfl | rfl
    · simpa [FL.val] using h9
    · simpa [FL.val] using h9
  · intro j hj
    by_cases hjk : j = k
    · rw [if_pos hjk]
      exact hLB.but hset hg2G (fun q hq => by subst hq; exact hkindG)
    · rw [if_neg hjk]
      have hne : (F j).1 ≠ (F k).1 := by
        have := h.ne
        have hjk2 : (j = 0 ∧ k = 1) ∨ (j = 1 ∧ k = 0) := by omega
        rcases hjk2 with ⟨rfl, rfl⟩ | ⟨rfl, rfl⟩
        · exact this
        · exact fun e => this e.symm
      have h8 := (h.at' j hj).but hbut hne (fun q hq => by subst hq; exact (h.at' k hk).kind)
      exact h8.but hset (h.neG j hj) (fun q hq => by subst hq; exact hkindG)
  · intro j hj
    by_cases hjk : j = k
    · rw [if_pos hjk]
      exact (h.ok k hk).snoc h0 h1 hn hl
    · rw [if_neg hjk]
      exact h.ok j hj
  · have hlt := fun j (hj : j < 2) => (h.at' j hj).block.2
    have hne := h.ne
    have hk2 : k = 0 ∨ k = 1 := by omega
    rcases hk2 with rfl | rfl
    · have := hlt 1 (by omega)
      show g2 ≠ (F 1).1
      rcases hw with e | e
      · rw [e]; exact hne
      · omega
    · have := hlt 0 (by omega)
      show (F 0).1 ≠ g2
      rcases hw with e | e
      · rw [e]; exact hne
      · omega
  · simp
  · intro j _ hjk
    simp [hjk]

/-- The length of the first list. -/
def lenAt (w : World) (G : Nat) : Nat := match w.cell? ⟨G, 0, none⟩ with
  | some (.slice _ l _) => l
  | _ => 0

/-- What DrawCompose answers. -/
def DrewC (w : World) (e : Ending) (w' : World) : Prop := ∃ (ga ca gb cb : Nat) (fs ts : List (Int × List Nd)), e = .returned (.tuple #[.slice (some ⟨ga, 0, none⟩) fs.length ca, .slice (some ⟨gb, 0, none⟩) ts.length cb]) ∧ Binds w' (some ⟨ga, 0, none⟩) fs ∧ Binds w' (some ⟨gb, 0, none⟩) ts ∧ BindOk fs ∧ BindOk ts ∧ fs.length ≤ 1001 ∧ ts.length ≤ 1001 ∧ Below w.heap.size w w'

set_option maxRecDepth 100000 in
set_option maxHeartbeats 4000000 in
theorem drawCompose_any (n : Nat) (hn : n ≤ 1048576) (ao : Option Addr) (cap : Nat) (w : World) (hc : Code w ao n) :
    Calls Try.prog 32 #[.slice ao n cap] w fun e w' => DrewC w e w' := by
  obtain ⟨i0, hi, hz0, hz1, hz2⟩ := info_parts Try.infoB
  go_enter Try.func32, Try.ntmps32
  go_wp2_with fail
  refine (takeB_any n hn ao cap w hc 0 20 (by omega) (by omega) (by omega)).mono ?_
  rintro e w1 ⟨⟨how, hhow, rfl⟩, hb1⟩
  have hc1 := hc.below hb1
  obtain ⟨G, hG⟩ : ∃ G, w1.heap.size + 1 + 1 = G := ⟨_, rfl⟩
  have hF0 : Fill (((w1.alloc (.cells #[] 71)).alloc (.cells #[] 71)).alloc (.cells #[.slice (some ⟨w1.heap.size, 0, none⟩) 0 0, .slice (some ⟨w1.heap.size + 1, 0, none⟩) 0 0] 38)) w.heap.size G (fun j => (w1.heap.size + j, 0, [], [])) := by
    have hs := hb1.size
    have e1 : (((w1.alloc (.cells #[] 71)).alloc (.cells #[] 71))).heap.size = w1.heap.size + 1 + 1 := by simp
    refine ⟨?_, ?_, ?_, ?_⟩
    · rw [← hG, ← e1]
      exact ⟨_, [], heap_alloc_new _ _, rfl⟩
    · intro j hj
      have hj2 : j = 0 ∨ j = 1 := by omega
      rcases hj2 with rfl | rfl
      · exact ((LB.empty (w := w1) hs).below ((Below.refl _ _).alloc (Nat.le_refl _) _)).below ((Below.refl _ _).alloc (Nat.le_refl _) _)
      · have h9 := (LB.empty (w := w1.alloc (.cells #[] 71)) (B := w.heap.size) (by simp; omega)).below ((Below.refl _ _).alloc (Nat.le_refl _) (.cells #[.slice (some ⟨w1.heap.size, 0, none⟩) 0 0, .slice (some ⟨w1.heap.size + 1, 0, none⟩) 0 0] 38))
        simpa using h9
    · intro j _ b hb
      simp at hb
    · simp
  have hbF : Below w.heap.size w (((w1.alloc (.cells #[] 71)).alloc (.cells #[] 71)).alloc (.cells #[.slice (some ⟨w1.heap.size, 0, none⟩) 0 0, .slice (some ⟨w1.heap.size + 1, 0, none⟩) 0 0] 38)) :=
    ((hb1.alloc hb1.size _).alloc (hb1.alloc hb1.size _).size _).alloc ((hb1.alloc hb1.size _).alloc (hb1.alloc hb1.size _).size _).size _
  have hGw : w.heap.size ≤ G := by have := hb1.size; omega
  go_wp2_with fail
  generalize (((w1.alloc (.cells #[] 71)).alloc (.cells #[] 71)).alloc (.cells #[.slice (some ⟨w1.heap.size, 0, none⟩) 0 0, .slice (some ⟨w1.heap.size + 1, 0, none⟩) 0 0] 38)) = W at hF0 hbF ⊢
  clear hG hc1
  go_loopw [5, 7] (fun pv kv wr => ∃ (k p : Nat) (F : Nat → FL), k ≤ 2 ∧ kv = .int .i64 (k : Int) ∧ pv = .int .i64 (p : Int) ∧ p ≤ 1 + k * 139 ∧ Fill wr w.heap.size G F ∧ Hid (∀ j, j < 2 → (F j).2.2.1.length ≤ 3 ∧ (k ≤ j → (F j).2.2.1.length = 0)) ∧ Below w.heap.size w wr) (fun _ kv _ => 2 - (intOf kv).toNat)
  case atStart => exact ⟨0, 1, _, by omega, rfl, rfl, by omega, hF0, fun j _ => ⟨by simp, fun _ => rfl⟩, hbF⟩
  case round =>
    clear hF0 hbF hb1
    obtain ⟨k, p, F, hk, rfl, rfl, hp, hF, HL, hb⟩ := hrel
    by_cases hlt : k < 2
    · have hp9 : p ≤ 1000 := by omega
      go_wp2_with fail
      refine (takeB_any n hn ao cap wr (hc.below hb) p 4 (by omega) (by omega) hp9).mono ?_
      rintro e w2 ⟨⟨m, hm, rfl⟩, hb2⟩
      have hF2 := hF.below hb2
      have hb2 := Below.step hb hb2
      clear hF hb
      go_wp2_with fail
      go_loopw [5, 9] (fun pv iv wr => ∃ (i q : Nat) (F : Nat → FL), i ≤ m ∧ iv = .int .i64 (i : Int) ∧ pv = .int .i64 (q : Int) ∧ q ≤ p + 1 + i * 46 ∧ Fill wr w.heap.size G F ∧ Hid (∀ j, j < 2 → (j ≠ k → (F j).2.2.1.length ≤ 3 ∧ (k ≤ j → (F j).2.2.1.length = 0)) ∧ (j = k → (F j).2.2.1.length = i)) ∧ Below w.heap.size w wr) (fun _ iv _ => m - (intOf iv).toNat)
      case atStart => exact ⟨0, p + 1, F, by omega, rfl, by simp, by omega, hF2, fun j hj => ⟨fun _ => HL.out j hj, fun e => (HL.out j hj).2 (by omega)⟩, hb2⟩
      case round =>
        clear hF2 hb2
        obtain ⟨i, q, F, hi', rfl, rfl, hq, hF, HL2, hb⟩ := hrel
        by_cases hlt2 : i < m
        · go_wp2_with fail
          refine (takeB_any n hn ao cap wr (hc.below hb) q 6 (by omega) (by omega) (by omega)).mono ?_
          rintro e w3 ⟨⟨a, ha, rfl⟩, hb3⟩
          have hF3 := hF.below hb3
          have hb3 := Below.step hb hb3
          have HD := drawType_any n hn ao cap 4 (by omega) (by omega) 3 (by omega) (q + 1) w3 (hc.below hb3) (by simp [stepsT]; omega)
          clear hF hb
          go_wp2_with fail
          refine HD.mono ?_
          rintro e w4 ⟨gn, cn, ln, pn, ks, rfl, hln, _, hlm, hgn, hon, hnn, hpn, hb4⟩
          have hrn := hon.row.2
          clear hon
          have hF4 := hF3.below hb4
          have hb4 := Below.step hb3 hb4
          have hcell := hF4.cell k hlt
          have hLBk := hF4.at' k hlt
          obtain ⟨⟨g, c, bs, ps⟩, hFk⟩ : ∃ f, F k = f := ⟨_, rfl⟩
          have HLk := (HL2.out k hlt).2 rfl
          rw [hFk] at hcell hLBk HLk
          simp only [FL.val] at hcell hLBk HLk
          have hA : Below w4.heap.size w4 (w4.alloc (.cells #[.int .i64 ((a : Int) - 1), .slice (some ⟨gn, 0, none⟩) ln cn] 71)) := (Below.refl _ w4).alloc (Nat.le_refl _) _
          have hF5 := hF4.below hA
          have hb5 := hb4.alloc hb4.size (.cells #[.int .i64 ((a : Int) - 1), .slice (some ⟨gn, 0, none⟩) ln cn] 71)
          have hLB5 := hLBk.below hA
          have hr5 := hrn.below hA
          have hone := bind_cells w4 ((a : Int) - 1) (.slice (some ⟨gn, 0, none⟩) ln cn)
          obtain ⟨l, hl⟩ : ∃ l, bs.length = l := ⟨_, rfl⟩
          have hown5 := hLB5.own.2
          rw [hl] at hcell HLk hown5
          have HLK : Hid (l = i) := HLk
          have hl3 : l ≤ 3 := by omega
          clear HLk
          have HFIN : Hid (∀ g2 c2 w6, w6.ownsRow w.heap.size 71 2 (.slice (some ⟨g2, 0, none⟩) (l + 1) c2) (l + 1) (cells2 ps ++ [.int .i64 ((a : Int) - 1), .slice (some ⟨gn, 0, none⟩) ln cn]) →
              (w4.alloc (.cells #[.int .i64 ((a : Int) - 1), .slice (some ⟨gn, 0, none⟩) ln cn] 71)).grownBy w6 (some g) → (g2 = g ∨ g2 = (w4.alloc (.cells #[.int .i64 ((a : Int) - 1), .slice (some ⟨gn, 0, none⟩) ln cn] 71)).heap.size) →
              w6.cell? ⟨G, k, none⟩ = some (.slice (some ⟨g, 0, none⟩) l c) ∧ w6.frozen? ⟨G, k, none⟩ = false ∧
              Below w.heap.size w (w6.setCell ⟨G, k, none⟩ (.slice (some ⟨g2, 0, none⟩) (l + 1) c2)) ∧ ∃ F', Fill (w6.setCell ⟨G, k, none⟩ (.slice (some ⟨g2, 0, none⟩) (l + 1) c2)) w.heap.size G F' ∧ (F' k).2.2.1.length = l + 1 ∧ ∀ j, j < 2 → j ≠ k → F' j = F j) := by
            intro g2 c2 w6 ho hg hw
            have hgG : g ≠ G := by have h9 := hF5.neG k hlt; rw [hFk] at h9; exact h9
            have hbut : But (· = g) (w4.alloc (.cells #[.int .i64 ((a : Int) - 1), .slice (some ⟨gn, 0, none⟩) ln cn] 71)) w6 := (But.refl (· = g) _).grown hg (fun _ => rfl)
            have hbox6 := OwnT.but hF5.box hbut (fun e => hgG e.symm)
            have hc6 := hF5.cell k hlt
            rw [hFk] at hc6
            simp only [FL.val, hl] at hc6
            have hGl : G < (w4.alloc (.cells #[.int .i64 ((a : Int) - 1), .slice (some ⟨gn, 0, none⟩) ln cn] 71)).heap.size := OwnT.lt hF5.box
            refine ⟨(hbut.cell hGl (fun e => hgG e.symm)).trans hc6, OwnT.frozen hbox6 k, ?_, ?_⟩
            · have h8 : Below w.heap.size w w6 := hb5.grown hg hb5.size (fun q hq => by cases hq; exact hLB5.block.1)
              exact h8.setCell (p := ⟨G, k, none⟩) hGw _
            · have h9 := hF5.step (k := k) (g2 := g2) (c2 := c2) (gn := gn) (cn := cn) (x := (a : Int) - 1) (ks := ks) hlt (by rw [hFk]; exact hg) hr5 (by rw [hFk]; exact hw) (by rw [hFk]; simp only [hl, hln]; exact ho) (by omega) (by omega) hnn (by simp only [maxT] at hlm; omega)
              rw [hFk] at h9
              simp only [hl] at h9
              exact h9
          have hpn9 : pn ≤ q + 1 + 45 := by simp only [stepsT] at hpn; omega
          clear HD hF3 hb3 hF4 hLBk hF5 hLB5 hr5 hrn hnn hA hFk hpn hb4
          go_wp2_with (at_builtin; refine wpList_append2 _ rfl (.tmp 54) (.tmp 59) 38 rfl w.heap.size 71 i0 _ 2 32 Try.underlying38 hi hz0 hz1 hz2 rfl (by decide) g l c _ rfl hown5 ⟨_, 0, none⟩ 1 1 [.int .i64 ((a : Int) - 1), .slice (some ⟨gn, 0, none⟩) ln cn] rfl rfl hone (bind_one _ _ _ _) ?a3 ?a4 ?a5 ?_)
          case a3 => unfold maxLen; omega
          case a4 => omega
          case a5 => exact hb5.size
          intro g2 c2 w6 hown6 hgrow6 hwh6
          obtain ⟨q0, q1, hb6, F', hF6, hFk6, hFo6⟩ := HFIN.out g2 c2 w6 hown6 hgrow6 (by simpa using hwh6)
          have HL6 : Hid (∀ j, j < 2 → (j ≠ k → (F' j).2.2.1.length ≤ 3 ∧ (k ≤ j → (F' j).2.2.1.length = 0)) ∧ (j = k → (F' j).2.2.1.length = i + 1)) := by
            intro j hj
            refine ⟨fun hjk => ?_, fun e => ?_⟩
            · rw [hFo6 j hj hjk]
              exact (HL2.out j hj).1 hjk
            · subst e
              rw [hFk6, HLK.out]
          clear HFIN hown6 hgrow6 hwh6 hone hown5 hb5 hcell hFo6
          go_wp2
          go_roundw
          case rel => exact ⟨i + 1, pn, F', by omega, by go_num, rfl, by omega, hF6, HL6, hb6⟩
          case measure => simp [intOf]; omega
        · have him : i = m := by omega
          subst him
          have HL7 : Hid (∀ j, j < 2 → (F j).2.2.1.length ≤ 3 ∧ (k + 1 ≤ j → (F j).2.2.1.length = 0)) := by
            intro j hj
            by_cases hjk : j = k
            · have := (HL2.out j hj).2 hjk
              exact ⟨by omega, fun _ => by omega⟩
            · obtain ⟨h8, h9⟩ := (HL2.out j hj).1 hjk
              exact ⟨h8, fun _ => h9 (by omega)⟩
          go_wp2
          go_roundw
          case rel => exact ⟨k + 1, q, F, by omega, by go_num, rfl, by omega, hF, HL7, hb⟩
          case measure => simp [intOf]; omega
    · have hk2 : k = 2 := by omega
      subst hk2
      have hl0 := (HL.out 0 (by omega)).1
      have hl1 := (HL.out 1 (by omega)).1
      by_cases h19 : how = 19
      · subst h19
        go_wp2_with fail
        go_loopw [64] (fun _ wr => ∃ (F : Nat → FL), Fill wr w.heap.size G F ∧ (F 0).2.2.1.length + (F 1).2.2.1.length ≤ 1001 ∧ Below w.heap.size w wr) (fun _ wr => 1001 - lenAt wr G)
        case atStart => exact ⟨F, hF, by omega, hb⟩
        case round =>
          clear hF hb hl0 hl1 HL
          obtain ⟨F, hF, hlen, hb⟩ := hrel
          have c0 := hF.cell 0 (by omega)
          have c1 := hF.cell 1 (by omega)
          have hGl : G < wr.heap.size := OwnT.lt hF.box
          have hLB0 := hF.at' 0 (by omega)
          have hLB1 := hF.at' 1 (by omega)
          have hok0 := hF.ok 0 (by omega)
          have hok1 := hF.ok 1 (by omega)
          obtain ⟨⟨g, c, bs, ps⟩, hF0⟩ : ∃ f, F 0 = f := ⟨_, rfl⟩
          obtain ⟨⟨g1, c1', ts, qs⟩, hF1⟩ : ∃ f, F 1 = f := ⟨_, rfl⟩
          rw [hF0] at c0 hLB0 hlen hok0
          rw [hF1] at c1 hLB1 hlen hok1
          simp only [FL.val] at c0 c1 hLB0 hLB1 hlen hok0 hok1
          obtain ⟨l0, hl0⟩ : ∃ l, bs.length = l := ⟨_, rfl⟩
          obtain ⟨l1, hl1⟩ : ∃ l, ts.length = l := ⟨_, rfl⟩
          have HL0 : Hid (bs.length = l0) := hl0
          have HL1 : Hid (ts.length = l1) := hl1
          rw [hl0] at c0 hlen
          rw [hl1] at c1 hlen
          obtain ⟨r, hr, hr0, hr1⟩ : ∃ r : Int, (p : Int) % 2 = r ∧ 0 ≤ r ∧ r ≤ 1 := ⟨_, rfl, by omega, by omega⟩
          clear hl0 hl1
          have hB8 := hLB0.binds
          have hC8 := hLB1.binds
          by_cases htest : (l0 : Int) + (l1 : Int) < 1000 + r
          · go_wp2_with fail
            go_quiet (fail)
            have hq8 := below_drewN wr nq
            have hb8 := Below.step hb hq8
            have hF8 := hF.below hq8
            have hLB8 := hLB0.below hq8
            have hcell := (bcell hq8 G 0 hGl).trans c0
            have hGl8 : G < (wr.drewN nq).heap.size := lt_of_cell hcell
            have hlen8 : lenAt wr G = l0 := by unfold lenAt; rw [c0]
            have HLEN8 : Hid (lenAt wr G = l0) := hlen8
            clear hq8 hF hLB0 hLB1 c0 c1 hb hB8 hC8 hlen8
            generalize wr.drewN nq = W2 at *
            have hv : 0 ≤ (l0 : Int).tmod 50 ∧ (l0 : Int).tmod 50 < 50 := ⟨Int.tmod_nonneg _ (by omega), Int.tmod_lt_of_pos _ (by omega)⟩
            have HOWN : Hid (∀ w5, Below W2.drew.heap.size W2.drew w5 → (w5.alloc (.cells #[.int .i64 ((l0 : Int).tmod 50), .slice (some ⟨W2.heap.size, 0, none⟩) 1 1] 71)).ownsRow w.heap.size 71 2 (.slice (some ⟨g, 0, none⟩) l0 c) l0 (cells2 ps) ∧ w.heap.size ≤ (w5.alloc (.cells #[.int .i64 ((l0 : Int).tmod 50), .slice (some ⟨W2.heap.size, 0, none⟩) 1 1] 71)).heap.size) := by
              intro w5 hb5
              have h9 := ((hLB8.below (undrew hb5)).below ((Below.refl _ w5).alloc (Nat.le_refl _) (.cells #[.int .i64 ((l0 : Int).tmod 50), .slice (some ⟨W2.heap.size, 0, none⟩) 1 1] 71))).own.2
              rw [HL0.out] at h9
              have h8 := (Below.step hb8 (undrew hb5)).size
              exact ⟨h9, by simp; omega⟩
            have HFIN : Hid (∀ w5 g2 c2 w6, Below W2.drew.heap.size W2.drew w5 → Row w5 W2.drew.heap.size [⟨61, 3, ByteArray.empty, 0, 0⟩] → w6.ownsRow w.heap.size 71 2 (.slice (some ⟨g2, 0, none⟩) (l0 + 1) c2) (l0 + 1) (cells2 ps ++ [.int .i64 ((l0 : Int).tmod 50), .slice (some ⟨W2.heap.size, 0, none⟩) 1 1]) →
                (w5.alloc (.cells #[.int .i64 ((l0 : Int).tmod 50), .slice (some ⟨W2.heap.size, 0, none⟩) 1 1] 71)).grownBy w6 (some g) → (g2 = g ∨ g2 = (w5.alloc (.cells #[.int .i64 ((l0 : Int).tmod 50), .slice (some ⟨W2.heap.size, 0, none⟩) 1 1] 71)).heap.size) →
                w6.cell? ⟨G, 0, none⟩ = some (.slice (some ⟨g, 0, none⟩) l0 c) ∧ w6.frozen? ⟨G, 0, none⟩ = false ∧ lenAt (w6.setCell ⟨G, 0, none⟩ (.slice (some ⟨g2, 0, none⟩) (l0 + 1) c2)) G = l0 + 1 ∧
                Below w.heap.size w (w6.setCell ⟨G, 0, none⟩ (.slice (some ⟨g2, 0, none⟩) (l0 + 1) c2)) ∧ ∃ F', Fill (w6.setCell ⟨G, 0, none⟩ (.slice (some ⟨g2, 0, none⟩) (l0 + 1) c2)) w.heap.size G F' ∧ (F' 0).2.2.1.length = l0 + 1 ∧ (F' 1).2.2.1.length = l1) := by
              intro w5 g2 c2 w6 hb5 hr5 ho hg hw
              have hA := (Below.refl _ w5).alloc (Nat.le_refl _) (.cells #[.int .i64 ((l0 : Int).tmod 50), .slice (some ⟨W2.heap.size, 0, none⟩) 1 1] 71)
              have hF5 := (hF8.below (undrew hb5)).below hA
              have hb9 := Below.step (Below.step hb8 (undrew hb5)) hA
              have hr9 := hr5.below hA
              have hgG : g ≠ G := by have h9 := hF5.neG 0 (by omega); rw [hF0] at h9; exact h9
              have hbut : But (· = g) (w5.alloc (.cells #[.int .i64 ((l0 : Int).tmod 50), .slice (some ⟨W2.heap.size, 0, none⟩) 1 1] 71)) w6 := (But.refl (· = g) _).grown hg (fun _ => rfl)
              have hbox6 := OwnT.but hF5.box hbut (fun e => hgG e.symm)
              have hc6 := hF5.cell 0 (by omega)
              rw [hF0] at hc6
              simp only [FL.val, HL0.out] at hc6
              have hGl9 : G < (w5.alloc (.cells #[.int .i64 ((l0 : Int).tmod 50), .slice (some ⟨W2.heap.size, 0, none⟩) 1 1] 71)).heap.size := OwnT.lt hF5.box
              have hgB : w.heap.size ≤ g := by have h9 := (hF5.at' 0 (by omega)).block.1; rw [hF0] at h9; exact h9
              have h8 : Below w.heap.size w w6 := hb9.grown hg hb9.size (fun q hq => by cases hq; exact hgB)
              have hst := hF5.step (k := 0) (g2 := g2) (c2 := c2) (gn := W2.drew.heap.size) (cn := 1) (x := (l0 : Int).tmod 50) (ks := [⟨61, 3, ByteArray.empty, 0, 0⟩]) (by omega) (by rw [hF0]; exact hg) hr9 (by rw [hF0]; exact hw) (by rw [hF0]; simp only [HL0.out]; exact ho) (by omega) (by omega) (NumD.one (by simp) (by simp)) (by simp)
              rw [hF0] at hst
              simp only [HL0.out] at hst
              obtain ⟨F', hF', h01, h02⟩ := hst
              refine ⟨(hbut.cell hGl9 (fun e => hgG e.symm)).trans hc6, OwnT.frozen hbox6 0, ?_, h8.setCell (p := ⟨G, 0, none⟩) hGw _, F', hF', h01, ?_⟩
              · have h9 := hF'.cell 0 (by omega)
                unfold lenAt
                rw [h9]
                simp only [FL.val]
                exact h01
              · rw [h02 1 (by omega) (by omega), hF1]
                exact HL1.out
            clear hF8 hLB8 hb8 hF0 hF1
            go_wp2_with fail
            go_region_law
              (first
              | (go_simp; refine (leaf_any 61 3 _).mono ?_; rintro e w5 ⟨rfl, hon5, hb5⟩; have hr5 := hon5.row.2; have hc5 := (bcell_drew hb5 G 0 hGl8).trans hcell; have hGl5 : G < w5.heap.size := lt_of_cell hc5)
              | (obtain ⟨ho5, hs5⟩ := HOWN.out w5 hb5; refine step_append2 _ rfl (.tmp 80) (.tmp 88) 38 rfl w.heap.size 71 i0 _ 2 32 Try.underlying38 hi hz0 hz1 hz2 rfl (by decide) g l0 c _ rfl ho5 ⟨_, 0, none⟩ 1 1 [.int .i64 ((l0 : Int).tmod 50), .slice (some ⟨W2.heap.size, 0, none⟩) 1 1] rfl rfl (bind_cells _ _ _) (bind_one _ _ _ _) ?_ ?_ ?_ ?_; (unfold maxLen; omega); omega; exact hs5; intro g2 c2 w6 hown6 hgrow6 hwh6; obtain ⟨q0, q1, hln6, hb6, F', hF6, hF60, hF61⟩ := HFIN.out w5 g2 c2 w6 hb5 hr5 hown6 hgrow6 hwh6))
            all_goals
              clear HOWN HFIN hown6 hgrow6 hwh6 ho5 hb5 hr5 hc5 hcell hon5
              go_wp2
              go_roundw
              case rel =>
                (repeat apply Exists.intro)
                exact ⟨⟨F', hF6, by omega, hb6⟩, rfl⟩
              case measure => rw [HLEN8.out, hln6]; omega
          · have tt : decide ((l0 : Int) + (l1 : Int) < 1000 + r) = false := decide_eq_false htest
            go_wp2_with fail
            go_quiet (fail)
            have hq8 := below_drewN wr nq
            have hb8 := Below.step hb hq8
            have hB8 := hB8.below hq8
            have hC8 := hC8.below hq8
            have d0 := (bcell hq8 G 0 hGl).trans c0
            have d1 := (bcell hq8 G 1 hGl).trans c1
            clear hq8 hF hLB0 hLB1 c0 c1 hb
            generalize wr.drewN nq = W2 at *
            go_wp2_with fail
            go_quiet (fail)
            have hb9 := Below.step hb8 (below_drewN W2 nq)
            have hB9 := hB8.below (below_drewN W2 nq)
            have hC9 := hC8.below (below_drewN W2 nq)
            generalize W2.drewN nq = W3 at *
            go_wp2
            go_ret2
            exact ⟨g, c, g1, c1', bs, ts, by rw [HL0.out, HL1.out]; rfl, hB9, hC9, hok0, hok1, by have := HL0.out; omega, by have := HL1.out; omega, hb9⟩
      · have h19i : ((how : Int) == 19) = false := by simp; omega
        have d0 := hF.cell 0 (by omega)
        have d1 := hF.cell 1 (by omega)
        have hB8 := (hF.at' 0 (by omega)).binds
        have hC8 := (hF.at' 1 (by omega)).binds
        have hok0 := hF.ok 0 (by omega)
        have hok1 := hF.ok 1 (by omega)
        obtain ⟨⟨g, c, bs, ps⟩, hF0⟩ : ∃ f, F 0 = f := ⟨_, rfl⟩
        obtain ⟨⟨g1, c1', ts, qs⟩, hF1⟩ : ∃ f, F 1 = f := ⟨_, rfl⟩
        rw [hF0] at d0 hB8 hl0 hok0
        rw [hF1] at d1 hC8 hl1 hok1
        simp only [FL.val] at d0 d1 hB8 hC8 hl0 hl1 hok0 hok1
        obtain ⟨l0, hl0'⟩ : ∃ l, bs.length = l := ⟨_, rfl⟩
        obtain ⟨l1, hl1'⟩ : ∃ l, ts.length = l := ⟨_, rfl⟩
        have HL0 : Hid (bs.length = l0) := hl0'
        have HL1 : Hid (ts.length = l1) := hl1'
        rw [hl0'] at d0 hl0
        rw [hl1'] at d1 hl1
        have hb8 := hb
        clear hl0' hl1' hF hb
        generalize wr = W2 at *
        go_wp2_with fail
        go_quiet (fail)
        have hb9 := Below.step hb8 (below_drewN W2 nq)
        have hB9 := hB8.below (below_drewN W2 nq)
        have hC9 := hC8.below (below_drewN W2 nq)
        generalize W2.drewN nq = W3 at *
        go_wp2
        go_ret2
        exact ⟨g, c, g1, c1', bs, ts, by rw [HL0.out, HL1.out]; rfl, hB9, hC9, hok0, hok1, by have := HL0.out; omega, by have := HL1.out; omega, hb9⟩

end Go.Proofs.Ytkmlfpfgiblcdab

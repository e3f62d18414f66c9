import Derived.Test.YtahdmflbdmlfhaaGreatDoorWBS
import Derived.Test.YtahdmflbdmlfhaaGreatDoorWAF
import Derived.Test.YtahdmflbdmlfhaaGreatDoorWAL
import Derived.Deep.Cut
namespace Go.Proofs.YtahdmflbdmlfhaaGreatDoor

open Go.RowKit

/-- Numbers that a draw may have. -/
def NumD (zs : List Nd) : Prop := ∀ z ∈ zs, 0 ≤ z.num ∧ z.num ≤ 1000

theorem NumD.append {xs ys : List Nd} (h : NumD xs) (h' : NumD ys) : NumD (xs ++ ys) := by
  intro z hz
  rcases List.mem_append.1 hz with hz | hz
  · exact h z hz
  · exact h' z hz

theorem NumD.one {n : Nd} (h0 : 0 ≤ n.num) (h1 : n.num ≤ 1000) : NumD [n] := by
  intro z hz
  simp at hz
  subst hz
  exact ⟨h0, h1⟩

theorem NumD.flatten {kss : List (List Nd)} (h : ∀ ks ∈ kss, NumD ks) : NumD kss.flatten := by
  intro z hz
  obtain ⟨ks, hk, hz⟩ := List.mem_flatten.1 hz
  exact h ks hk z hz

theorem NumD.wf {zs : List Nd} (h : NumD zs) : ∀ z ∈ zs, (Lit.int .i64 z.num).wf = true := by
  intro z hz
  have := h z hz
  exact WalkArith.wf_i64 (by omega)

/-- How far a draw goes on in its code, and how large what it draws is. -/
def stepsT : Nat → Nat
  | 0 => 3
  | d + 1 => 3 + 2 * stepsT d
def maxT : Nat → Nat
  | 0 => 1
  | d + 1 => 1 + 2 * maxT d

theorem stepsT_3 (d : Nat) : 3 ≤ stepsT d := by
  cases d <;> simp [stepsT]
theorem maxT_1 (d : Nat) : 1 ≤ maxT d := by
  cases d <;> simp [maxT]

/-- What l8DrawType answers. -/
def DrewT (w : World) (d p : Nat) (e : Ending) (w' : World) : Prop := ∃ (g c l p' : Nat) (zs : List Nd), e = .returned (.tuple #[.slice (some ⟨g, 0, none⟩) l c, .int .i64 (p' : Int)]) ∧ zs.length = l ∧ 0 < l ∧ l ≤ maxT d ∧ w.heap.size ≤ g ∧ OwnN w' w.heap.size g c l zs ∧ NumD zs ∧ p' ≤ p + stepsT d ∧ Below w.heap.size w w'

/-- And that it is one term. -/
def DrewTO (w : World) (d p : Nat) (e : Ending) (w' : World) : Prop := ∃ (g c l p' : Nat) (zs : List Nd), e = .returned (.tuple #[.slice (some ⟨g, 0, none⟩) l c, .int .i64 (p' : Int)]) ∧ zs.length = l ∧ 0 < l ∧ l ≤ maxT d ∧ w.heap.size ≤ g ∧ OwnN w' w.heap.size g c l zs ∧ NumD zs ∧ p' ≤ p + stepsT d ∧ Below w.heap.size w w' ∧ One zs

theorem DrewTO.drew {w w' : World} {d p : Nat} {e : Ending} (h : DrewTO w d p e w') : DrewT w d p e w' := by
  obtain ⟨g, c, l, p', zs, h1, h2, h3, h4, h5, h6, h7, h8, h9, _⟩ := h
  exact ⟨g, c, l, p', zs, h1, h2, h3, h4, h5, h6, h7, h8, h9⟩

theorem leafO (n : Nd) (h : n.kids = 0) : One [n] := One.join (A := []) (by simp) (by simp [h])

theorem OwnN.base {w : World} {B B' g c l : Nat} {zs : List Nd} (h : OwnN w B g c l zs) (hb : B' ≤ B) : OwnN w B' g c l zs := by
  obtain ⟨h1, h2, h3⟩ := h
  refine ⟨h1, h2, ?_⟩
  rcases h3 with h3 | ⟨g', cap, cur, e, h4, h5⟩
  · exact Or.inl h3
  · exact Or.inr ⟨g', cap, cur, e, by omega, h5⟩

set_option maxHeartbeats 400000 in
theorem leaf_any (k v : Int) (w : World) :
    Calls Tryz.prog 10 #[.int .i64 k, .int .i64 v] w fun e w' => e = .returned (.slice (some ⟨w.heap.size, 0, none⟩) 1 1) ∧ OwnN w' w.heap.size w.heap.size 1 1 [⟨k, v, ByteArray.empty, 0, 0⟩] ∧ Below w.heap.size w w' := by
  have h := OwnN.one (w := w) (B := w.heap.size) (Nat.le_refl _) ⟨k, v, ByteArray.empty, 0, 0⟩
  go_enter Tryz.func10, Tryz.ntmps10
  go_wp2
  go_ret
  exact ⟨rfl, h, (Below.refl _ _).alloc (Nat.le_refl _) _⟩

set_option maxHeartbeats 400000 in
theorem con_any (s : ByteArray) (ao : Option Addr) (cap : Nat) (w : World) :
    Calls Tryz.prog 29 #[.string s, .slice ao 0 cap] w fun e w' => ∃ g c, e = .returned (.slice (some ⟨g, 0, none⟩) 1 c) ∧ w.heap.size ≤ g ∧ OwnN w' w.heap.size g c 1 [⟨12, 0, s, 0, 0⟩] ∧ Below w.heap.size w w' := by
  have HJ := specJoin_any ⟨12, 0, s, 0, 0⟩ [] 0 rfl ao cap w (fun i hi => by simp at hi) (by simp [total]) (by omega)
  go_enter Tryz.func29, Tryz.ntmps29
  go_wp2_with fail
  refine HJ.mono ?_
  rintro e w1 ⟨v, rfl, hH, hb⟩
  obtain ⟨g, c, rfl, hg, _⟩ := hH.row (by simp)
  have hO : OwnN w1 w.heap.size g c 1 [⟨12, 0, s, 0, 0⟩] := ⟨rfl, by simpa [HoldsJ] using hH⟩
  clear HJ hH
  go_wp2
  go_ret
  exact ⟨g, c, rfl, hg, hO, hb⟩

theorem Tryz.infoV : (Tryz.prog.info? 29).map (fun i => (i.zero, i.size, i.bytes)) = some (some (.slice none 0 0), 1, 24) := by kernel_rfl

theorem one_cellT (T : Nat) (w : World) (v : Value) : ∀ j u, [v][j]? = some u → (w.alloc (.cells #[v] T)).cell? (Addr.add ⟨w.heap.size, 0, none⟩ j) = some u := by
  intro j u hj
  match j, hj with
  | 0, hj =>
    simp at hj
    subst hj
    have ad : Addr.add ⟨w.heap.size, 0, none⟩ 0 = ⟨w.heap.size, 0, none⟩ := by unfold Addr.add; simp
    rw [ad, cell_of_row _ w.heap.size 0 _ T (0, 0) (heap_alloc_new _ _)]
    rfl

theorem slice_one (ao : Option Addr) (l c : Nat) : ∀ u ∈ [Value.slice ao l c], u.oneCell' = true := by
  intro u hu
  simp at hu
  subst hu
  rfl

/-- Lists of nodes that were drawn, one by one. -/
structure Kds (w : World) (B g c i : Nat) (kss : List (List Nd)) (vs : List Value) : Prop where
  own : w.ownsRow B 29 1 (.slice (some ⟨g, 0, none⟩) i c) i vs
  len : kss.length = i
  rows : ∀ j (h : j < kss.length), ∃ gj cj, vs[j]? = some (.slice (some ⟨gj, 0, none⟩) kss[j].length cj) ∧ Row w gj kss[j]

theorem Kds.empty {w : World} {B : Nat} (hB : B ≤ w.heap.size) : Kds (w.alloc (.cells #[] 29)) B w.heap.size 0 0 [] [] :=
  ⟨⟨rfl, Or.inr ⟨_, 0, #[], rfl, hB, heap_alloc_new _ _, Nat.le_refl _, by simp [maxLen], rfl, rfl⟩⟩, rfl, fun j h => by simp at h⟩

theorem Kds.block {w : World} {B g c i : Nat} {kss : List (List Nd)} {vs : List Value} (h : Kds w B g c i kss vs) : B ≤ g ∧ g < w.heap.size := owns_block h.own

theorem Kds.ne {w : World} {B g c i gj : Nat} {kss : List (List Nd)} {vs : List Value} {ks : List Nd} (h : Kds w B g c i kss vs) (hr : Row w gj ks) : gj ≠ g := by
  intro e
  subst e
  obtain ⟨_, h9⟩ := h.own
  rcases h9 with ⟨h0, _⟩ | ⟨g2, cap2, cur, he, _, hh, _⟩
  · cases h0
  · simp only [Value.slice.injEq, Option.some.injEq, Addr.mk.injEq, and_true, true_and] at he
    obtain ⟨rfl, rfl⟩ := he
    obtain ⟨cur', rest, hc, _⟩ := hr
    rw [hh] at hc
    simp at hc

theorem Kds.below {w w' : World} {B g c i : Nat} {kss : List (List Nd)} {vs : List Value} (h : Kds w B g c i kss vs) (hb : Below w.heap.size w w') : Kds w' B g c i kss vs :=
  ⟨owns_but (S := fun _ => False) h.own (But.ofBelow hb) (fun h => h), h.len, fun j hj => by
    obtain ⟨gj, cj, e, hr⟩ := h.rows j hj
    exact ⟨gj, cj, e, hr.below hb⟩⟩

theorem Kds.lists {w : World} {B g c i : Nat} {kss : List (List Nd)} {vs : List Value} (h : Kds w B g c i kss vs) : Lists w (some ⟨g, 0, none⟩) kss := by
  intro j hj
  obtain ⟨gj, cj, e, hr⟩ := h.rows j hj
  have hl := h.len
  refine ⟨g, 0, some ⟨gj, 0, none⟩, cj, rfl, ?_, hr.nodes⟩
  rw [Nat.zero_add]
  have h9 := owns_at h.own j (by omega)
  rw [h9]
  exact e

theorem Kds.push {w w' : World} {B g c i g2 c2 gn cn : Nat} {kss : List (List Nd)} {vs : List Value} {ks : List Nd} (h : Kds w B g c i kss vs) (hg : w.grownBy w' (some g)) (hr : Row w gn ks)
    (ho : w'.ownsRow B 29 1 (.slice (some ⟨g2, 0, none⟩) (i + 1) c2) (i + 1) (vs ++ [.slice (some ⟨gn, 0, none⟩) ks.length cn])) : Kds w' B g2 c2 (i + 1) (kss ++ [ks]) (vs ++ [.slice (some ⟨gn, 0, none⟩) ks.length cn]) := by
  have hvl : vs.length = i := by have := h.own.1; omega
  have hl := h.len
  have kept : ∀ {q : Nat} {zs : List Nd}, Row w q zs → Row w' q zs := fun {q zs} hq => by
    have hne := h.ne hq
    have hlt := hq.lt
    obtain ⟨cur, rest, hc, he⟩ := hq
    exact ⟨cur, rest, (hg.block q hlt (by simpa using hne)).trans hc, he⟩
  refine ⟨ho, by simp [hl], ?_⟩
  intro j hj
  by_cases hji : j < kss.length
  · obtain ⟨gj, cj, e, hr'⟩ := h.rows j hji
    refine ⟨gj, cj, ?_, ?_⟩
    · rw [List.getElem?_append_left (by omega), List.getElem_append_left hji]
      exact e
    · rw [List.getElem_append_left hji]
      exact kept hr'
  · have hje : j = kss.length := by simp at hj; omega
    subst hje
    refine ⟨gn, cn, ?_, ?_⟩
    · rw [List.getElem?_append_right (by omega)]
      simp [hvl, hl]
    · simp only [List.getElem_append_right (Nat.le_refl _), Nat.sub_self, List.getElem_cons_zero]
      exact kept hr

theorem NodeAt.below9 {w w' : World} {b o : Nat} {n : Nd} (h : NodeAt w b o n) (hb : Below w.heap.size w w') : NodeAt w' b o n := by
  have hl : b < w.heap.size := lt_of_cell h.1
  obtain ⟨c0, c1, c2, c3, c4⟩ := h
  exact ⟨(bcell hb _ _ hl).trans c0, (bcell hb _ _ hl).trans c1, (bcell hb _ _ hl).trans c2, (bcell hb _ _ hl).trans c3, (bcell hb _ _ hl).trans c4⟩

theorem root_new (w : World) (k : Int) (tx : ByteArray) : NodeAt (w.alloc (.cells #[.int .i64 k, .int .i64 0, .string tx, .int .i64 0, .int .i64 0] 40)) w.heap.size 0 ⟨k, 0, tx, 0, 0⟩ := by
  refine ⟨?_, ?_, ?_, ?_, ?_⟩
  all_goals
    rw [cell_of_row _ w.heap.size _ _ 40 (0, 0) (heap_alloc_new w _)]
    rfl

theorem cell_kept8 {w w' : World} {g k o : Nat} (hg : w.grownBy w' (some k)) (hl : g < w.heap.size) (hne : g ≠ k) : w'.cell? ⟨g, o, none⟩ = w.cell? ⟨g, o, none⟩ := by
  have h := hg.block g hl (by simpa using hne)
  unfold World.cell?
  rw [h]

theorem total_flat9 (kss : List (List Nd)) : total kss = kss.flatten.length := by
  induction kss with
  | nil => rfl
  | cons k ks ih => simp only [total, List.map_cons, List.sum_cons, List.flatten_cons, List.length_append] at ih ⊢; omega

theorem flatten_len {kss : List (List Nd)} {M : Nat} (h : ∀ ks ∈ kss, ks.length ≤ M) : kss.flatten.length ≤ kss.length * M := by
  induction kss with
  | nil => simp
  | cons k ks ih =>
    have h1 := h k (List.mem_cons_self ..)
    have h2 := ih (fun x hx => h x (List.mem_cons_of_mem _ hx))
    simp only [List.flatten_cons, List.length_append, List.length_cons, Nat.add_mul]
    omega

set_option maxRecDepth 100000 in
set_option maxHeartbeats 4000000 in
theorem drawType_step (n : Nat) (hn : n ≤ 1048576) (ao : Option Addr) (cap : Nat) (metas : Nat) (hm0 : 1 ≤ metas) (hm1 : metas ≤ 16) (d : Nat) (hd5 : d ≤ 5)
    (IH : ∀ d', d' + 1 = d → ∀ (p : Nat) (w : World), Code w ao n → p + stepsT d' ≤ 1000 → Calls Tryz.prog 12 #[.slice ao n cap, .int .i64 (p : Int), .int .i64 (d' : Int), .int .i64 (metas : Int)] w fun e w' => DrewTO w d' p e w')
    (p : Nat) (w : World) (hc : Code w ao n) (hp : p + stepsT d ≤ 1000) :
    Calls Tryz.prog 12 #[.slice ao n cap, .int .i64 (p : Int), .int .i64 (d : Int), .int .i64 (metas : Int)] w fun e w' => DrewTO w d p e w' := by
  have hs3 := stepsT_3 d
  obtain ⟨i1, hj1, hy0, hy1, hy2⟩ := info_parts Tryz.infoV
  go_enter Tryz.func12, Tryz.ntmps12
  go_wp2_with fail
  refine (takeB_any n hn ao cap w hc p 12 (by omega) (by omega) (by omega)).mono ?_
  rintro e w1 ⟨⟨a, ha, rfl⟩, hb1⟩
  go_wp2_with fail
  refine (takeB_any n hn ao cap w1 (hc.below hb1) (p + 1) 16 (by omega) (by omega) (by omega)).mono ?_
  rintro e w2 ⟨⟨b, hb, rfl⟩, hb2⟩
  have hbb := Below.step hb1 hb2
  clear hb1 hb2
  by_cases hd0 : d = 0
  · subst hd0
    clear IH hc
    by_cases h3 : a % 3 = 0
    · have h3i : ((a : Int) % 3) = 0 := by omega
      obtain ⟨v, hv, hv0, hv1⟩ : ∃ v : Int, (b : Int) % (metas : Int) = v ∧ 0 ≤ v ∧ v < 16 := by
        obtain ⟨q0, q1⟩ := rem_in (x := (b : Int)) (k := metas) (by omega) hm0
        exact ⟨_, rfl, q0, by omega⟩
      have hmt : decide ((metas : Int) > 0) = true := decide_eq_true (by omega)
      go_wp2_with fail
      refine (leaf_any 61 _ w2).mono ?_
      rintro e w3 ⟨rfl, hr, hb3⟩
      have hg := hbb.size
      have hb4 := Below.step hbb hb3
      clear hbb hb3
      go_wp2
      go_ret2
      exact ⟨w2.heap.size, 1, 1, p + 1 + 1, _, by simp, rfl, by omega, maxT_1 _, hg, hr.base hg, NumD.one (by simp; omega) (by simp; omega), by have := stepsT_3 (0); omega, hb4, leafO _ rfl⟩
    · have h3i : ¬ ((a : Int) % 3) = 0 := by omega
      by_cases h4 : a = 4
      · subst h4
        go_wp2_with fail
        refine (leaf_any 60 _ w2).mono ?_
        rintro e w3 ⟨rfl, hr, hb3⟩
        have hg := hbb.size
        have hb4 := Below.step hbb hb3
        clear hbb hb3
        go_wp2
        go_ret2
        exact ⟨w2.heap.size, 1, 1, p + 1 + 1, _, by simp, rfl, by omega, maxT_1 _, hg, hr.base hg, NumD.one (by simp; omega) (by simp; omega), by have := stepsT_3 (0); omega, hb4, leafO _ rfl⟩
      · have h4i : ((a : Int) == 4) = false := by simp; omega
        rcases Nat.mod_two_eq_zero_or_one b with h2 | h2
        all_goals
          have h2i : ((b : Int) % 2) = ((b % 2 : Nat) : Int) := by omega
          rw [h2] at h2i
          go_wp2_with fail
          refine (con_any _ _ _ _).mono ?_
          rintro e w3 ⟨g, c, rfl, hg, hr, hb3⟩
          have hg2 := hbb.size
          have hb4 := Below.step ((hbb.alloc hbb.size _).alloc (hbb.alloc hbb.size _).size _) hb3
          have hg3 : w.heap.size ≤ g := by simp at hg; omega
          have hg4 : w.heap.size ≤ w2.heap.size + 1 + 1 := by omega
          clear hbb hb3 hg hg2
          go_wp2
          go_ret2
          exact ⟨g, c, 1, p + 1 + 1, _, by simp, rfl, by omega, maxT_1 _, hg3, hr.base (by simp; omega), NumD.one (by simp) (by simp), by have := stepsT_3 (0); omega, hb4, leafO _ rfl⟩
  · have hdi : decide ((d : Int) ≤ 0) = false := decide_eq_false (by omega)
    by_cases ha6 : a < 6
    · have ha6i : decide ((a : Int) < 6) = true := decide_eq_true (by omega)
      clear IH hc
      by_cases h3 : a % 3 = 0
      · have h3i : ((a : Int) % 3) = 0 := by omega
        obtain ⟨v, hv, hv0, hv1⟩ : ∃ v : Int, (b : Int) % (metas : Int) = v ∧ 0 ≤ v ∧ v < 16 := by
          obtain ⟨q0, q1⟩ := rem_in (x := (b : Int)) (k := metas) (by omega) hm0
          exact ⟨_, rfl, q0, by omega⟩
        have hmt : decide ((metas : Int) > 0) = true := decide_eq_true (by omega)
        go_wp2_with fail
        refine (leaf_any 61 _ w2).mono ?_
        rintro e w3 ⟨rfl, hr, hb3⟩
        have hg := hbb.size
        have hb4 := Below.step hbb hb3
        clear hbb hb3
        go_wp2
        go_ret2
        exact ⟨w2.heap.size, 1, 1, p + 1 + 1, _, by simp, rfl, by omega, maxT_1 _, hg, hr.base hg, NumD.one (by simp; omega) (by simp; omega), by have := stepsT_3 (d); omega, hb4, leafO _ rfl⟩
      · have h3i : ¬ ((a : Int) % 3) = 0 := by omega
        by_cases h4 : a = 4
        · subst h4
          go_wp2_with fail
          refine (leaf_any 60 _ w2).mono ?_
          rintro e w3 ⟨rfl, hr, hb3⟩
          have hg := hbb.size
          have hb4 := Below.step hbb hb3
          clear hbb hb3
          go_wp2
          go_ret2
          exact ⟨w2.heap.size, 1, 1, p + 1 + 1, _, by simp, rfl, by omega, maxT_1 _, hg, hr.base hg, NumD.one (by simp; omega) (by simp; omega), by have := stepsT_3 (d); omega, hb4, leafO _ rfl⟩
        · have h4i : ((a : Int) == 4) = false := by simp; omega
          rcases Nat.mod_two_eq_zero_or_one b with h2 | h2
          all_goals
            have h2i : ((b : Int) % 2) = ((b % 2 : Nat) : Int) := by omega
            rw [h2] at h2i
            go_wp2_with fail
            refine (con_any _ _ _ _).mono ?_
            rintro e w3 ⟨g, c, rfl, hg, hr, hb3⟩
            have hg2 := hbb.size
            have hb4 := Below.step ((hbb.alloc hbb.size _).alloc (hbb.alloc hbb.size _).size _) hb3
            have hg3 : w.heap.size ≤ g := by simp at hg; omega
            have hg4 : w.heap.size ≤ w2.heap.size + 1 + 1 := by omega
            clear hbb hb3 hg hg2
            go_wp2
            go_ret2
            exact ⟨g, c, 1, p + 1 + 1, _, by simp, rfl, by omega, maxT_1 _, hg3, hr.base (by simp; omega), NumD.one (by simp) (by simp), by have := stepsT_3 (d); omega, hb4, leafO _ rfl⟩
    · have ha6i : decide ((a : Int) < 6) = false := decide_eq_false (by omega)
      obtain ⟨d, rfl⟩ : ∃ d', d = d' + 1 := ⟨d - 1, by omega⟩
      have hIH := IH d rfl
      have hmx : maxT (d + 1) = 1 + 2 * maxT d := rfl
      have hst : stepsT (d + 1) = 3 + 2 * stepsT d := rfl
      go_wp2_with fail
      refine (takeB_any n hn ao cap w2 (hc.below hbb) (p + 1 + 1) 3 (by omega) (by omega) (by omega)).mono ?_
      rintro e w3 ⟨⟨k0, hk0, rfl⟩, hb3⟩
      have hb4 := Below.step hbb hb3
      clear hbb hb3
      go_upto_if 72 with fail
      go_cut [12] from 18 (fun v wx => ∃ (kd : Int) (tx : ByteArray) (k : Nat), v = .int .i64 (k : Int) ∧ k ≤ 2 ∧ NodeAt wx w3.heap.size 0 ⟨kd, 0, tx, 0, 0⟩ ∧ Below w.heap.size w wx)
      case first =>
        have hcs : (a < 9 ∨ a = 9 ∧ k0 = 1) ∨ a = 9 ∧ k0 ≠ 1 ∨ 10 ≤ a ∧ b % 2 = 0 ∨ 10 ≤ a ∧ b % 2 = 1 := by omega
        clear hIH IH hc
        have hbA := hb4.alloc hb4.size (.cells #[.int .i64 13, .int .i64 0, .string ⟨#[]⟩, .int .i64 0, .int .i64 0] 40)
        rcases hcs with (h9 | ⟨h9, h1⟩) | ⟨h9, h1⟩ | ⟨h9, h1⟩ | ⟨h9, h1⟩
        · have h9i : decide ((a : Int) < 9) = true := decide_eq_true (by omega)
          go_wp2
          go_meet
          case rel =>
            exact ⟨13, ⟨#[]⟩, 2, rfl, by omega, root_new w3 13 ⟨#[]⟩, hb4.alloc hb4.size _⟩
        · subst h9 h1
          go_wp2
          go_meet
          case rel =>
            exact ⟨14, ⟨#[]⟩, 2, rfl, by omega, root_new w3 14 ⟨#[]⟩, hb4.alloc hb4.size _⟩
        · subst h9
          have h1i : ((k0 : Int) == 1) = false := by simp; omega
          go_wp2
          go_meet
          case rel =>
            exact ⟨14, ⟨#[]⟩, k0, rfl, by omega, root_new w3 14 ⟨#[]⟩, hb4.alloc hb4.size _⟩
        · have h9i : decide ((a : Int) < 9) = false := decide_eq_false (by omega)
          have h10i : ((a : Int) == 9) = false := by simp; omega
          have h2i : ((b : Int) % 2) = 0 := by omega
          go_wp2
          go_meet
          case rel =>
            exact ⟨12, ⟨#[108, 105, 115, 116]⟩, k0, rfl, by omega, (root_new w3 12 ⟨#[108, 105, 115, 116]⟩).below9 ((Below.refl _ _).alloc (Nat.le_refl _) _), (hb4.alloc hb4.size _).alloc (hb4.alloc hb4.size _).size _⟩
        · have h9i : decide ((a : Int) < 9) = false := decide_eq_false (by omega)
          have h10i : ((a : Int) == 9) = false := by simp; omega
          have h2i : ((b : Int) % 2) = 1 := by omega
          go_wp2
          go_meet
          case rel =>
            exact ⟨12, ⟨#[116]⟩, k0, rfl, by omega, (root_new w3 12 ⟨#[116]⟩).below9 ((Below.refl _ _).alloc (Nat.le_refl _) _), (hb4.alloc hb4.size _).alloc (hb4.alloc hb4.size _).size _⟩
      case rest =>
        obtain ⟨kd, tx, k, rfl, hk2, hroot9, hb49⟩ := hcut
        have hw39 : w3.heap.size < wc.heap.size := lt_of_cell hroot9.1
        have hbc : Below wc.heap.size wc (wc.alloc (.cells #[] 29)) := (Below.refl _ _).alloc (Nat.le_refl _) _
        have hroot0 := hroot9.below9 hbc
        have hb5 : Below w.heap.size w (wc.alloc (.cells #[] 29)) := hb49.alloc hb49.size _
        have hK0 := Kds.empty (w := wc) (B := w.heap.size) hb49.size
        clear hroot9 hb49 hbc hb4
        go_wp2
        go_loopw [1, 14, 15] (fun pv kv iv wr => ∃ (i q g c : Nat) (kss : List (List Nd)) (vs : List Value), i ≤ k ∧ iv = .int .i64 (i : Int) ∧ pv = .int .i64 (q : Int) ∧ kv = .slice (some ⟨g, 0, none⟩) i c ∧ Kds wr w.heap.size g c i kss vs ∧ Hid (∀ ks ∈ kss, NumD ks ∧ ks.length ≤ maxT d ∧ One ks) ∧ q ≤ p + 3 + i * stepsT d ∧ Below w.heap.size w wr ∧ NodeAt wr w3.heap.size 0 ⟨kd, 0, tx, 0, 0⟩ ∧ w3.heap.size ≠ g) (fun _ _ iv _ => k - (intOf iv).toNat)
        case atStart => exact ⟨0, p + 1 + 1 + 1, wc.heap.size, 0, [], [], Nat.zero_le _, rfl, by simp, rfl, hK0, fun ks hk => by simp at hk, by omega, hb5, hroot0, by omega⟩
        case round =>
          clear hroot0 hb5 hK0
          obtain ⟨i, q, g, c, kss, vs, hi, rfl, rfl, rfl, hK, HK, hq, hb6, hroot, hne⟩ := hrel
          have hw3 : w3.heap.size < wr.heap.size := lt_of_cell hroot.1
          by_cases hlt : i < k
          · have hq9 : q + stepsT d ≤ 1000 := by
              have h8 : i * stepsT d ≤ 1 * stepsT d := Nat.mul_le_mul_right _ (by omega)
              omega
            have HD := hIH q wr (hc.below hb6) hq9
            clear hIH IH
            go_wp2_with fail
            refine HD.mono ?_
            rintro e w7 ⟨gn, cn, ln, pn, ks, rfl, hln, _, hlm, hgn, hon, hnn, hpn, hb7, hon9⟩
            have hrn := hon.row.2
            clear hon
            have hK7 := hK.below hb7
            have hbw7 := Below.step hb6 hb7
            have hs7 := hb7.size
            have hKb := hK7.block
            have hroot7 : NodeAt w7 w3.heap.size 0 ⟨kd, 0, tx, 0, 0⟩ := by
              obtain ⟨c0, c1, c2, c3, c4⟩ := hroot
              exact ⟨(bcell hb7 _ _ hw3).trans c0, (bcell hb7 _ _ hw3).trans c1, (bcell hb7 _ _ hw3).trans c2, (bcell hb7 _ _ hw3).trans c3, (bcell hb7 _ _ hw3).trans c4⟩
            have HLN : Hid (ks.length = ln) := hln
            have hone := one_cellT 29 w7 (.slice (some ⟨gn, 0, none⟩) ln cn)
            have hK8 := hK7.below ((Below.refl _ w7).alloc (Nat.le_refl _) (.cells #[.slice (some ⟨gn, 0, none⟩) ln cn] 29))
            have hr8 := hrn.below ((Below.refl _ w7).alloc (Nat.le_refl _) (.cells #[.slice (some ⟨gn, 0, none⟩) ln cn] 29))
            clear HD hK hb6 hb7 hln hroot
            go_wp2_with (at_builtin; refine wpList_append2 _ rfl (.tmp 100) (.tmp 102) 41 rfl w.heap.size 29 i1 _ 1 24 Tryz.underlying41 hj1 hy0 hy1 hy2 rfl (by decide) g i c _ rfl hK8.own ⟨_, 0, none⟩ 1 1 [.slice (some ⟨gn, 0, none⟩) ln cn] rfl rfl hone (slice_one _ _ _) ?b3 ?b4 ?b5 ?_)
            case b3 => unfold maxLen; omega
            case b4 => omega
            case b5 => have := hbw7.size; simp; omega
            intro g2 c2 w8 hown8 hgrow8 hwh8
            have hK9 := hK8.push (cn := cn) hgrow8 hr8 (by rw [HLN.out]; exact hown8)
            have hb8 : Below w.heap.size w w8 := (hbw7.alloc hbw7.size _).grown hgrow8 (hbw7.alloc hbw7.size _).size (fun j hj => by cases hj; exact hKb.1)
            have hne8 : w3.heap.size ≠ g := hne
            have hroot8 : NodeAt w8 w3.heap.size 0 ⟨kd, 0, tx, 0, 0⟩ := by
              have hA8 : ∀ o, w8.cell? ⟨w3.heap.size, o, none⟩ = w7.cell? ⟨w3.heap.size, o, none⟩ := fun o => by
                rw [cell_kept8 hgrow8 (by simp; omega) hne8]
                exact bcell ((Below.refl _ w7).alloc (Nat.le_refl _) _) _ _ (by omega)
              obtain ⟨c0, c1, c2, c3, c4⟩ := hroot7
              exact ⟨(hA8 _).trans c0, (hA8 _).trans c1, (hA8 _).trans c2, (hA8 _).trans c3, (hA8 _).trans c4⟩
            have HK9 : Hid (∀ k ∈ kss ++ [ks], NumD k ∧ k.length ≤ maxT d ∧ One k) := by
              intro k hk
              rcases List.mem_append.1 hk with hk | hk
              · exact HK.out k hk
              · simp at hk
                subst hk
                exact ⟨hnn, by rw [HLN.out]; exact hlm, hon9⟩
            have hne9 : w3.heap.size ≠ g2 := by
              rcases hwh8 with h9 | h9
              · omega
              · omega
            have hq8 : pn ≤ p + 3 + (i + 1) * stepsT d := by rw [Nat.add_mul]; omega
            clear hown8 hgrow8 hwh8 hK8 hr8 hone hrn hK7 hbw7 hroot7 hnn hon9
            go_wp2
            go_roundw
            case rel => exact ⟨i + 1, pn, g2, c2, _, _, by omega, by go_num, rfl, rfl, hK9, HK9, hq8, hb8, hroot8, hne9⟩
            case measure => simp [intOf]; omega
          · have hik : i = k := by omega
            subst hik
            have hkl := hK.len
            have hfl := flatten_len (M := maxT d) (fun ks hk => (HK.out ks hk).2.1)
            have hmd : maxT d ≤ 31 := by
              have hd4 : d = 0 ∨ d = 1 ∨ d = 2 ∨ d = 3 ∨ d = 4 := by omega
              rcases hd4 with rfl | rfl | rfl | rfl | rfl <;> simp [maxT]
            have hfl2 : kss.flatten.length ≤ 2 * maxT d := by
              have h8 : kss.length * maxT d ≤ 2 * maxT d := Nat.mul_le_mul_right _ (by omega)
              omega
            have HJ := specJoin_any ⟨kd, 0, tx, 0, 0⟩ kss i hkl (some ⟨g, 0, none⟩) c wr hK.lists (by rw [total_flat9]; omega) (by omega)
            simp only at HJ
            have HNK : Hid (NumD (kss.flatten ++ [⟨kd, 0, tx, (i : Int), 0⟩])) := (NumD.flatten (fun ks hk => (HK.out ks hk).1)).append (NumD.one (by simp) (by simp))
            have HON : Hid (One (kss.flatten ++ [⟨kd, 0, tx, (i : Int), 0⟩])) := One.join (fun ks hk => (HK.out ks hk).2.2) (by simp [hkl])
            obtain ⟨c0, c1, c2, c3, c4⟩ := hroot
            simp only [Nat.zero_add] at c0 c1 c2 c3 c4
            have hs6 := hb6.size
            clear hK HK hIH IH hc
            go_wp2_with fail
            refine HJ.mono ?_
            rintro e w9 ⟨v, rfl, hH, hb9⟩
            obtain ⟨g9, c9, rfl, hg9, _⟩ := hH.row (by simp)
            have hO8 : OwnN w9 wr.heap.size g9 c9 (kss.flatten ++ [(⟨kd, 0, tx, (i : Int), 0⟩ : Nd)]).length (kss.flatten ++ [(⟨kd, 0, tx, (i : Int), 0⟩ : Nd)]) := ⟨rfl, hH⟩
            have hO9 := hO8.base hs6
            have hbf := Below.step hb6 hb9
            clear HJ hH hb6 hb9 c0 c1 c2 c3 c4
            go_wp2
            go_ret2
            refine ⟨g9, c9, _, q, _, rfl, by simp, by simp, ?_, by omega, by simpa using hO9, HNK.out, ?_, hbf, HON.out⟩
            · have hsum : (kss.map List.length).sum = kss.flatten.length := List.length_flatten.symm
              rw [hsum]
              omega
            · have h8 : i * stepsT d ≤ 2 * stepsT d := Nat.mul_le_mul_right _ (by omega)
              omega

theorem drawTypeO_any (n : Nat) (hn : n ≤ 1048576) (ao : Option Addr) (cap : Nat) (metas : Nat) (hm0 : 1 ≤ metas) (hm1 : metas ≤ 16) (d : Nat) (hd5 : d ≤ 5) (p : Nat) (w : World) (hc : Code w ao n) (hp : p + stepsT d ≤ 1000) :
    Calls Tryz.prog 12 #[.slice ao n cap, .int .i64 (p : Int), .int .i64 (d : Int), .int .i64 (metas : Int)] w fun e w' => DrewTO w d p e w' := by
  induction d generalizing p w with
  | zero => exact drawType_step n hn ao cap metas hm0 hm1 0 (by omega) (fun d' h => by omega) p w hc hp
  | succ d ih =>
    refine drawType_step n hn ao cap metas hm0 hm1 (d + 1) hd5 (fun d' h p' w' hc' hp' => ?_) p w hc hp
    obtain rfl : d' = d := by omega
    exact ih (by omega) p' w' hc' hp'

end Go.Proofs.YtahdmflbdmlfhaaGreatDoor

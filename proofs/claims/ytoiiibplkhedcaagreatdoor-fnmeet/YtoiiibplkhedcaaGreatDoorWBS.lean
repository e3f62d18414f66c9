import Derived.Test.YtoiiibplkhedcaaGreatDoorWBR
set_option maxRecDepth 100000
set_option maxHeartbeats 4000000
namespace Go.Proofs.YtoiiibplkhedcaaGreatDoor
open Go.RowKit
def NumD (zs : List Nd) : Prop := ∀ z ∈ zs, 0 ≤ z.num ∧ z.num ≤ 1000
theorem NumD.append {xs ys : List Nd} (h : NumD xs) (h' : NumD ys) : NumD (xs ++ ys) := by
  intro z hz
  rcases List.mem_append.1 hz with hz | hz
  · exact h z hz
  · exact h' z hz
theorem NumD.one {n : Nd} (h0 : 0 ≤ n.num) (h1 : n.num ≤ 1000) : NumD [n] := by
  intro z hz
  simp at hz
  subst hz
  exact ⟨h0, h1⟩
theorem NumD.flatten {kss : List (List Nd)} (h : ∀ ks ∈ kss, NumD ks) : NumD kss.flatten := by
  intro z hz
  obtain ⟨ks, hk, hz⟩ := List.mem_flatten.1 hz
  exact h ks hk z hz
def Qcs : Nat → Nat
  | 0 => 3
  | d + 1 => 3 + 2 * Qcs d
def maxT : Nat → Nat
  | 0 => 1
  | d + 1 => 1 + 2 * maxT d
theorem Qes (d : Nat) : 3 ≤ Qcs d := by
  cases d <;> simp [Qcs]
theorem Qlq (d : Nat) : 1 ≤ maxT d := by
  cases d <;> simp [maxT]
def Qyn (w : World) (d p : Nat) (e : Ending) (w' : World) : Prop := ∃ (g c l p' : Nat) (zs : List Nd), e = .returned (.tuple #[.slice (some ⟨g, 0, none⟩) l c, .int .i64 (p' : Int)]) ∧ zs.length = l ∧ 0 < l ∧ l ≤ maxT d ∧ w.heap.size ≤ g ∧ OwnN w' w.heap.size g c l zs ∧ NumD zs ∧ p' ≤ p + Qcs d ∧ Below w.heap.size w w' ∧ One zs
theorem Qoq (n : Nd) (h : n.kids = 0) : One [n] := One.join (A := []) (by simp) (by simp [h])
theorem OwnN.base {w : World} {B B' g c l : Nat} {zs : List Nd} (h : OwnN w B g c l zs) (hb : B' ≤ B) : OwnN w B' g c l zs := by
  obtain ⟨h1, h2, h3⟩ := h
  refine ⟨h1, h2, ?_⟩
  rcases h3 with h3 | ⟨g', cap, cur, e, h4, h5⟩
  · exact Or.inl h3
  · exact Or.inr ⟨g', cap, cur, e, by omega, h5⟩
theorem Qhg (k v : Int) (w : World) :
    Calls Tryz.prog 33 #[.int .i64 k, .int .i64 v] w fun e w' => e = .returned (.slice (some ⟨w.heap.size, 0, none⟩) 1 1) ∧ OwnN w' w.heap.size w.heap.size 1 1 [⟨k, v, ByteArray.empty, 0, 0⟩] ∧ Below w.heap.size w w' := by
  have h := OwnN.one (w := w) (B := w.heap.size) (Nat.le_refl _) ⟨k, v, ByteArray.empty, 0, 0⟩
  go_enter Tryz.func33, Tryz.ntmps33
  go_wp2
  go_ret
  exact ⟨rfl, h, (Below.refl _ _).alloc (Nat.le_refl _) _⟩
theorem Qxv (s : ByteArray) (ao : Option Addr) (cap : Nat) (w : World) :
    Calls Tryz.prog 34 #[.string s, .slice ao 0 cap] w fun e w' => ∃ g c, e = .returned (.slice (some ⟨g, 0, none⟩) 1 c) ∧ w.heap.size ≤ g ∧ OwnN w' w.heap.size g c 1 [⟨12, 0, s, 0, 0⟩] ∧ Below w.heap.size w w' := by
  have HJ := Qcz ⟨12, 0, s, 0, 0⟩ [] 0 rfl ao cap w (fun i hi => by simp at hi) (by simp [Qfh]) (by omega)
  go_enter Tryz.func34, Tryz.ntmps34
  go_wp2_with fail
  refine HJ.mono ?_
  rintro e w1 ⟨v, rfl, hH, hb⟩
  obtain ⟨g, c, rfl, hg, _⟩ := hH.row (by simp)
  have hO : OwnN w1 w.heap.size g c 1 [⟨12, 0, s, 0, 0⟩] := ⟨rfl, by simpa [HoldsJ] using hH⟩
  clear HJ hH
  go_wp2
  go_ret
  exact ⟨g, c, rfl, hg, hO, hb⟩
theorem Tryz.infoV : (Tryz.prog.info? 23).map (fun i => (i.zero, i.size, i.bytes)) = some (some (.slice none 0 0), 1, 24) := by kernel_rfl
theorem Qog (T : Nat) (w : World) (v : Value) : ∀ j u, [v][j]? = some u → (w.alloc (.cells #[v] T)).cell? (Addr.add ⟨w.heap.size, 0, none⟩ j) = some u := by
  intro j u hj
  match j, hj with
  | 0, hj =>
    simp at hj
    subst hj
    have ad : Addr.add ⟨w.heap.size, 0, none⟩ 0 = ⟨w.heap.size, 0, none⟩ := by unfold Addr.add; simp
    rw [ad, cell_of_row _ w.heap.size 0 _ T (0, 0) (heap_alloc_new _ _)]
    rfl
theorem Qnx (ao : Option Addr) (l c : Nat) : ∀ u ∈ [Value.slice ao l c], u.oneCell' = true := by
  intro u hu
  simp at hu
  subst hu
  rfl
structure Kds (w : World) (B g c i : Nat) (kss : List (List Nd)) (vs : List Value) : Prop where
  own : w.ownsRow B 23 1 (.slice (some ⟨g, 0, none⟩) i c) i vs
  len : kss.length = i
  rows : ∀ j (h : j < kss.length), ∃ gj cj, vs[j]? = some (.slice (some ⟨gj, 0, none⟩) kss[j].length cj) ∧ Row w gj kss[j]
theorem Kds.empty {w : World} {B : Nat} (hB : B ≤ w.heap.size) : Kds (w.alloc (.cells #[] 23)) B w.heap.size 0 0 [] [] :=
  ⟨⟨rfl, Or.inr ⟨_, 0, #[], rfl, hB, heap_alloc_new _ _, Nat.le_refl _, by simp [maxLen], rfl, rfl⟩⟩, rfl, fun j h => by simp at h⟩
theorem Kds.block {w : World} {B g c i : Nat} {kss : List (List Nd)} {vs : List Value} (h : Kds w B g c i kss vs) : B ≤ g ∧ g < w.heap.size := Qad h.own
theorem Kds.ne {w : World} {B g c i gj : Nat} {kss : List (List Nd)} {vs : List Value} {ks : List Nd} (h : Kds w B g c i kss vs) (hr : Row w gj ks) : gj ≠ g := by
  intro e
  subst e
  obtain ⟨_, h9⟩ := h.own
  rcases h9 with ⟨h0, _⟩ | ⟨g2, cap2, cur, he, _, hh, _⟩
  · cases h0
  · simp only [Value.slice.injEq, Option.some.injEq, Addr.mk.injEq, and_true, true_and] at he
    obtain ⟨rfl, rfl⟩ := he
    obtain ⟨cur', rest, hc, _⟩ := hr
    rw [hh] at hc
    simp at hc
theorem Kds.below {w w' : World} {B g c i : Nat} {kss : List (List Nd)} {vs : List Value} (h : Kds w B g c i kss vs) (hb : Below w.heap.size w w') : Kds w' B g c i kss vs :=
  ⟨Qah (S := fun _ => False) h.own (But.ofBelow hb) (fun h => h), h.len, fun j hj => by
    obtain ⟨gj, cj, e, hr⟩ := h.rows j hj
    exact ⟨gj, cj, e, hr.below hb⟩⟩
theorem Kds.lists {w : World} {B g c i : Nat} {kss : List (List Nd)} {vs : List Value} (h : Kds w B g c i kss vs) : Lists w (some ⟨g, 0, none⟩) kss := by
  intro j hj
  obtain ⟨gj, cj, e, hr⟩ := h.rows j hj
  have hl := h.len
  refine ⟨g, 0, some ⟨gj, 0, none⟩, cj, rfl, ?_, hr.nodes⟩
  rw [Nat.zero_add]
  have h9 := Qdu h.own j (by omega)
  rw [h9]
  exact e
theorem Kds.push {w w' : World} {B g c i g2 c2 gn cn : Nat} {kss : List (List Nd)} {vs : List Value} {ks : List Nd} (h : Kds w B g c i kss vs) (hg : w.grownBy w' (some g)) (hr : Row w gn ks)
    (ho : w'.ownsRow B 23 1 (.slice (some ⟨g2, 0, none⟩) (i + 1) c2) (i + 1) (vs ++ [.slice (some ⟨gn, 0, none⟩) ks.length cn])) : Kds w' B g2 c2 (i + 1) (kss ++ [ks]) (vs ++ [.slice (some ⟨gn, 0, none⟩) ks.length cn]) := by
  have hvl : vs.length = i := by have := h.own.1; omega
  have hl := h.len
  have kept : ∀ {q : Nat} {zs : List Nd}, Row w q zs → Row w' q zs := fun {q zs} hq => by
    have hne := h.ne hq
    have hlt := hq.lt
    obtain ⟨cur, rest, hc, he⟩ := hq
    exact ⟨cur, rest, (hg.block q hlt (by simpa using hne)).trans hc, he⟩
  refine ⟨ho, by simp [hl], ?_⟩
  intro j hj
  by_cases hji : j < kss.length
  · obtain ⟨gj, cj, e, hr'⟩ := h.rows j hji
    refine ⟨gj, cj, ?_, ?_⟩
    · rw [List.getElem?_append_left (by omega), List.getElem_append_left hji]
      exact e
    · rw [List.getElem_append_left hji]
      exact kept hr'
  · have hje : j = kss.length := by simp at hj; omega
    subst hje
    refine ⟨gn, cn, ?_, ?_⟩
    · rw [List.getElem?_append_right (by omega)]
      simp [hvl, hl]
    · simp only [List.getElem_append_right (Nat.le_refl _), Nat.sub_self, List.getElem_cons_zero]
      exact kept hr
theorem NodeAt.below9 {w w' : World} {b o : Nat} {n : Nd} (h : NodeAt w b o n) (hb : Below w.heap.size w w') : NodeAt w' b o n := by
  have hl : b < w.heap.size := Qaa h.1
  obtain ⟨c0, c1, c2, c3, c4⟩ := h
  exact ⟨(Qfd hb _ _ hl).trans c0, (Qfd hb _ _ hl).trans c1, (Qfd hb _ _ hl).trans c2, (Qfd hb _ _ hl).trans c3, (Qfd hb _ _ hl).trans c4⟩
theorem Qha (w : World) (k : Int) (tx : ByteArray) : NodeAt (w.alloc (.cells #[.int .i64 k, .int .i64 0, .string tx, .int .i64 0, .int .i64 0] 43)) w.heap.size 0 ⟨k, 0, tx, 0, 0⟩ := by
  refine ⟨?_, ?_, ?_, ?_, ?_⟩
  all_goals
    rw [cell_of_row _ w.heap.size _ _ 43 (0, 0) (heap_alloc_new w _)]
    rfl
theorem Quh {w w' : World} {g k o : Nat} (hg : w.grownBy w' (some k)) (hl : g < w.heap.size) (hne : g ≠ k) : w'.cell? ⟨g, o, none⟩ = w.cell? ⟨g, o, none⟩ := by
  have h := hg.block g hl (by simpa using hne)
  unfold World.cell?
  rw [h]
theorem Qjj (kss : List (List Nd)) : Qfh kss = kss.flatten.length := by
  induction kss with
  | nil => rfl
  | cons k ks ih => simp only [Qfh, List.map_cons, List.sum_cons, List.flatten_cons, List.length_append] at ih ⊢; omega
theorem Qrk {kss : List (List Nd)} {M : Nat} (h : ∀ ks ∈ kss, ks.length ≤ M) : kss.flatten.length ≤ kss.length * M := by
  induction kss with
  | nil => simp
  | cons k ks ih =>
    have h1 := h k (List.mem_cons_self ..)
    have h2 := ih (fun x hx => h x (List.mem_cons_of_mem _ hx))
    simp only [List.flatten_cons, List.length_append, List.length_cons, Nat.add_mul]
    omega
theorem Qhj (n : Nat) (hn : n ≤ 1048576) (ao : Option Addr) (cap : Nat) (metas : Nat) (hm0 : 1 ≤ metas) (hm1 : metas ≤ 16) (d : Nat) (hd5 : d ≤ 5)
    (IH : ∀ d', d' + 1 = d → ∀ (p : Nat) (w : World), Code w ao n → p + Qcs d' ≤ 1000 → Calls Tryz.prog 13 #[.slice ao n cap, .int .i64 (p : Int), .int .i64 (d' : Int), .int .i64 (metas : Int)] w fun e w' => Qyn w d' p e w')
    (p : Nat) (w : World) (hc : Code w ao n) (hp : p + Qcs d ≤ 1000) :
    Calls Tryz.prog 13 #[.slice ao n cap, .int .i64 (p : Int), .int .i64 (d : Int), .int .i64 (metas : Int)] w fun e w' => Qyn w d p e w' := by
  have hs3 := Qes d
  obtain ⟨i1, hj1, hy0, hy1, hy2⟩ := info_parts Tryz.infoV
  go_enter Tryz.func13, Tryz.ntmps13
  go_wp2_with fail
  refine (Qei n hn ao cap w hc p 12 (by omega) (by omega) (by omega)).mono ?_
  rintro e w1 ⟨⟨a, ha, rfl⟩, hb1⟩
  go_wp2_with fail
  refine (Qei n hn ao cap w1 (hc.below hb1) (p + 1) 16 (by omega) (by omega) (by omega)).mono ?_
  rintro e w2 ⟨⟨b, hb, rfl⟩, hb2⟩
  have hbb := Below.step hb1 hb2
  clear hb1 hb2
  by_cases hd0 : d = 0
  · subst hd0
    clear IH hc
    by_cases h3 : a % 3 = 0
    · have h3i : ((a : Int) % 3) = 0 := by omega
      obtain ⟨v, hv, hv0, hv1⟩ : ∃ v : Int, (b : Int) % (metas : Int) = v ∧ 0 ≤ v ∧ v < 16 := by
        obtain ⟨q0, q1⟩ := Qjp (x := (b : Int)) (k := metas) (by omega) hm0
        exact ⟨_, rfl, q0, by omega⟩
      have hmt : decide ((metas : Int) > 0) = true := decide_eq_true (by omega)
      go_wp2_with fail
      refine (Qhg 61 _ w2).mono ?_
      rintro e w3 ⟨rfl, hr, hb3⟩
      have hg := hbb.size
      have hb4 := Below.step hbb hb3
      clear hbb hb3
      go_wp2
      go_ret2
      exact ⟨w2.heap.size, 1, 1, p + 1 + 1, _, by simp, rfl, by omega, Qlq _, hg, hr.base hg, NumD.one (by simp; omega) (by simp; omega), by have := Qes (0); omega, hb4, Qoq _ rfl⟩
    · have h3i : ¬ ((a : Int) % 3) = 0 := by omega
      by_cases h4 : a = 4
      · subst h4
        go_wp2_with fail
        refine (Qhg 60 _ w2).mono ?_
        rintro e w3 ⟨rfl, hr, hb3⟩
        have hg := hbb.size
        have hb4 := Below.step hbb hb3
        clear hbb hb3
        go_wp2
        go_ret2
        exact ⟨w2.heap.size, 1, 1, p + 1 + 1, _, by simp, rfl, by omega, Qlq _, hg, hr.base hg, NumD.one (by simp; omega) (by simp; omega), by have := Qes (0); omega, hb4, Qoq _ rfl⟩
      · have h4i : ((a : Int) == 4) = false := by simp; omega
        rcases Nat.mod_two_eq_zero_or_one b with h2 | h2
        all_goals
          have h2i : ((b : Int) % 2) = ((b % 2 : Nat) : Int) := by omega
          rw [h2] at h2i
          go_wp2_with fail
          refine (Qxv _ _ _ _).mono ?_
          rintro e w3 ⟨g, c, rfl, hg, hr, hb3⟩
          have hg2 := hbb.size
          have hb4 := Below.step ((hbb.alloc hbb.size _).alloc (hbb.alloc hbb.size _).size _) hb3
          have hg3 : w.heap.size ≤ g := by simp at hg; omega
          have hg4 : w.heap.size ≤ w2.heap.size + 1 + 1 := by omega
          clear hbb hb3 hg hg2
          go_wp2
          go_ret2
          exact ⟨g, c, 1, p + 1 + 1, _, by simp, rfl, by omega, Qlq _, hg3, hr.base (by simp; omega), NumD.one (by simp) (by simp), by have := Qes (0); omega, hb4, Qoq _ rfl⟩
  · have hdi : decide ((d : Int) ≤ 0) = false := decide_eq_false (by omega)
    by_cases ha6 : a < 6
    · have ha6i : decide ((a : Int) < 6) = true := decide_eq_true (by omega)
      clear IH hc
      by_cases h3 : a % 3 = 0
      · have h3i : ((a : Int) % 3) = 0 := by omega
        obtain ⟨v, hv, hv0, hv1⟩ : ∃ v : Int, (b : Int) % (metas : Int) = v ∧ 0 ≤ v ∧ v < 16 := by
          obtain ⟨q0, q1⟩ := Qjp (x := (b : Int)) (k := metas) (by omega) hm0
          exact ⟨_, rfl, q0, by omega⟩
        have hmt : decide ((metas : Int) > 0) = true := decide_eq_true (by omega)
        go_wp2_with fail
        refine (Qhg 61 _ w2).mono ?_
        rintro e w3 ⟨rfl, hr, hb3⟩
        have hg := hbb.size
        have hb4 := Below.step hbb hb3
        clear hbb hb3
        go_wp2
        go_ret2
        exact ⟨w2.heap.size, 1, 1, p + 1 + 1, _, by simp, rfl, by omega, Qlq _, hg, hr.base hg, NumD.one (by simp; omega) (by simp; omega), by have := Qes (d); omega, hb4, Qoq _ rfl⟩
      · have h3i : ¬ ((a : Int) % 3) = 0 := by omega
        by_cases h4 : a = 4
        · subst h4
          go_wp2_with fail
          refine (Qhg 60 _ w2).mono ?_
          rintro e w3 ⟨rfl, hr, hb3⟩
          have hg := hbb.size
          have hb4 := Below.step hbb hb3
          clear hbb hb3
          go_wp2
          go_ret2
          exact ⟨w2.heap.size, 1, 1, p + 1 + 1, _, by simp, rfl, by omega, Qlq _, hg, hr.base hg, NumD.one (by simp; omega) (by simp; omega), by have := Qes (d); omega, hb4, Qoq _ rfl⟩
        · have h4i : ((a : Int) == 4) = false := by simp; omega
          rcases Nat.mod_two_eq_zero_or_one b with h2 | h2
          all_goals
            have h2i : ((b : Int) % 2) = ((b % 2 : Nat) : Int) := by omega
            rw [h2] at h2i
            go_wp2_with fail
            refine (Qxv _ _ _ _).mono ?_
            rintro e w3 ⟨g, c, rfl, hg, hr, hb3⟩
            have hg2 := hbb.size
            have hb4 := Below.step ((hbb.alloc hbb.size _).alloc (hbb.alloc hbb.size _).size _) hb3
            have hg3 : w.heap.size ≤ g := by simp at hg; omega
            have hg4 : w.heap.size ≤ w2.heap.size + 1 + 1 := by omega
            clear hbb hb3 hg hg2
            go_wp2
            go_ret2
            exact ⟨g, c, 1, p + 1 + 1, _, by simp, rfl, by omega, Qlq _, hg3, hr.base (by simp; omega), NumD.one (by simp) (by simp), by have := Qes (d); omega, hb4, Qoq _ rfl⟩
    · have ha6i : decide ((a : Int) < 6) = false := decide_eq_false (by omega)
      obtain ⟨d, rfl⟩ : ∃ d', d = d' + 1 := ⟨d - 1, by omega⟩
      have hIH := IH d rfl
      have hmx : maxT (d + 1) = 1 + 2 * maxT d := rfl
      have hst : Qcs (d + 1) = 3 + 2 * Qcs d := rfl
      go_wp2_with fail
      refine (Qei n hn ao cap w2 (hc.below hbb) (p + 1 + 1) 3 (by omega) (by omega) (by omega)).mono ?_
      rintro e w3 ⟨⟨k0, hk0, rfl⟩, hb3⟩
      have hb4 := Below.step hbb hb3
      clear hbb hb3
      go_upto_if 72 with fail
      go_cut [12] from 18 (fun v wx => ∃ (kd : Int) (tx : ByteArray) (k : Nat), v = .int .i64 (k : Int) ∧ k ≤ 2 ∧ NodeAt wx w3.heap.size 0 ⟨kd, 0, tx, 0, 0⟩ ∧ Below w.heap.size w wx)
      case first =>
        have hcs : (a < 9 ∨ a = 9 ∧ k0 = 1) ∨ a = 9 ∧ k0 ≠ 1 ∨ 10 ≤ a ∧ b % 2 = 0 ∨ 10 ≤ a ∧ b % 2 = 1 := by omega
        clear hIH IH hc
        have hbA := hb4.alloc hb4.size (.cells #[.int .i64 13, .int .i64 0, .string ⟨#[]⟩, .int .i64 0, .int .i64 0] 43)
        rcases hcs with (h9 | ⟨h9, h1⟩) | ⟨h9, h1⟩ | ⟨h9, h1⟩ | ⟨h9, h1⟩
        · have h9i : decide ((a : Int) < 9) = true := decide_eq_true (by omega)
          go_wp2
          go_meet
          case rel =>
            exact ⟨13, ⟨#[]⟩, 2, rfl, by omega, Qha w3 13 ⟨#[]⟩, hb4.alloc hb4.size _⟩
        · subst h9 h1
          go_wp2
          go_meet
          case rel =>
            exact ⟨14, ⟨#[]⟩, 2, rfl, by omega, Qha w3 14 ⟨#[]⟩, hb4.alloc hb4.size _⟩
        · subst h9
          have h1i : ((k0 : Int) == 1) = false := by simp; omega
          go_wp2
          go_meet
          case rel =>
            exact ⟨14, ⟨#[]⟩, k0, rfl, by omega, Qha w3 14 ⟨#[]⟩, hb4.alloc hb4.size _⟩
        · have h9i : decide ((a : Int) < 9) = false := decide_eq_false (by omega)
          have h10i : ((a : Int) == 9) = false := by simp; omega
          have h2i : ((b : Int) % 2) = 0 := by omega
          go_wp2
          go_meet
          case rel =>
            exact ⟨12, ⟨#[108, 105, 115, 116]⟩, k0, rfl, by omega, (Qha w3 12 ⟨#[108, 105, 115, 116]⟩).below9 ((Below.refl _ _).alloc (Nat.le_refl _) _), (hb4.alloc hb4.size _).alloc (hb4.alloc hb4.size _).size _⟩
        · have h9i : decide ((a : Int) < 9) = false := decide_eq_false (by omega)
          have h10i : ((a : Int) == 9) = false := by simp; omega
          have h2i : ((b : Int) % 2) = 1 := by omega
          go_wp2
          go_meet
          case rel =>
            exact ⟨12, ⟨#[116]⟩, k0, rfl, by omega, (Qha w3 12 ⟨#[116]⟩).below9 ((Below.refl _ _).alloc (Nat.le_refl _) _), (hb4.alloc hb4.size _).alloc (hb4.alloc hb4.size _).size _⟩
      case rest =>
        obtain ⟨kd, tx, k, rfl, hk2, hroot9, hb49⟩ := hcut
        have hw39 : w3.heap.size < wc.heap.size := Qaa hroot9.1
        have hbc : Below wc.heap.size wc (wc.alloc (.cells #[] 23)) := (Below.refl _ _).alloc (Nat.le_refl _) _
        have hroot0 := hroot9.below9 hbc
        have hb5 : Below w.heap.size w (wc.alloc (.cells #[] 23)) := hb49.alloc hb49.size _
        have hK0 := Kds.empty (w := wc) (B := w.heap.size) hb49.size
        clear hroot9 hb49 hbc hb4
        go_wp2
        go_loopw [1, 14, 15] (fun pv kv iv wr => ∃ (i q g c : Nat) (kss : List (List Nd)) (vs : List Value), i ≤ k ∧ iv = .int .i64 (i : Int) ∧ pv = .int .i64 (q : Int) ∧ kv = .slice (some ⟨g, 0, none⟩) i c ∧ Kds wr w.heap.size g c i kss vs ∧ Hid (∀ ks ∈ kss, NumD ks ∧ ks.length ≤ maxT d ∧ One ks) ∧ q ≤ p + 3 + i * Qcs d ∧ Below w.heap.size w wr ∧ NodeAt wr w3.heap.size 0 ⟨kd, 0, tx, 0, 0⟩ ∧ w3.heap.size ≠ g) (fun _ _ iv _ => k - (intOf iv).toNat)
        case atStart => exact ⟨0, p + 1 + 1 + 1, wc.heap.size, 0, [], [], Nat.zero_le _, rfl, by simp, rfl, hK0, fun ks hk => by simp at hk, by omega, hb5, hroot0, by omega⟩
        case round =>
          clear hroot0 hb5 hK0
          obtain ⟨i, q, g, c, kss, vs, hi, rfl, rfl, rfl, hK, HK, hq, hb6, hroot, hne⟩ := hrel
          have hw3 : w3.heap.size < wr.heap.size := Qaa hroot.1
          by_cases hlt : i < k
          · have hq9 : q + Qcs d ≤ 1000 := by
              have h8 : i * Qcs d ≤ 1 * Qcs d := Nat.mul_le_mul_right _ (by omega)
              omega
            have HD := hIH q wr (hc.below hb6) hq9
            clear hIH IH
            go_wp2_with fail
            refine HD.mono ?_
            rintro e w7 ⟨gn, cn, ln, pn, ks, rfl, hln, _, hlm, hgn, hon, hnn, hpn, hb7, hon9⟩
            have hrn := hon.row.2
            clear hon
            have hK7 := hK.below hb7
            have hbw7 := Below.step hb6 hb7
            have hs7 := hb7.size
            have hKb := hK7.block
            have hroot7 : NodeAt w7 w3.heap.size 0 ⟨kd, 0, tx, 0, 0⟩ := by
              obtain ⟨c0, c1, c2, c3, c4⟩ := hroot
              exact ⟨(Qfd hb7 _ _ hw3).trans c0, (Qfd hb7 _ _ hw3).trans c1, (Qfd hb7 _ _ hw3).trans c2, (Qfd hb7 _ _ hw3).trans c3, (Qfd hb7 _ _ hw3).trans c4⟩
            have HLN : Hid (ks.length = ln) := hln
            have hone := Qog 23 w7 (.slice (some ⟨gn, 0, none⟩) ln cn)
            have hK8 := hK7.below ((Below.refl _ w7).alloc (Nat.le_refl _) (.cells #[.slice (some ⟨gn, 0, none⟩) ln cn] 23))
            have hr8 := hrn.below ((Below.refl _ w7).alloc (Nat.le_refl _) (.cells #[.slice (some ⟨gn, 0, none⟩) ln cn] 23))
            clear HD hK hb6 hb7 hln hroot
            go_wp2_with (at_builtin; refine Qac _ rfl (.tmp 100) (.tmp 102) 72 rfl w.heap.size 23 i1 _ 1 24 Tryz.underlying72 hj1 hy0 hy1 hy2 rfl (by decide) g i c _ rfl hK8.own ⟨_, 0, none⟩ 1 1 [.slice (some ⟨gn, 0, none⟩) ln cn] rfl rfl hone (Qnx _ _ _) ?b3 ?b4 ?b5 ?_)
            case b3 => unfold maxLen; omega
            case b4 => omega
            case b5 => have := hbw7.size; simp; omega
            intro g2 c2 w8 hown8 hgrow8 hwh8
            have hK9 := hK8.push (cn := cn) hgrow8 hr8 (by rw [HLN.out]; exact hown8)
            have hb8 : Below w.heap.size w w8 := (hbw7.alloc hbw7.size _).grown hgrow8 (hbw7.alloc hbw7.size _).size (fun j hj => by cases hj; exact hKb.1)
            have hne8 : w3.heap.size ≠ g := hne
            have hroot8 : NodeAt w8 w3.heap.size 0 ⟨kd, 0, tx, 0, 0⟩ := by
              have hA8 : ∀ o, w8.cell? ⟨w3.heap.size, o, none⟩ = w7.cell? ⟨w3.heap.size, o, none⟩ := fun o => by
                rw [Quh hgrow8 (by simp; omega) hne8]
                exact Qfd ((Below.refl _ w7).alloc (Nat.le_refl _) _) _ _ (by omega)
              obtain ⟨c0, c1, c2, c3, c4⟩ := hroot7
              exact ⟨(hA8 _).trans c0, (hA8 _).trans c1, (hA8 _).trans c2, (hA8 _).trans c3, (hA8 _).trans c4⟩
            have HK9 : Hid (∀ k ∈ kss ++ [ks], NumD k ∧ k.length ≤ maxT d ∧ One k) := by
              intro k hk
              rcases List.mem_append.1 hk with hk | hk
              · exact HK.out k hk
              · simp at hk
                subst hk
                exact ⟨hnn, by rw [HLN.out]; exact hlm, hon9⟩
            have hne9 : w3.heap.size ≠ g2 := by
              rcases hwh8 with h9 | h9
              · omega
              · omega
            have hq8 : pn ≤ p + 3 + (i + 1) * Qcs d := by rw [Nat.add_mul]; omega
            clear hown8 hgrow8 hwh8 hK8 hr8 hone hrn hK7 hbw7 hroot7 hnn hon9
            go_wp2
            go_roundw
            case rel => exact ⟨i + 1, pn, g2, c2, _, _, by omega, by go_num, rfl, rfl, hK9, HK9, hq8, hb8, hroot8, hne9⟩
            case measure => simp [intOf]; omega
          · have hik : i = k := by omega
            subst hik
            have hkl := hK.len
            have hfl := Qrk (M := maxT d) (fun ks hk => (HK.out ks hk).2.1)
            have hmd : maxT d ≤ 31 := by
              have hd4 : d = 0 ∨ d = 1 ∨ d = 2 ∨ d = 3 ∨ d = 4 := by omega
              rcases hd4 with rfl | rfl | rfl | rfl | rfl <;> simp [maxT]
            have hfl2 : kss.flatten.length ≤ 2 * maxT d := by
              have h8 : kss.length * maxT d ≤ 2 * maxT d := Nat.mul_le_mul_right _ (by omega)
              omega
            have HJ := Qcz ⟨kd, 0, tx, 0, 0⟩ kss i hkl (some ⟨g, 0, none⟩) c wr hK.lists (by rw [Qjj]; omega) (by omega)
            simp only at HJ
            have HNK : Hid (NumD (kss.flatten ++ [⟨kd, 0, tx, (i : Int), 0⟩])) := (NumD.flatten (fun ks hk => (HK.out ks hk).1)).append (NumD.one (by simp) (by simp))
            have HON : Hid (One (kss.flatten ++ [⟨kd, 0, tx, (i : Int), 0⟩])) := One.join (fun ks hk => (HK.out ks hk).2.2) (by simp [hkl])
            obtain ⟨c0, c1, c2, c3, c4⟩ := hroot
            simp only [Nat.zero_add] at c0 c1 c2 c3 c4
            have hs6 := hb6.size
            clear hK HK hIH IH hc
            go_wp2_with fail
            refine HJ.mono ?_
            rintro e w9 ⟨v, rfl, hH, hb9⟩
            obtain ⟨g9, c9, rfl, hg9, _⟩ := hH.row (by simp)
            have hO8 : OwnN w9 wr.heap.size g9 c9 (kss.flatten ++ [(⟨kd, 0, tx, (i : Int), 0⟩ : Nd)]).length (kss.flatten ++ [(⟨kd, 0, tx, (i : Int), 0⟩ : Nd)]) := ⟨rfl, hH⟩
            have hO9 := hO8.base hs6
            have hbf := Below.step hb6 hb9
            clear HJ hH hb6 hb9 c0 c1 c2 c3 c4
            go_wp2
            go_ret2
            refine ⟨g9, c9, _, q, _, rfl, by simp, by simp, ?_, by omega, by simpa using hO9, HNK.out, ?_, hbf, HON.out⟩
            · have hsum : (kss.map List.length).sum = kss.flatten.length := List.length_flatten.symm
              rw [hsum]
              omega
            · have h8 : i * Qcs d ≤ 2 * Qcs d := Nat.mul_le_mul_right _ (by omega)
              omega
theorem Qhk (n : Nat) (hn : n ≤ 1048576) (ao : Option Addr) (cap : Nat) (metas : Nat) (hm0 : 1 ≤ metas) (hm1 : metas ≤ 16) (d : Nat) (hd5 : d ≤ 5) (p : Nat) (w : World) (hc : Code w ao n) (hp : p + Qcs d ≤ 1000) :
    Calls Tryz.prog 13 #[.slice ao n cap, .int .i64 (p : Int), .int .i64 (d : Int), .int .i64 (metas : Int)] w fun e w' => Qyn w d p e w' := by
  induction d generalizing p w with
  | zero => exact Qhj n hn ao cap metas hm0 hm1 0 (by omega) (fun d' h => by omega) p w hc hp
  | succ d ih =>
    refine Qhj n hn ao cap metas hm0 hm1 (d + 1) hd5 (fun d' h p' w' hc' hp' => ?_) p w hc hp
    obtain rfl : d' = d := by omega
    exact ih (by omega) p' w' hc' hp'
def Jdp (w : World) (L p : Nat) (e : Ending) (w' : World) : Prop := ∃ (g c l p' : Nat) (zs : List Nd), e = .returned (.tuple #[.slice (some ⟨g, 0, none⟩) l c, .int .i64 (p' : Int)]) ∧ zs.length = l ∧ 0 < l ∧ l ≤ L ∧ w.heap.size ≤ g ∧ OwnN w' w.heap.size g c l zs ∧ NumD zs ∧ p' ≤ p + 2 * L ∧ Below w.heap.size w w' ∧ One zs
theorem Qyt (n : Nat) (hn : n ≤ 1048576) (ao : Option Addr) (cap : Nat) (metas : Nat) (hm0 : 1 ≤ metas) (hm1 : metas ≤ 16) (t : List Nd) (S ys : List Sp) (m : Nat) (HL : Hid (t.length = m)) (hm : m ≤ 100) (HR : Hid (Qag t m = some (S, ys))) (HN : Hid (NumD t)) :
    ∀ (i : Nat) (si : Sp) (p gb cb gz cz Bz : Nat) (w : World), i < m → Hid (ys[i]? = some si) → Code w ao n → Row w gb t → Ints w Bz gz cz m (ys.map szOf) → p + 2 * (span t si.fr i).length ≤ 1000 →
      Calls Tryz.prog 14 #[.slice ao n cap, .int .i64 (p : Int), .slice (some ⟨gb, 0, none⟩) m cb, .slice (some ⟨gz, 0, none⟩) m cz, .int .i64 (i : Int), .int .i64 (metas : Int)] w fun e w' => Jdp w (span t si.fr i).length p e w' := by
  intro i
  induction i using Nat.strongRecOn with
  | ind i ih =>
    intro si p gb cb gz cz Bz w hi HSI hc hG hgz hp
    have hit : i < t.length := by have := HL.out; omega
    obtain ⟨K, hK, hsp, hO⟩ := Qej HR.out hi HSI.out hit
    obtain ⟨L, hL⟩ : ∃ L, (span t si.fr i).length = L := ⟨_, rfl⟩
    have hLk : L = (Qae t K).flatten.length + 1 := by rw [← hL, hsp]; simp
    rw [hL] at hp ⊢
    have HIH := ih
    have HK : Hid (KidsAt t ys i K) := hK
    have HYL : Hid (ys.length = m) := (Qaf HR.out).len
    obtain ⟨x, hx⟩ : ∃ x, t[i] = x := ⟨_, rfl⟩
    have hxi := hG.node i hit
    rw [hx] at hxi
    have HX : Hid (t[i] = x) := hx
    have hnx := HN.out x (by rw [← hx]; exact List.getElem_mem hit)
    have HKN : Hid (x.kids = (K.length : Int)) := by
      obtain ⟨_, h9⟩ := hK.num
      rw [hx] at h9
      exact h9
    obtain ⟨nk, hnk⟩ : ∃ nk, K.length = nk := ⟨_, rfl⟩
    have HNK : Hid (K.length = nk) := hnk
    have hnk1 : nk ≤ 100 := by have := hK.len; omega
    have HFL : Hid (L = (Qae t K).flatten.length + 1) := hLk
    have hL1 : 1 ≤ L := by omega
    clear ih hK hsp hO hnk hx hLk hL HSI
    obtain ⟨i1, hj1, hy0, hy1, hy2⟩ := info_parts Tryz.infoV
    go_enter Tryz.func14, Tryz.ntmps14
    go_wp2_with fail
    refine (Qei n hn ao cap w hc p 8 (by omega) (by omega) (by omega)).mono ?_
    rintro e w1 ⟨⟨a, ha, rfl⟩, hb1⟩
    go_wp2_with fail
    refine (Qei n hn ao cap w1 (hc.below hb1) (p + 1) 16 (by omega) (by omega) (by omega)).mono ?_
    rintro e w2 ⟨⟨b, hb, rfl⟩, hb2⟩
    have hbb := Below.step hb1 hb2
    clear hb1 hb2
    by_cases ha2 : a < 2
    · have ha2i : decide ((a : Int) < 2) = true := decide_eq_true (by omega)
      obtain ⟨v, hv, hv0, hv1⟩ : ∃ v : Int, (b : Int) % (metas : Int) = v ∧ 0 ≤ v ∧ v < 16 := by
        obtain ⟨q0, q1⟩ := Qjp (x := (b : Int)) (k := metas) (by omega) hm0
        exact ⟨_, rfl, q0, by omega⟩
      have hmz : ((metas : Int) == 0) = false := by simp; omega
      clear HIH hc hG hgz hxi
      go_wp2_with fail
      refine (Qhg 61 _ w2).mono ?_
      rintro e w3 ⟨rfl, hr, hb3⟩
      have hg := hbb.size
      have hb4 := Below.step hbb hb3
      clear hbb hb3
      go_wp2
      go_ret2
      exact ⟨w2.heap.size, 1, 1, p + 1 + 1, _, by simp, rfl, by omega, hL1, hg, hr.base hg, NumD.one (by simp; omega) (by simp; omega), by omega, hb4, Qoq _ rfl⟩
    · have ha2i : decide ((a : Int) < 2) = false := decide_eq_false (by omega)
      have hG2 := hG.below hbb
      have hgz2 := hgz.below hbb
      have hc2 := hc.below hbb
      go_wp2_with fail
      refine (Qfn t ys K m i nk HL (by omega) HK HNK hi HYL _ cb gz cz Bz w2 hG2.nodes hgz2).mono ?_
      rintro e w3 ⟨Ga, rfl, hia, hb3⟩
      have hb4 := Below.step hbb hb3
      have hK0 := Kds.empty (w := w3) (B := w.heap.size) hb4.size
      have hbc : Below w3.heap.size w3 (w3.alloc (.cells #[] 23)) := (Below.refl _ _).alloc (Nat.le_refl _) _
      have hia0 := hia.below hbc
      have hb5 := Below.step hb4 hbc
      have hgal := hia.block
      have hz2 := hbb.size
      clear hbb hb3 hG2 hgz2 hc2 hia hbc
      go_wp2
      go_loopw [1, 17, 18] (fun pv kv iv wr => ∃ (k q g c : Nat) (kss : List (List Nd)) (vs : List Value), k ≤ nk ∧ iv = .int .i64 (k : Int) ∧ pv = .int .i64 (q : Int) ∧ kv = .slice (some ⟨g, 0, none⟩) k c ∧ Kds wr w.heap.size g c k kss vs ∧ Hid (∀ ks ∈ kss, NumD ks ∧ One ks) ∧ Hid (kss.flatten.length ≤ ((Qae t K).take k).flatten.length) ∧ Hid (q ≤ p + 2 + 2 * ((Qae t K).take k).flatten.length) ∧ Below w.heap.size w wr ∧ Ints wr w2.heap.size Ga nk nk (rts K) ∧ Ga ≠ g) (fun _ _ iv _ => nk - (intOf iv).toNat)
      case atStart => exact ⟨0, p + 1 + 1, w3.heap.size, 0, [], [], Nat.zero_le _, rfl, by simp, rfl, hK0, fun ks hk => by simp at hk, by simp [Hid], by simp [Hid], hb5, hia0, by omega⟩
      case round =>
        clear hK0 hb5 hia0
        obtain ⟨k, q, g, c, kss, vs, hk, rfl, rfl, rfl, hKd, HKS, HFK, HQ, hbr, hir, hne⟩ := hrel
        have hgar := hir.block
        by_cases hlt : k < nk
        · have hkK : k < K.length := by have := HNK.out; omega
          have hmem := HK.out.mem k hkK
          have ca := hir.at k (by rw [hir.1]; exact hlt)
          have ea : (rts K)[k]'(by rw [hir.1]; exact hlt) = ((K[k]).rt : Int) := by simp [rts]
          rw [ea] at ca
          obtain ⟨s, hs⟩ : ∃ s, K[k] = s := ⟨_, rfl⟩
          rw [hs] at ca hmem
          have htf : ((Qae t K).take (k + 1)).flatten.length = ((Qae t K).take k).flatten.length + (span t s.fr s.rt).length := by
            rw [Qjk _ k (by simpa [Qae] using hkK), Qic t K k hkK, hs, List.length_append]
          have hall : ((Qae t K).take (k + 1)).flatten.length ≤ (Qae t K).flatten.length := by
            have e9 : (Qae t K).flatten = ((Qae t K).take (k + 1)).flatten ++ ((Qae t K).drop (k + 1)).flatten := by rw [← List.flatten_append, List.take_append_drop]
            rw [e9, List.length_append]
            omega
          have hfl := HFL.out
          have hq9 := HQ.out
          obtain ⟨F, hF⟩ : ∃ F, ((Qae t K).take k).flatten.length = F := ⟨_, rfl⟩
          obtain ⟨F1, hF1⟩ : ∃ F1, ((Qae t K).take (k + 1)).flatten.length = F1 := ⟨_, rfl⟩
          obtain ⟨L1, hL1'⟩ : ∃ L1, (span t s.fr s.rt).length = L1 := ⟨_, rfl⟩
          have HF : Hid (((Qae t K).take k).flatten.length = F) := hF
          have HF1 : Hid (((Qae t K).take (k + 1)).flatten.length = F1) := hF1
          rw [hF] at hq9 htf
          rw [hF1, hL1'] at htf
          rw [hF1] at hall
          have HD := HIH s.rt hmem.2.2 s q gb cb gz cz Bz wr (by omega) hmem.1 (hc.below hbr) (hG.below hbr) (hgz.below hbr) (by rw [hL1']; omega)
          rw [hL1'] at HD
          have hsrt := hmem.2.2
          clear HIH hmem hs hF hF1 hL1' ea
          go_wp2_with fail
          refine HD.mono ?_
          rintro e w7 ⟨gn, cn, ln, pn, ks, rfl, hln, _, hlm, hgn, hon, hnn, hpn, hb7, hon9⟩
          have hrn := hon.row.2
          clear hon
          have hK7 := hKd.below hb7
          have hbw7 := Below.step hbr hb7
          have hs7 := hb7.size
          have hKb := hK7.block
          have hir7 := hir.below hb7
          have HLN : Hid (ks.length = ln) := hln
          have hone := Qog 23 w7 (.slice (some ⟨gn, 0, none⟩) ln cn)
          have hB8 : Below w7.heap.size w7 (w7.alloc (.cells #[.slice (some ⟨gn, 0, none⟩) ln cn] 23)) := (Below.refl _ w7).alloc (Nat.le_refl _) _
          have hK8 := hK7.below hB8
          have hr8 := hrn.below hB8
          have hir8 := hir7.below hB8
          clear HD hKd hbr hb7 hln hir hir7 hB8
          go_wp2_with (at_builtin; refine Qac _ rfl (.tmp 66) (.tmp 68) 72 rfl w.heap.size 23 i1 _ 1 24 Tryz.underlying72 hj1 hy0 hy1 hy2 rfl (by decide) g k c _ rfl hK8.own ⟨_, 0, none⟩ 1 1 [.slice (some ⟨gn, 0, none⟩) ln cn] rfl rfl hone (Qnx _ _ _) ?b3 ?b4 ?b5 ?_)
          case b3 => unfold maxLen; omega
          case b4 => omega
          case b5 => have := hbw7.size; simp; omega
          intro g2 c2 w8 hown8 hgrow8 hwh8
          have hK9 := hK8.push (cn := cn) hgrow8 hr8 (by rw [HLN.out]; exact hown8)
          have hb8 : Below w.heap.size w w8 := (hbw7.alloc hbw7.size _).grown hgrow8 (hbw7.alloc hbw7.size _).size (fun j hj => by cases hj; exact hKb.1)
          have hir9 := hir8.kept hgrow8 hne
          have HK9 : Hid (∀ k ∈ kss ++ [ks], NumD k ∧ One k) := by
            intro k hk
            rcases List.mem_append.1 hk with hk | hk
            · exact HKS.out k hk
            · simp at hk
              subst hk
              exact ⟨hnn, hon9⟩
          have HFK9 : Hid ((kss ++ [ks]).flatten.length ≤ ((Qae t K).take (k + 1)).flatten.length) := by
            have h1 := HFK.out
            rw [HF.out] at h1
            have h2 := HLN.out
            rw [Hid, HF1.out, Qch, List.length_append]
            omega
          have HQ9 : Hid (pn ≤ p + 2 + 2 * ((Qae t K).take (k + 1)).flatten.length) := by
            rw [Hid, HF1.out]
            omega
          have hne9 : Ga ≠ g2 := by
            rcases hwh8 with h9 | h9
            · omega
            · omega
          clear hown8 hgrow8 hwh8 hK8 hr8 hone hrn hK7 hbw7 hnn hon9 hir8 HFK HQ HF HF1 HKS
          go_wp2
          go_roundw
          case rel => exact ⟨k + 1, pn, g2, c2, _, _, by omega, by go_num, rfl, rfl, hK9, HK9, HFK9, HQ9, hb8, hir9, hne9⟩
          case measure => simp [intOf]; omega
        · have hik : k = nk := by omega
          subst hik
          have hkl := hKd.len
          have hfl := HFK.out
          rw [List.take_of_length_le (by simp [Qae, HNK.out])] at hfl
          have hq9 := HQ.out
          rw [List.take_of_length_le (by simp [Qae, HNK.out])] at hq9
          have hFL := HFL.out
          have hL100 : L ≤ 500 := by omega
          obtain ⟨kd, nm, tx, kk, pl⟩ := x
          have HJ := Qcz ⟨kd, nm, tx, kk, pl⟩ kss k hkl (some ⟨g, 0, none⟩) c wr hKd.lists (by rw [Qjj]; omega) (by omega)
          have HNKd : Hid (NumD (kss.flatten ++ [⟨kd, nm, tx, (k : Int), pl⟩])) := (NumD.flatten (fun ks hk => (HKS.out ks hk).1)).append (NumD.one hnx.1 hnx.2)
          have HON : Hid (One (kss.flatten ++ [⟨kd, nm, tx, (k : Int), pl⟩])) := One.join (fun ks hk => (HKS.out ks hk).2) (by simp [hkl])
          obtain ⟨c0, c1, c2, c3, c4⟩ := (hG.below hbr).node i hit
          have hgl : gb < wr.heap.size := Qaa c0
          have hs6 := hbr.size
          have hxe : t[i] = ⟨kd, nm, tx, kk, pl⟩ := HX.out
          rw [hxe] at c0 c1 c2 c3 c4
          simp only at c0 c1 c2 c3 c4
          clear hKd HKS HIH hc hG hgz hxe HFK HQ hir
          go_wp2_with fail
          refine HJ.mono ?_
          rintro e w9 ⟨v, rfl, hH, hb9⟩
          obtain ⟨g9, c9, rfl, hg9, _⟩ := hH.row (by simp)
          have hO8 : OwnN w9 wr.heap.size g9 c9 (kss.flatten ++ [(⟨kd, nm, tx, (k : Int), pl⟩ : Nd)]).length (kss.flatten ++ [(⟨kd, nm, tx, (k : Int), pl⟩ : Nd)]) := ⟨rfl, hH⟩
          have hO9 := hO8.base hs6
          have hbf := Below.step hbr hb9
          clear HJ hH hbr hb9 c0 c1 c2 c3 c4
          go_wp2
          go_ret2
          refine ⟨g9, c9, _, q, _, rfl, by simp, by simp, ?_, by omega, by simpa using hO9, HNKd.out, by omega, hbf, HON.out⟩
          have hsum : (kss.map List.length).sum = kss.flatten.length := List.length_flatten.symm
          rw [hsum]
          omega
def SideOk2 (t : List Nd) : Prop := t.length ≤ 101 ∧ ∀ z ∈ t, 0 ≤ z.num ∧ z.num ≤ 100000
end Go.Proofs.YtoiiibplkhedcaaGreatDoor

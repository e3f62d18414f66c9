import Derived.Test.YtahdmflbdmlfhaaGreatDoorWAE
import Derived.Test.YtahdmflbdmlfhaaGreatDoorWAD
namespace Go.Proofs.YtahdmflbdmlfhaaGreatDoor

open Go.RowKit

theorem deepOf_some {t : List Nd} {S ys : List Sp} {m : Nat} (hm : t.length = m) (h6 : m ≤ 6000) (h0 : 0 < m) (h : after t m = some (S, ys)) :
    ∃ s, ys[m - 1]? = some s ∧ deepOf t = (if s.fr = 0 ∧ s.dp ≤ 300 then s.dp else 0) ∧ s.rt = m - 1 ∧ s.fr ≤ m - 1 ∧ 1 ≤ s.dp ∧ s.dp ≤ m := by
  have hf := after_fine h
  have hl : m - 1 < ys.length := by have := hf.len; omega
  have hr := hf.root (m - 1) hl
  refine ⟨ys[m - 1], List.getElem?_eq_getElem hl, ?_, hr.1, hr.2.1, hr.2.2.1, by omega⟩
  unfold deepOf
  rw [if_neg (by omega), hm, h]
  have hg : ys.getLast? = some ys[m - 1] := by
    have := hf.len
    rw [List.getLast?_eq_getElem?]
    have e : ys.length - 1 = m - 1 := by omega
    rw [e, List.getElem?_eq_getElem hl]
  simp only [hg]

theorem deepOf_none {t : List Nd} (h : after t t.length = none) : deepOf t = 0 := by
  unfold deepOf
  split
  · rfl
  · rw [h]

theorem deepOf_great {t : List Nd} (h : 6000 < t.length) : deepOf t = 0 := by
  unfold deepOf
  rw [if_pos h]

theorem deepOf_nil {t : List Nd} (h : t.length = 0) : deepOf t = 0 := by
  have : t = [] := List.eq_nil_of_length_eq_zero h
  subst this
  rfl

set_option maxRecDepth 100000 in
set_option maxHeartbeats 1000000 in
theorem specGood_any (t : List Nd) (m : Nat) (HM : Hid (t.length = m)) (hm : m ≤ 1048576) (ao : Option Addr) (cap : Nat) (w : World) (hx : Nodes w ao t) :
    Calls Tryz.prog 31 #[.slice ao m cap] w fun e w' => e = .returned (.bool (decide (0 < deepOf t))) ∧ Below w.heap.size w w' := by
  by_cases h0 : m = 0
  · subst h0
    have HD : Hid (deepOf t = 0) := deepOf_nil HM.out
    clear hx
    go_enter Tryz.func31, Tryz.ntmps31
    go_wp2
    go_ret
    exact ⟨by rw [HD.out]; rfl, Below.refl _ _⟩
  by_cases h6 : m ≤ 6000
  · have h0' : ((m : Int) == 0) = false := by simp; omega
    go_enter Tryz.func31, Tryz.ntmps31
    go_wp2_with fail
    refine (sizes_any t m HM h6 ao cap w hx).mono ?_
    rintro e w1 ⟨gz, cz, n, rfl, hz, hb⟩
    have hx1 := hx.below hb
    clear hx
    cases hA : after t m with
    | none =>
      have HD : Hid (deepOf t = 0) := deepOf_none (by rw [HM.out]; exact hA)
      have hn0 : n = 0 := by
        have h9 := hz.1
        unfold sizesOf at h9
        rw [HM.out, hA] at h9
        simpa using h9.symm
      subst hn0
      clear hz hA hx1
      go_wp2
      go_ret
      exact ⟨by rw [HD.out]; rfl, hb⟩
    | some p =>
      obtain ⟨S, ys⟩ := p
      have HA : Hid (after t m = some (S, ys)) := hA
      have hsz : sizesOf t = ys.map szOf := by unfold sizesOf; rw [HM.out, hA]
      rw [hsz] at hz
      have hyl := (after_fine hA).len
      have hnm : n = m := by have h9 := hz.1; simp at h9; omega
      subst hnm
      obtain ⟨s, hs, hd1, hd2, hd3, hd4, hd5⟩ := deepOf_some HM.out h6 (by omega) hA
      have HD : Hid (deepOf t = if s.fr = 0 ∧ s.dp ≤ 300 then s.dp else 0) := hd1
      have cz1 : w1.cell? ⟨gz, n - 1, none⟩ = some (.int .i64 ((n : Int) - (s.fr : Int))) := by
        rw [hz.at (n - 1) (by simp; omega)]
        obtain ⟨h8, h9⟩ := List.getElem?_eq_some_iff.1 hs
        simp [szOf, h9]
        omega
      have HYS : Hid (ys[n - 1]? = some s) := hs
      have HYL : Hid (ys.length = n) := hyl
      have hbz := hz.block
      clear hA hsz hd1 hs hyl
      by_cases hfr : s.fr = 0
      · rw [hfr] at cz1
        have cz2 : w1.cell? ⟨gz, n - 1, none⟩ = some (.int .i64 (n : Int)) := by simpa using cz1
        clear cz1
        go_wp2_with fail
        refine (depths_any t S ys n HM h6 HA ao cap gz cz w.heap.size w1 hx1 hz).mono ?_
        rintro e w2 ⟨g, c, rfl, hd, hb2⟩
        have cd : w2.cell? ⟨g, n - 1, none⟩ = some (.int .i64 (s.dp : Int)) := by
          rw [hd.at (n - 1) (by have := HYL.out; simp [dps]; omega)]
          obtain ⟨h8, h9⟩ := List.getElem?_eq_some_iff.1 HYS.out
          simp [dps, h9]
        have hbb := Below.step hb hb2
        have HV : Hid (deepOf t = if s.dp ≤ 300 then s.dp else 0) := by rw [HD.out, hfr]; simp [Hid]
        clear hz hx1 hd hb hb2 cz2
        by_cases h3 : s.dp ≤ 300
        · go_wp2
          go_ret
          exact ⟨by rw [HV.out, if_pos h3]; congr 2; simp; omega, hbb⟩
        · go_wp2
          go_ret
          exact ⟨by rw [HV.out, if_neg h3]; congr 2; simp; omega, hbb⟩
      · have HV : Hid (deepOf t = 0) := by rw [HD.out, if_neg (by omega)]; rfl
        have hne : (((n : Int) - (s.fr : Int)) != (n : Int)) = true := by simp; omega
        clear hz hx1
        go_wp2
        go_ret
        exact ⟨by rw [HV.out]; rfl, hb⟩
  · have HD : Hid (deepOf t = 0) := deepOf_great (by have := HM.out; omega)
    have h0' : ((m : Int) == 0) = false := by simp; omega
    clear hx
    go_enter Tryz.func31, Tryz.ntmps31
    go_wp2
    go_ret
    exact ⟨by rw [HD.out]; rfl, Below.refl _ _⟩

theorem nd_new_cells (w : World) (n : Nd) : ∀ j u, n.row[j]? = some u →
    (w.alloc (.cells #[.int .i64 n.kind, .int .i64 n.num, .string n.text, .int .i64 n.kids, .int .i64 n.place] 40)).cell? (Addr.add ⟨w.heap.size, 0, none⟩ j) = some u := by
  intro j u hj
  have ad : Addr.add ⟨w.heap.size, 0, none⟩ j = ⟨w.heap.size, j, none⟩ := by
    unfold Addr.add
    split
    · simp_all
    · simp
  rw [ad, cell_of_row _ w.heap.size j _ 40 (0, 0) (heap_alloc_new _ _), ← hj]
  simp [Nd.row]

theorem nd_row_one (n : Nd) : ∀ u ∈ n.row, u.oneCell' = true := by
  intro u hu
  simp [Nd.row] at hu
  rcases hu with rfl | rfl | rfl | rfl | rfl <;> rfl

theorem nd_flat_one (ks : List Nd) : ∀ u ∈ flat ks, u.oneCell' = true := by
  intro u hu
  unfold flat at hu
  obtain ⟨n, _, hn⟩ := List.mem_flatMap.1 hu
  exact nd_row_one n u hn

/-- A slice of nodes of the call's own. -/
def OwnN (w : World) (B g c l : Nat) (zs : List Nd) : Prop := zs.length = l ∧ w.ownsRow B 40 5 (.slice (some ⟨g, 0, none⟩) l c) l (flat zs)

theorem OwnN.row {w : World} {B g c l : Nat} {zs : List Nd} (h : OwnN w B g c l zs) : B ≤ g ∧ Row w g zs := by
  obtain ⟨hl, ho⟩ := h
  rcases ho.2 with ⟨h', _⟩ | ⟨g2, cap2, cur, he, hb, hh, _, _, _, htake⟩
  · cases h'
  · simp only [Value.slice.injEq, Option.some.injEq, Addr.mk.injEq, and_true, true_and] at he
    obtain ⟨rfl, rfl⟩ := he
    exact ⟨hb, cur, cur.toList.drop (l * 5), hh, by rw [← htake, List.take_append_drop]⟩

theorem OwnN.empty {w : World} {B : Nat} (hB : B ≤ w.heap.size) : OwnN (w.alloc (.cells #[] 40)) B w.heap.size 0 0 [] :=
  ⟨rfl, rfl, Or.inr ⟨_, 0, #[], rfl, hB, heap_alloc_new _ _, Nat.le_refl _, by simp [maxLen], rfl, rfl⟩⟩

theorem OwnN.alloc {w : World} {B g c l : Nat} {zs : List Nd} (h : OwnN w B g c l zs) (o : Obj) : OwnN (w.alloc o) B g c l zs := ⟨h.1, h.2.alloc o⟩

theorem OwnN.below {w w' : World} {B g c l : Nat} {zs : List Nd} (h : OwnN w B g c l zs) (hb : Below w.heap.size w w') : OwnN w' B g c l zs :=
  ⟨h.1, owns_but (S := fun _ => False) h.2 (But.ofBelow hb) (fun h => h)⟩

theorem OwnN.push {w : World} {B g c l m : Nat} {zs : List Nd} {x : Nd} (h : w.ownsRow B 40 5 (.slice (some ⟨g, 0, none⟩) m c) m (flat zs ++ x.row)) (hl : zs.length = l) (hm : m = l + 1) : OwnN w B g c (l + 1) (zs ++ [x]) := by
  subst hm
  refine ⟨by simp [hl], ?_⟩
  rw [flat_append]
  have e : flat [x] = x.row := by simp [flat]
  rw [e]
  exact h

/-- The nodes from f on up to i. -/
def span (t : List Nd) (f i : Nat) : List Nd := (t.take (i + 1)).drop f

theorem span_length (t : List Nd) (f i : Nat) (hi : i < t.length) : (span t f i).length = i + 1 - f := by simp [span]; omega

theorem deep_after {t : List Nd} {m : Nat} (hm : t.length = m) (hd : 0 < deepOf t) : 0 < m ∧ m ≤ 6000 ∧ ∃ S ys, after t m = some (S, ys) ∧ ys.length = m := by
  have h6 : m ≤ 6000 := by
    by_cases h : m ≤ 6000
    · exact h
    · have := deepOf_great (t := t) (by omega)
      omega
  have h0 : 0 < m := by
    by_cases h : m = 0
    · have := deepOf_nil (t := t) (by omega)
      omega
    · omega
  cases hA : after t m with
  | none =>
    have := deepOf_none (t := t) (by rw [hm]; exact hA)
    omega
  | some p =>
    obtain ⟨S, ys⟩ := p
    exact ⟨h0, h6, S, ys, rfl, (after_fine hA).len⟩

/-- The kids themselves. -/
def kidsIn (t : List Nd) (K : List Sp) : List (List Nd) := K.map fun s => span t s.fr s.rt

end Go.Proofs.YtahdmflbdmlfhaaGreatDoor

namespace Go.Proofs.YtahdmflbdmlfhaaGreatDoor

/-- A term's place, moved by a. -/
def sh (a : Nat) (s : Sp) : Sp := ⟨s.fr + a, s.rt + a, s.dp⟩

theorem dpOf_sh (a : Nat) (K : List Sp) : dpOf (K.map (sh a)) = dpOf K := by
  unfold dpOf
  rw [List.foldl_map]
  rfl

theorem over_sh (a i : Nat) (K : List Sp) : over (K.map (sh a)) (i + a) = sh a (over K i) := by
  unfold over
  rw [dpOf_sh]
  cases K <;> simp [sh, frOf]

/-- A step on a greater stack. -/
theorem step_front {S S' A : List Sp} {s : Sp} {i a : Nat} {n : Int} (h : step S i n = some (S', s)) : step (A ++ S.map (sh a)) (i + a) n = some (A ++ S'.map (sh a), sh a s) := by
  obtain ⟨h0, h1, h2, h3⟩ := step_some h
  rw [step_of h0 (by simp; omega)]
  have e1 : (A ++ S.map (sh a)).length - n.toNat = A.length + (S.length - n.toNat) := by simp; omega
  rw [e1]
  have e2 : (A ++ S.map (sh a)).take (A.length + (S.length - n.toNat)) = A ++ (S.take (S.length - n.toNat)).map (sh a) := by
    rw [List.take_append, List.take_of_length_le (by omega), List.map_take]
    congr 2
    omega
  have e3 : (A ++ S.map (sh a)).drop (A.length + (S.length - n.toNat)) = (S.drop (S.length - n.toNat)).map (sh a) := by
    rw [List.drop_append, List.drop_of_length_le (by omega), List.map_drop, List.nil_append]
    congr 1
    omega
  rw [e2, e3, over_sh, ← h3, h2]
  simp

/-- The run over a part at the front is the whole's. -/
theorem after_front {a b : List Nd} : ∀ {k : Nat}, k ≤ a.length → after (a ++ b) k = after a k := by
  intro k
  induction k with
  | zero => intro _; rfl
  | succ k ih =>
    intro hk
    simp only [after, ih (by omega)]
    rw [List.getElem?_append_left (by omega)]

/-- Two runs one behind the other. -/
theorem after_append {a b : List Nd} {A ya : List Sp} (ha : after a a.length = some (A, ya)) :
    ∀ {k : Nat} {S ys : List Sp}, after b k = some (S, ys) → after (a ++ b) (a.length + k) = some (A ++ S.map (sh a.length), ya ++ ys.map (sh a.length)) := by
  intro k
  induction k with
  | zero =>
    intro S ys h
    simp only [after, Option.some.injEq, Prod.mk.injEq] at h
    obtain ⟨rfl, rfl⟩ := h
    rw [Nat.add_zero, after_front (Nat.le_refl _), ha]
    simp
  | succ k ih =>
    intro S' ys' h
    obtain ⟨S, ys, s, hk, hb, hs, rfl⟩ := after_inv h
    have h1 := ih hb
    have h2 := step_front (A := A) (a := a.length) hs
    have hlt : a.length + k < (a ++ b).length := by simp; omega
    have hg : (a ++ b)[a.length + k] = b[k] := by rw [List.getElem_append_right (by omega)]; simp
    rw [← Nat.add_assoc, after_succ h1 hlt (S' := A ++ S'.map (sh a.length)) (s := sh a.length s) (by rw [hg, Nat.add_comm]; exact h2)]
    simp

/-- Terms that stand one behind the other, from f up to e. -/
def Con : Nat → Nat → List Sp → Prop
  | f, e, [] => f = e
  | f, e, d :: D => d.fr = f ∧ d.fr ≤ d.rt ∧ Con (d.rt + 1) e D

theorem Con.le : ∀ {D : List Sp} {f e : Nat}, Con f e D → f ≤ e := by
  intro D
  induction D with
  | nil => intro f e h; exact Nat.le_of_eq h
  | cons d D ih =>
    intro f e h
    obtain ⟨h1, h2, h3⟩ := h
    have := ih h3
    omega

theorem Con.ge : ∀ {D : List Sp} {f e : Nat}, Con f e D → ∀ x ∈ D, f ≤ x.fr ∧ x.fr ≤ x.rt ∧ x.rt < e := by
  intro D
  induction D with
  | nil => intro f e h x hx; simp at hx
  | cons d D ih =>
    intro f e h x hx
    obtain ⟨h1, h2, h3⟩ := h
    rcases List.mem_cons.1 hx with rfl | hx
    · have := h3.le; omega
    · have := ih h3 x hx; omega

/-- The kids of a node stand one behind the other. -/
theorem kids_con {t : List Nd} {ys K : List Sp} {i : Nat} (h : KidsAt t ys i K) : Con (frOf K i) i K := by
  have key : ∀ n r, r + n = K.length → Con (if h : r < K.length then K[r].fr else i) i (K.drop r) := by
    intro n
    induction n with
    | zero =>
      intro r hr
      rw [dif_neg (by omega), List.drop_of_length_le (by omega)]
      rfl
    | succ n ih =>
      intro r hr
      have hlt : r < K.length := by omega
      rw [dif_pos hlt, List.drop_eq_getElem_cons hlt]
      refine ⟨rfl, (h.mem r hlt).2.1, ?_⟩
      have h2 := ih (r + 1) (by omega)
      by_cases hl : r + 1 < K.length
      · rw [dif_pos hl] at h2
        have h3 := h.next (r + 1) (by omega) hl
        simp only [Nat.add_sub_cancel] at h3
        rw [h3]
        exact h2
      · rw [dif_neg hl] at h2
        have h3 := h.last (by omega)
        have e : K.length - 1 = r := by omega
        simp only [e] at h3
        rw [h3]
        exact h2
  have h1 := key K.length 0 (by omega)
  rw [List.drop_zero] at h1
  cases K with
  | nil => exact h1
  | cons d D => exact h1

/-- What stands from f up to e. -/
theorem con_flat {t : List Nd} : ∀ {D : List Sp} {f e : Nat}, Con f e D → e ≤ t.length → (kidsIn t D).flatten = (t.take e).drop f := by
  intro D
  induction D with
  | nil => intro f e h he; cases h; simp [kidsIn]
  | cons d D ih =>
    intro f e h he
    obtain ⟨h1, h2, h3⟩ := h
    have h4 := ih h3 he
    have h5 := h3.le
    have e1 : kidsIn t (d :: D) = span t d.fr d.rt :: kidsIn t D := rfl
    rw [e1, List.flatten_cons, h4]
    unfold span
    subst h1
    have e2 : (t.take e).drop d.fr = (((t.take e).take (d.rt + 1)).drop d.fr) ++ (t.take e).drop (d.rt + 1) := by
      conv => lhs; rw [← List.take_append_drop (d.rt + 1) (t.take e)]
      rw [List.drop_append_of_le_length (by simp; omega)]
    rw [e2, List.take_take, Nat.min_eq_left h5]

/-- The run over kids that each are whole. -/
theorem con_run {t : List Nd} : ∀ {D : List Sp} {f e : Nat}, Con f e D → e ≤ t.length → (∀ x ∈ D, ∃ ys', after (span t x.fr x.rt) (x.rt + 1 - x.fr) = some ([⟨0, x.rt - x.fr, x.dp⟩], ys')) →
    ∃ ys', after (kidsIn t D).flatten (e - f) = some (D.map (fun x => ⟨x.fr - f, x.rt - f, x.dp⟩), ys') := by
  intro D
  induction D with
  | nil => intro f e h he _; cases h; exact ⟨[], by simp [kidsIn, after]⟩
  | cons d D ih =>
    intro f e h he hx
    obtain ⟨h1, h2, h3⟩ := h
    obtain ⟨y1, r1⟩ := hx d (by simp)
    obtain ⟨y2, r2⟩ := ih h3 he (fun x hxx => hx x (List.mem_cons_of_mem _ hxx))
    have h5 := h3.le
    have hl : (span t d.fr d.rt).length = d.rt + 1 - d.fr := span_length t d.fr d.rt (by omega)
    have e1 : kidsIn t (d :: D) = span t d.fr d.rt :: kidsIn t D := rfl
    rw [← hl] at r1
    have r3 := after_append r1 r2
    rw [e1, List.flatten_cons]
    have e2 : (span t d.fr d.rt).length + (e - (d.rt + 1)) = e - f := by omega
    rw [e2] at r3
    refine ⟨y1 ++ y2.map (sh (span t d.fr d.rt).length), r3.trans ?_⟩
    congr 2
    simp only [List.map_cons, List.map_map, List.singleton_append, List.cons.injEq, Sp.mk.injEq, and_true]
    refine ⟨⟨by omega, by omega⟩, ?_⟩
    apply List.map_congr_left
    intro x hxx
    have := h3.ge x hxx
    simp only [Function.comp, sh, Sp.mk.injEq, and_true]
    omega

/-- The kids of a node, and what its term is over them. -/
theorem kids_at2 {t : List Nd} {S ys : List Sp} {n : Nat} (h : after t n = some (S, ys)) (i : Nat) (hi : i < n) : ∃ K, KidsAt t ys i K ∧ ys[i]? = some (over K i) := by
  obtain ⟨Si, hSi⟩ := after_part h i (by omega)
  obtain ⟨Sj, hSj⟩ := after_part h (i + 1) (by omega)
  obtain ⟨S0, ys0, s, hk, ha, hs, he⟩ := after_inv hSj
  rw [hSi] at ha
  simp only [Option.some.injEq, Prod.mk.injEq] at ha
  obtain ⟨rfl, rfl⟩ := ha
  have hf := after_fine hSi
  have hfn := (after_fine h).len
  obtain ⟨h0, h1, _, hov⟩ := step_some hs
  obtain ⟨f, hf'⟩ : ∃ f, f = Si.length - t[i].kids.toNat := ⟨_, rfl⟩
  rw [← hf'] at hov
  have hlen : (Si.drop f).length = t[i].kids.toNat := by simp; omega
  have hget : ∀ r (h : r < (Si.drop f).length), (Si.drop f)[r] = Si[f + r]'(by simp at h; omega) := fun r h => List.getElem_drop
  have hyi : ys[i]? = some s := by
    have h5 : (ys.take (i + 1))[i]? = some s := by
      rw [he, List.getElem?_append_right (by simp; omega)]
      have h9 : i - (ys.take i).length = 0 := by simp; omega
      rw [h9]
      rfl
    rw [List.getElem?_take, if_pos (by omega)] at h5
    exact h5
  refine ⟨Si.drop f, ⟨⟨hk, by rw [hlen]; omega⟩, ?_, ?_, ?_, ?_, by have := chain_len hf.chain; simp; omega⟩, by rw [hyi, hov]⟩
  · intro hp
    have h2 := (hf.chain.2.2.1 (by simp at hp; omega)).2
    rw [hget]
    have e : f + ((Si.drop f).length - 1) = Si.length - 1 := by simp at hp ⊢; omega
    simp only [e]
    exact h2
  · intro r hr hr'
    rw [hget, hget]
    have h2 := hf.chain.2.1 (f + (r - 1)) (by simp at hr'; omega)
    have e : f + (r - 1) + 1 = f + r := by omega
    simp only [e] at h2
    exact h2
  · intro r hr
    rw [hget]
    have hlt : f + r < Si.length := by simp at hr; omega
    have h2 := hf.mem (f + r) hlt
    have h3 := hf.chain.1 (f + r) hlt
    have h4 := (List.getElem?_eq_some_iff.1 h2).1
    refine ⟨?_, h3.1, h3.2⟩
    rw [List.getElem?_take] at h2
    rw [if_pos (by simp at h4; omega)] at h2
    exact h2
  · refine ⟨by omega, ?_⟩
    obtain ⟨_, h6⟩ := List.getElem?_eq_some_iff.1 hyi
    rw [h6, hov]
    rfl

theorem span_snoc (t : List Nd) (f i : Nat) (hi : i < t.length) (hf : f ≤ i) : span t f i = (t.take i).drop f ++ [t[i]] := by
  unfold span
  rw [List.take_succ_eq_append_getElem hi, List.drop_append_of_le_length (by simp; omega)]

/-- The run over a term's own nodes. -/
theorem sub_run {t : List Nd} {S ys : List Sp} {n : Nat} (h : after t n = some (S, ys)) :
    ∀ i, i < n → ∀ s, ys[i]? = some s → ∃ ys', after (span t s.fr i) (i + 1 - s.fr) = some ([⟨0, i - s.fr, s.dp⟩], ys') := by
  intro i
  induction i using Nat.strongRecOn with
  | ind i ih =>
    intro hi s hs
    obtain ⟨K, hK, ho⟩ := kids_at2 h i hi
    rw [ho] at hs
    simp only [Option.some.injEq] at hs
    subst hs
    have hle := after_le h
    have hc := kids_con hK
    have hfi : frOf K i ≤ i := hc.le
    obtain ⟨y1, r1⟩ := con_run (t := t) hc (by omega) (fun x hx => by
      obtain ⟨r, hr, rfl⟩ := List.getElem_of_mem hx
      have hm := hK.mem r hr
      exact ih K[r].rt hm.2.2 (by omega) K[r] hm.1)
    have hfl := con_flat (t := t) hc (by omega)
    show ∃ ys', after (span t (frOf K i) i) (i + 1 - frOf K i) = some ([⟨0, i - frOf K i, dpOf K⟩], ys')
    rw [span_snoc t (frOf K i) i (by omega) hfi, ← hfl]
    obtain ⟨L, hL⟩ : ∃ L, (kidsIn t K).flatten = L := ⟨_, rfl⟩
    have hLl : L.length = i - frOf K i := by rw [← hL, hfl]; simp; omega
    rw [hL] at r1 ⊢
    have e1 : i + 1 - frOf K i = (i - frOf K i) + 1 := by omega
    have r2 : after (L ++ [t[i]'(by omega)]) (i - frOf K i) = some (K.map (fun x => ⟨x.fr - frOf K i, x.rt - frOf K i, x.dp⟩), y1) := by rw [after_front (a := L) (by omega)]; exact r1
    have hst : step (K.map (fun x => (⟨x.fr - frOf K i, x.rt - frOf K i, x.dp⟩ : Sp))) (i - frOf K i) (t[i]'(by omega)).kids = some ([⟨0, i - frOf K i, dpOf K⟩], ⟨0, i - frOf K i, dpOf K⟩) := by
      obtain ⟨_, hn⟩ := hK.num
      rw [hn, step_of (by omega) (by simp)]
      have hov : over (K.map (fun x => (⟨x.fr - frOf K i, x.rt - frOf K i, x.dp⟩ : Sp))) (i - frOf K i) = ⟨0, i - frOf K i, dpOf K⟩ := by
        unfold over
        have hd : dpOf (K.map (fun x => (⟨x.fr - frOf K i, x.rt - frOf K i, x.dp⟩ : Sp))) = dpOf K := by
          unfold dpOf
          rw [List.foldl_map]
        rw [hd]
        cases K with
        | nil => simp [frOf]
        | cons d D => simp [frOf]
      simp [hov]
    rw [e1]
    refine ⟨_, after_succ r2 (by simp; omega) (S' := [⟨0, i - frOf K i, dpOf K⟩]) (s := ⟨0, i - frOf K i, dpOf K⟩) ?_⟩
    rw [← hst]
    congr 1
    rw [List.getElem_append_right (by omega)]
    simp

/-- One term, and nothing beside it. -/
def One (a : List Nd) : Prop := ∃ s ys, after a a.length = some ([s], ys)

/-- How many terms more stand behind a list than ahead of it. -/
def wt (a : List Nd) : Int := (a.map fun n => 1 - n.kids).sum

theorem wt_append (a b : List Nd) : wt (a ++ b) = wt a + wt b := by simp [wt]

theorem after_wt {a : List Nd} : ∀ {k : Nat} {S ys : List Sp}, after a k = some (S, ys) → (S.length : Int) = wt (a.take k) := by
  intro k
  induction k with
  | zero => intro S ys h; simp only [after, Option.some.injEq, Prod.mk.injEq] at h; obtain ⟨rfl, rfl⟩ := h; rfl
  | succ k ih =>
    intro S' ys' h
    obtain ⟨S, ys, s, hk, ha, hs, rfl⟩ := after_inv h
    obtain ⟨h0, h1, rfl, _⟩ := step_some hs
    have h2 := ih ha
    rw [List.take_succ_eq_append_getElem hk, wt_append, ← h2]
    simp [wt]
    omega

theorem One.ne {a : List Nd} (h : One a) : a ≠ [] := by
  obtain ⟨s, ys, h⟩ := h
  intro e
  subst e
  simp [after] at h

theorem One.wt {a : List Nd} (h : One a) : wt a = 1 := by
  obtain ⟨s, ys, h⟩ := h
  have h1 := after_wt h
  rw [List.take_of_length_le (Nat.le_refl _)] at h1
  rw [← h1]; rfl

theorem One.tail {a : List Nd} (h : One a) (k : Nat) (h0 : 0 < k) (hk : k ≤ a.length) : YtahdmflbdmlfhaaGreatDoor.wt (a.drop k) ≤ 0 := by
  have hw := h.wt
  obtain ⟨s, ys, h⟩ := h
  obtain ⟨S, hS⟩ := after_part h k hk
  have h1 := after_wt hS
  have h2 := (after_fine hS).chain.2.2.2
  have h3 : YtahdmflbdmlfhaaGreatDoor.wt a = YtahdmflbdmlfhaaGreatDoor.wt (a.take k) + YtahdmflbdmlfhaaGreatDoor.wt (a.drop k) := by rw [← wt_append, List.take_append_drop]
  have h4 : S.length ≠ 0 := fun e => by have := h2 e; omega
  omega

/-- A term at the end of a list is told by the list. -/
theorem One.suffix {a b X Y : List Nd} (ha : One a) (hb : One b) (h : X ++ a = Y ++ b) : X = Y ∧ a = b := by
  have key : ∀ {a b X Y : List Nd}, One a → One b → X ++ a = Y ++ b → a.length ≤ b.length → a.length = b.length := by
    intro a b X Y ha hb h hl
    rcases Nat.lt_or_ge a.length b.length with hlt | hge
    · exfalso
      have hla : 0 < a.length := List.length_pos_iff.2 ha.ne
      have e : a = b.drop (b.length - a.length) := by
        have h1 : (X ++ a).drop X.length = (Y ++ b).drop X.length := by rw [h]
        have h2 := congrArg List.length h
        simp only [List.length_append] at h2
        rw [List.drop_left, List.drop_append, List.drop_of_length_le (by omega), List.nil_append] at h1
        have e3 : X.length - Y.length = b.length - a.length := by omega
        rw [e3] at h1
        exact h1
      have h3 := hb.tail (b.length - a.length) (by omega) (by omega)
      rw [← e, ha.wt] at h3
      omega
    · omega
  have hl : a.length = b.length := by
    rcases Nat.le_total a.length b.length with h1 | h1
    · exact key ha hb h h1
    · exact (key hb ha h.symm h1).symm
  exact List.append_inj' h hl

theorem flatten_snoc (A : List (List Nd)) (a : List Nd) : (A ++ [a]).flatten = A.flatten ++ a := by simp

/-- Terms one behind the other are told by what they make together. -/
theorem ones_same : ∀ {A B : List (List Nd)}, (∀ x ∈ A, One x) → (∀ x ∈ B, One x) → A.flatten = B.flatten → A = B := by
  intro A
  induction hn : A.length generalizing A with
  | zero =>
    intro B hA hB h
    have : A = [] := List.eq_nil_of_length_eq_zero hn
    subst this
    cases B with
    | nil => rfl
    | cons b B =>
      exfalso
      have h1 := (hB b (by simp)).ne
      simp only [List.flatten_nil, List.flatten_cons] at h
      have := congrArg List.length h
      simp only [List.length_nil, List.length_append] at this
      exact h1 (List.eq_nil_of_length_eq_zero (by omega))
  | succ n ih =>
    intro B hA hB h
    have hne : A ≠ [] := fun e => by simp [e] at hn
    obtain ⟨A', a, rfl⟩ : ∃ A' a, A = A' ++ [a] := ⟨_, _, (List.dropLast_concat_getLast hne).symm⟩
    have hb : B ≠ [] := by
      intro e
      subst e
      have h1 := (hA a (by simp)).ne
      simp only [flatten_snoc, List.flatten_nil, List.append_eq_nil_iff] at h
      exact h1 h.2
    obtain ⟨B', b, rfl⟩ : ∃ B' b, B = B' ++ [b] := ⟨_, _, (List.dropLast_concat_getLast hb).symm⟩
    rw [flatten_snoc, flatten_snoc] at h
    obtain ⟨h1, h2⟩ := (hA a (by simp)).suffix (hB b (by simp)) h
    have h3 := ih (A := A') (by simpa using hn) (fun x hx => hA x (by simp [hx])) (fun x hx => hB x (by simp [hx])) h1
    rw [h3, h2]

/-- The run over terms one behind the other. -/
theorem ones_run : ∀ {A : List (List Nd)}, (∀ x ∈ A, One x) → ∃ S ys, after A.flatten A.flatten.length = some (S, ys) ∧ S.length = A.length := by
  intro A
  induction hn : A.length generalizing A with
  | zero =>
    intro _
    have : A = [] := List.eq_nil_of_length_eq_zero hn
    subst this
    exact ⟨[], [], rfl, rfl⟩
  | succ n ih =>
    intro hA
    have hne : A ≠ [] := fun e => by simp [e] at hn
    obtain ⟨A', a, rfl⟩ : ∃ A' a, A = A' ++ [a] := ⟨_, _, (List.dropLast_concat_getLast hne).symm⟩
    obtain ⟨S, ys, h1, h2⟩ := ih (A := A') (by simpa using hn) (fun x hx => hA x (by simp [hx]))
    obtain ⟨s, y, h3⟩ := hA a (by simp)
    have h4 := after_append h1 h3
    rw [flatten_snoc, List.length_append, h4]
    exact ⟨_, _, rfl, by simp; simp at h2 hn; omega⟩

/-- Terms, and a node over them. -/
theorem One.join {A : List (List Nd)} {n : Nd} (hA : ∀ x ∈ A, One x) (hn : n.kids = (A.length : Int)) : One (A.flatten ++ [n]) := by
  obtain ⟨S, ys, h1, h2⟩ := ones_run hA
  have hst : step S A.flatten.length n.kids = some ([over S A.flatten.length], over S A.flatten.length) := by
    rw [hn, step_of (by omega) (by omega)]
    have e : S.length - (A.length : Int).toNat = 0 := by omega
    rw [e]
    simp
  have h3 : after (A.flatten ++ [n]) A.flatten.length = some (S, ys) := by rw [after_front (Nat.le_refl _)]; exact h1
  refine ⟨over S A.flatten.length, ys ++ [over S A.flatten.length], ?_⟩
  have h4 := after_succ h3 (by simp) (S' := [over S A.flatten.length]) (s := over S A.flatten.length) (by
    rw [List.getElem_append_right (Nat.le_refl _)]
    simp only [Nat.sub_self, List.getElem_singleton]
    exact hst)
  rw [List.length_append]
  exact h4

/-- A term inside a list is one. -/
theorem sub_one {t : List Nd} {S ys : List Sp} {n i : Nat} {s : Sp} (h : after t n = some (S, ys)) (hi : i < n) (hs : ys[i]? = some s) : One (span t s.fr i) := by
  obtain ⟨ys', h1⟩ := sub_run h i hi s hs
  have hle := after_le h
  refine ⟨⟨0, i - s.fr, s.dp⟩, ys', ?_⟩
  rw [span_length t s.fr i (by omega)]
  exact h1

/-- A type with its unknowns filled. -/
def fillN (θ : Int → List Nd) (n : Nd) : List Nd := if n.kind = 61 then θ n.num else [n]

def fill (θ : Int → List Nd) (a : List Nd) : List Nd := a.flatMap (fillN θ)

theorem fill_append (θ : Int → List Nd) (a b : List Nd) : fill θ (a ++ b) = fill θ a ++ fill θ b := by simp [fill]

theorem fill_flatten (θ : Int → List Nd) (A : List (List Nd)) : fill θ A.flatten = (A.map (fill θ)).flatten := by
  induction A with
  | nil => rfl
  | cons a A ih => rw [List.flatten_cons, fill_append, ih]; rfl

/-- The unknowns of a list. -/
def metas (a : List Nd) : List Int := (a.filter (fun n => n.kind == 61)).map (fun n => n.num)

theorem metas_append (a b : List Nd) : metas (a ++ b) = metas a ++ metas b := by simp [metas]

theorem metas_flatten_mem {A : List (List Nd)} {x : Int} : x ∈ metas A.flatten ↔ ∃ a ∈ A, x ∈ metas a := by
  induction A with
  | nil => simp [metas]
  | cons a A ih => rw [List.flatten_cons, metas_append, List.mem_append, ih]; simp

theorem fill_congr {θ θ' : Int → List Nd} {a : List Nd} (h : ∀ x ∈ metas a, θ x = θ' x) : fill θ a = fill θ' a := by
  induction a with
  | nil => rfl
  | cons n a ih =>
    have e : ∀ θ, fill θ (n :: a) = fillN θ n ++ fill θ a := fun θ => by simp [fill]
    rw [e, e]
    have h1 : fill θ a = fill θ' a := ih (fun x hx => h x (by
      have : metas (n :: a) = metas [n] ++ metas a := metas_append [n] a
      rw [this]; exact List.mem_append_right _ hx))
    rw [h1]
    congr 1
    unfold fillN
    by_cases hk : n.kind = 61
    · rw [if_pos hk, if_pos hk]
      exact h n.num (by simp [metas, hk])
    · rw [if_neg hk, if_neg hk]

/-- Unknowns are leaves. -/
def Leafy (a : List Nd) : Prop := ∀ n ∈ a, n.kind = 61 → n.kids = 0

theorem Leafy.sub {a : List Nd} (h : Leafy a) (f i : Nat) : Leafy (span a f i) := by
  intro n hn
  exact h n (List.mem_of_mem_take (List.mem_of_mem_drop hn))

theorem fill_run {θ : Int → List Nd} (hθ : ∀ x, One (θ x)) {a : List Nd} (hl : Leafy a) :
    ∀ {k : Nat} {S ys : List Sp}, after a k = some (S, ys) → ∃ S' ys', after (fill θ (a.take k)) (fill θ (a.take k)).length = some (S', ys') ∧ S'.length = S.length := by
  intro k
  induction k with
  | zero => intro S ys h; simp only [after, Option.some.injEq, Prod.mk.injEq] at h; obtain ⟨rfl, rfl⟩ := h; exact ⟨[], [], rfl, rfl⟩
  | succ k ih =>
    intro S' ys' h
    obtain ⟨S, ys, s, hk, ha, hs, rfl⟩ := after_inv h
    obtain ⟨h0, h1, rfl, _⟩ := step_some hs
    obtain ⟨S1, y1, r1, l1⟩ := ih ha
    rw [List.take_succ_eq_append_getElem hk, fill_append]
    have e : fill θ [a[k]] = fillN θ a[k] := by simp [fill]
    rw [e]
    by_cases h61 : a[k].kind = 61
    · have hz := hl a[k] (List.getElem_mem hk) h61
      obtain ⟨s2, y2, r2⟩ := hθ a[k].num
      have e2 : fillN θ a[k] = θ a[k].num := by rw [fillN, if_pos h61]
      rw [e2, List.length_append, after_append r1 r2]
      refine ⟨_, _, rfl, ?_⟩
      simp [hz]
      omega
    · have e2 : fillN θ a[k] = [a[k]] := by rw [fillN, if_neg h61]
      rw [e2]
      have r3 : after (fill θ (a.take k) ++ [a[k]]) (fill θ (a.take k)).length = some (S1, y1) := by rw [after_front (Nat.le_refl _)]; exact r1
      have hst := step_of (S := S1) (i := (fill θ (a.take k)).length) (n := a[k].kids) h0 (by omega)
      have r4 := after_succ r3 (by simp) (by
        rw [List.getElem_append_right (Nat.le_refl _)]
        simp only [Nat.sub_self, List.getElem_singleton]
        exact hst)
      rw [List.length_append]
      refine ⟨_, _, r4, ?_⟩
      simp
      omega

theorem fill_one {θ : Int → List Nd} (hθ : ∀ x, One (θ x)) {a : List Nd} (hl : Leafy a) (ha : One a) : One (fill θ a) := by
  obtain ⟨s, ys, h⟩ := ha
  obtain ⟨S', ys', h1, h2⟩ := fill_run hθ hl h
  rw [List.take_of_length_le (Nat.le_refl _)] at h1
  match S', h2 with
  | [s'], _ => exact ⟨s', ys', h1⟩

end Go.Proofs.YtahdmflbdmlfhaaGreatDoor

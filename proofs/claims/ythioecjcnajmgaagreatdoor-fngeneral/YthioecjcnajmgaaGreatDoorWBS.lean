import Derived.Test.YthioecjcnajmgaaGreatDoorDrawP
import Derived.Test.YthioecjcnajmgaaGreatDoorWBN
import Derived.Test.YthioecjcnajmgaaGreatDoorDrawT
import Derived.Test.YthioecjcnajmgaaGreatDoorWAR
import Derived.Deep.RegionLaw
import Derived.Deep.RegionHeld3
import Derived.BigQuiet
namespace Go.Proofs.YthioecjcnajmgaaGreatDoor

open Go.RowKit

/-- A type without unknowns. -/
structure Shut (L : Nat) (t : List Nd) : Prop where
  one : One t
  plain : t.all Nd.plainb = true
  metas : metas t = []
  len : t.length ≤ L
  zero : ∀ n ∈ t, n.num = 0

theorem Shut.leaf (tx : ByteArray) : Shut 1 [⟨12, 0, tx, 0, 0⟩] := ⟨leafO _ rfl, by simp [Nd.plainb], by simp [Go.Proofs.YthioecjcnajmgaaGreatDoor.metas], by simp, fun n hn => by simp at hn; subst hn; rfl⟩

theorem Shut.mono {L L' : Nat} {t : List Nd} (h : Shut L t) (hl : L ≤ L') : Shut L' t := ⟨h.one, h.plain, h.metas, Nat.le_trans h.len hl, h.zero⟩

theorem Shut.join1 {L : Nat} {x : List Nd} (hx : Shut L x) (tx : ByteArray) : Shut (L + 1) ([x].flatten ++ [⟨12, 0, tx, 1, 0⟩]) := by
  refine ⟨One.join (fun y hy => by simp at hy; subst hy; exact hx.one) (by simp), ?_, ?_, ?_, ?_⟩
  · simp only [List.flatten_cons, List.flatten_nil, List.append_nil, List.all_append, hx.plain, Bool.true_and]
    simp [Nd.plainb]
  · simp only [List.flatten_cons, List.flatten_nil, List.append_nil, metas_append, hx.metas]
    simp [Go.Proofs.YthioecjcnajmgaaGreatDoor.metas]
  · have := hx.len
    simp
    omega
  · intro n hn
    rcases List.mem_append.1 hn with h | h
    · exact hx.zero n (by simpa using h)
    · simp at h; subst h; rfl

theorem Shut.join2 {L : Nat} {x y : List Nd} (hx : Shut L x) (hy : Shut L y) (k : Int) (hk : k = 13 ∨ k = 14) : Shut (2 * L + 1) ([x, y].flatten ++ [⟨k, 0, ⟨#[]⟩, 2, 0⟩]) := by
  refine ⟨One.join (fun z hz => by simp at hz; rcases hz with rfl | rfl; exact hx.one; exact hy.one) (by simp), ?_, ?_, ?_, ?_⟩
  · simp only [List.flatten_cons, List.flatten_nil, List.append_nil, List.all_append, hx.plain, hy.plain, Bool.true_and]
    rcases hk with rfl | rfl <;> simp [Nd.plainb] <;> rfl
  · simp only [List.flatten_cons, List.flatten_nil, List.append_nil, metas_append, hx.metas, hy.metas]
    rcases hk with rfl | rfl <;> simp [Go.Proofs.YthioecjcnajmgaaGreatDoor.metas]
  · have := hx.len
    have := hy.len
    simp
    omega
  · intro n hn
    rcases List.mem_append.1 hn with h | h
    · simp at h
      rcases h with h | h
      · exact hx.zero n h
      · exact hy.zero n h
    · simp at h; subst h; rfl

/-- What wType answers. -/
def DrewW (w : World) (L : Nat) (e : Ending) (w' : World) : Prop := ∃ (g c l : Nat) (zs : List Nd), e = .returned (.slice (some ⟨g, 0, none⟩) l c) ∧ zs.length = l ∧ w.heap.size ≤ g ∧ Row w' g zs ∧ Shut L zs ∧ Below w.heap.size w w'

set_option maxHeartbeats 1000000 in
theorem pick_any (n : Nat) (hn : n ≤ 1048576) (ao : Option Addr) (cap i : Nat) (hi : i ≤ 1000) (w : World) (hc : Code w ao n) :
    Calls Tryz.prog 39 #[.slice ao n cap, .int .i64 (i : Int)] w fun e w' => ∃ v : Nat, e = .returned (.int .i64 (v : Int)) ∧ v ≤ 1000 ∧ Below w.heap.size w w' := by
  by_cases h0 : n = 0
  · subst h0
    clear hc
    go_enter Tryz.func39, Tryz.ntmps39
    go_wp2
    go_ret
    exact ⟨i, rfl, hi, Below.refl _ _⟩
  · have t0 : ((n : Int) == 0) = false := by simp; omega
    obtain ⟨r, hr⟩ : ∃ r, i % n = r := ⟨_, rfl⟩
    have him : r < n := by rw [← hr]; exact Nat.mod_lt _ (by omega)
    have hmi : ((i : Int) % (n : Int)) = (r : Int) := by omega
    have hmt : (i : Int).tmod (n : Int) = (r : Int) := by rw [← hmi]; exact Int.tmod_eq_emod_of_nonneg (by omega)
    obtain ⟨b, o, v, rfl, hcell, hv⟩ := hc r him
    clear hc hr
    go_enter Tryz.func39, Tryz.ntmps39
    go_wp2
    go_ret
    exact ⟨v, rfl, by omega, Below.refl _ _⟩

def maxW : Nat → Nat
  | 0 => 1
  | d + 1 => 2 * maxW d + 1

theorem maxW_1 (d : Nat) : 1 ≤ maxW d := by cases d <;> simp [maxW]

theorem one_list (W : World) {q l c : Nat} {x : List Nd} (hl : x.length = l) (hr : Row W q x) : Lists (W.alloc (.cells #[.slice (some ⟨q, 0, none⟩) l c] 27)) (some ⟨W.heap.size, 0, none⟩) [x] := by
  have hB : Below W.heap.size W (W.alloc (.cells #[.slice (some ⟨q, 0, none⟩) l c] 27)) := (Below.refl _ W).alloc (Nat.le_refl _) _
  intro i hi
  have h0 : i = 0 := by simp at hi; omega
  subst h0
  refine ⟨W.heap.size, 0, some ⟨q, 0, none⟩, c, rfl, ?_, (hr.below hB).nodes⟩
  rw [cell_of_row _ _ _ _ _ _ (heap_alloc_new _ _)]
  simp [hl]

theorem xy_lists (W : World) {q l c q' l' c' : Nat} {x y : List Nd} (hl : x.length = l) (hl' : y.length = l') (hr : Row W q x) (hr' : Row W q' y) : Lists (W.alloc (.cells #[.slice (some ⟨q, 0, none⟩) l c, .slice (some ⟨q', 0, none⟩) l' c'] 27)) (some ⟨W.heap.size, 0, none⟩) [x, y] := by
  have hB : Below W.heap.size W (W.alloc (.cells #[.slice (some ⟨q, 0, none⟩) l c, .slice (some ⟨q', 0, none⟩) l' c'] 27)) := (Below.refl _ W).alloc (Nat.le_refl _) _
  intro i hi
  have h2 : i = 0 ∨ i = 1 := by simp at hi; omega
  rcases h2 with rfl | rfl
  · refine ⟨W.heap.size, 0, some ⟨q, 0, none⟩, c, rfl, ?_, (hr.below hB).nodes⟩
    rw [cell_of_row _ _ _ _ _ _ (heap_alloc_new _ _)]
    simp [hl]
  · refine ⟨W.heap.size, 0, some ⟨q', 0, none⟩, c', rfl, ?_, (hr'.below hB).nodes⟩
    rw [cell_of_row _ _ _ _ _ _ (heap_alloc_new _ _)]
    simp [hl']

theorem leaf_drew {w w1 : World} {L : Nat} {o : Obj} {tx : ByteArray} (hb1 : Below w.heap.size w w1) (hL : 1 ≤ L) :
    DrewW w L (.returned (.slice (some ⟨w1.heap.size + 1, 0, none⟩) 1 1)) ((w1.alloc o).alloc (.cells #[.int .i64 12, .int .i64 0, .string tx, .int .i64 0, .int .i64 0] 40)) := by
  have hb2 := hb1.alloc hb1.size o
  have hr := (OwnN.one (w := w1.alloc o) (B := (w1.alloc o).heap.size) (Nat.le_refl _) ⟨12, 0, tx, 0, 0⟩).row.2
  have e : (w1.alloc o).heap.size = w1.heap.size + 1 := by simp
  rw [e] at hr
  exact ⟨w1.heap.size + 1, 1, 1, [⟨12, 0, tx, 0, 0⟩], rfl, rfl, by have := hb1.size; omega, hr, (Shut.leaf tx).mono hL, hb2.alloc hb2.size _⟩

set_option maxRecDepth 100000 in
set_option maxHeartbeats 4000000 in
theorem wType_step (n : Nat) (hn : n ≤ 1048576) (ao : Option Addr) (cap : Nat) (d : Nat) (hd5 : d ≤ 2)
    (IH : ∀ d', d' + 1 = d → ∀ (at' : Nat) (w : World), Code w ao n → at' ≤ 1000 / 4 ^ d' → Calls Tryz.prog 19 #[.slice ao n cap, .int .i64 (at' : Int), .int .i64 (d' : Int)] w fun e w' => DrewW w (maxW d') e w')
    (at' : Nat) (w : World) (hc : Code w ao n) (hat : at' ≤ 1000 / 4 ^ d) :
    Calls Tryz.prog 19 #[.slice ao n cap, .int .i64 (at' : Int), .int .i64 (d : Int)] w fun e w' => DrewW w (maxW d) e w' := by
  have hat2 : at' ≤ 1000 := Nat.le_trans hat (Nat.div_le_self _ _)
  go_enter Tryz.func19, Tryz.ntmps19
  go_wp2_with fail
  refine (pick_any n hn ao cap at' hat2 w hc).mono ?_
  rintro e w1 ⟨v, rfl, hv, hb1⟩
  obtain ⟨a, ha, ha9⟩ : ∃ a : Nat, v % 10 = a ∧ a < 10 := ⟨_, rfl, Nat.mod_lt _ (by omega)⟩
  have hai : ((v : Int) % 10) = (a : Int) := by omega
  have hat3 : (v : Int).tmod 10 = (a : Int) := by rw [← hai]; exact Int.tmod_eq_emod_of_nonneg (by omega)
  clear ha
  by_cases hbase : d = 0 ∨ a < 5
  · have hcase : a % 5 = 0 ∨ a % 5 = 1 ∨ a % 5 = 2 ∨ a % 5 = 3 ∨ a % 5 = 4 := by omega
    clear IH hc
    have hmx := maxW_1 d
    by_cases hd0 : d = 0
    · subst hd0
      rcases hcase with h5 | h5 | h5 | h5 | h5
      all_goals
        have h5i : ((a : Int) % 5) = ((a % 5 : Nat) : Int) := by omega
        rw [h5] at h5i
        go_wp2
        go_ret
        exact leaf_drew hb1 hmx
    · have tdi : decide ((d : Int) ≤ 0) = false := decide_eq_false (by omega)
      have ha5 : a < 5 := by omega
      have ta5 : decide ((a : Int) < 5) = true := decide_eq_true (by omega)
      rcases hcase with h5 | h5 | h5 | h5 | h5
      all_goals
        have h5i : ((a : Int) % 5) = ((a % 5 : Nat) : Int) := by omega
        rw [h5] at h5i
        go_wp2
        go_ret
        exact leaf_drew hb1 hmx
  · have tdi : decide ((d : Int) ≤ 0) = false := decide_eq_false (by omega)
    have ta5 : decide ((a : Int) < 5) = false := decide_eq_false (by omega)
    obtain ⟨d, rfl⟩ : ∃ d', d = d' + 1 := ⟨d - 1, by omega⟩
    have hdi : ((d + 1 : Nat) : Int) - 1 = (d : Int) := by omega
    have hbnd : at' * 2 + 2 ≤ 1000 / 4 ^ d := by
      have hd2 : d = 0 ∨ d = 1 := by omega
      rcases hd2 with rfl | rfl
      · simp at hat ⊢; omega
      · simp at hat ⊢; omega
    have HX := IH d rfl (at' * 2 + 1) w1 (hc.below hb1) (by omega)
    have HCW : Hid (∀ W, Below w.heap.size w W → Code W ao n) := fun W hW => hc.below hW
    have HIH := IH d rfl
    clear IH hc
    go_wp2_with fail
    refine HX.mono ?_
    rintro e w2 ⟨gx, cx, lx, X, rfl, hlx, hgx, hrx, hX, hb2⟩
    have hbw2 := Below.step hb1 hb2
    have hs2 := hbw2.size
    have hs1 := hb1.size
    have hXl := hX.len
    have hmd : maxW d ≤ 3 := by
      have hd2 : d = 0 ∨ d = 1 := by omega
      rcases hd2 with rfl | rfl <;> simp [maxW]
    have hmx : maxW (d + 1) = 2 * maxW d + 1 := rfl
    clear HX hb2 hb1
    by_cases ha7 : a < 7
    · have ta7 : decide ((a : Int) < 7) = true := decide_eq_true (by omega)
      have h56 : a = 5 ∨ a = 6 := by omega
      obtain ⟨O, hO⟩ : ∃ O : Obj, (Obj.cells #[.string ⟨#[108, 105, 115, 116]⟩, .string ⟨#[114, 101, 102]⟩] 9) = O := ⟨_, rfl⟩
      have hB2 : Below w2.heap.size w2 (w2.alloc O) := (Below.refl _ w2).alloc (Nat.le_refl _) _
      have hsz : (w2.alloc O).heap.size = w2.heap.size + 1 := by simp
      have HLi := one_list (w2.alloc O) (c := cx) hlx (hrx.below hB2)
      have hB3 : Below w.heap.size w ((w2.alloc O).alloc (.cells #[.slice (some ⟨gx, 0, none⟩) lx cx] 27)) := (hbw2.alloc hs2 O).alloc (by omega) _
      rw [hsz] at HLi
      have HJ : Hid (∀ tx : ByteArray, Calls Tryz.prog 15 #[.agg #[.int .i64 12, .int .i64 0, .string tx, .int .i64 0, .int .i64 0], .slice (some ⟨w2.heap.size + 1, 0, none⟩) 1 1] ((w2.alloc O).alloc (.cells #[.slice (some ⟨gx, 0, none⟩) lx cx] 27)) fun e w' => DrewW w (maxW (d + 1)) e w') := by
        intro tx
        have h9 := specJoin_any ⟨12, 0, tx, 0, 0⟩ [X] 1 rfl _ 1 _ HLi (by simp [total]; omega) (by omega)
        simp only at h9
        refine h9.mono ?_
        rintro e w5 ⟨v, rfl, hH, hb6⟩
        obtain ⟨g9, c9, rfl, hg9, _⟩ := hH.row (by simp)
        have hO9 : OwnN w5 _ g9 c9 ([X].flatten ++ [(⟨12, 0, tx, 1, 0⟩ : Nd)]).length ([X].flatten ++ [(⟨12, 0, tx, 1, 0⟩ : Nd)]) := ⟨rfl, hH⟩
        simp at hg9
        exact ⟨g9, c9, _, _, rfl, rfl, by omega, hO9.row.2, (hX.join1 tx).mono (by rw [hmx]; have := maxW_1 d; omega), Below.step hB3 hb6⟩
      clear HIH HCW hrx hX HLi hB2 hbw2
      subst hO
      rcases h56 with rfl | rfl
      all_goals
        go_wp2_with fail
        refine (HJ.out _).mono ?_
        rintro e w5 ⟨g9, c9, l9, zs, rfl, h1, h2, h3, h4, h5⟩
        go_wp2
        go_ret
        exact ⟨g9, c9, l9, zs, rfl, h1, h2, h3, h4, h5⟩
    · have ta7 : decide ((a : Int) < 7) = false := decide_eq_false (by omega)
      have HY := HIH (at' * 2 + 2) w2 (HCW.out w2 hbw2) hbnd
      clear HIH HCW
      go_wp2_with fail
      refine HY.mono ?_
      rintro e w3 ⟨gy, cy, ly, Y, rfl, hly, hgy, hry, hY, hb3⟩
      have hrx3 := hrx.below hb3
      have hbw3 := Below.step hbw2 hb3
      have hs3 := hbw3.size
      have hYl := hY.len
      have HLi := xy_lists w3 (c := cx) (c' := cy) hlx hly hrx3 hry
      have hB3 : Below w.heap.size w (w3.alloc (.cells #[.slice (some ⟨gx, 0, none⟩) lx cx, .slice (some ⟨gy, 0, none⟩) ly cy] 27)) := hbw3.alloc hs3 _
      have HJ : Hid (∀ k : Int, (k = 13 ∨ k = 14) → Calls Tryz.prog 15 #[.agg #[.int .i64 k, .int .i64 0, .string ⟨#[]⟩, .int .i64 0, .int .i64 0], .slice (some ⟨w3.heap.size, 0, none⟩) 2 2] (w3.alloc (.cells #[.slice (some ⟨gx, 0, none⟩) lx cx, .slice (some ⟨gy, 0, none⟩) ly cy] 27)) fun e w' => DrewW w (maxW (d + 1)) e w') := by
        intro k hk
        have h9 := specJoin_any ⟨k, 0, ⟨#[]⟩, 0, 0⟩ [X, Y] 2 rfl _ 2 _ HLi (by simp [total]; omega) (by omega)
        simp only at h9
        refine h9.mono ?_
        rintro e w5 ⟨v, rfl, hH, hb6⟩
        obtain ⟨g9, c9, rfl, hg9, _⟩ := hH.row (by simp)
        have hO9 : OwnN w5 _ g9 c9 ([X, Y].flatten ++ [(⟨k, 0, ⟨#[]⟩, 2, 0⟩ : Nd)]).length ([X, Y].flatten ++ [(⟨k, 0, ⟨#[]⟩, 2, 0⟩ : Nd)]) := ⟨rfl, hH⟩
        simp at hg9
        exact ⟨g9, c9, _, _, rfl, rfl, by omega, hO9.row.2, hX.join2 hY k hk, Below.step hB3 hb6⟩
      clear hrx hX HLi hbw2 hrx3 hry hY hb3 HY
      by_cases h7 : a = 7
      · subst h7
        go_wp2_with fail
        refine (HJ.out 14 (.inr rfl)).mono ?_
        rintro e w5 ⟨g9, c9, l9, zs, rfl, h1, h2, h3, h4, h5⟩
        go_wp2
        go_ret
        exact ⟨g9, c9, l9, zs, rfl, h1, h2, h3, h4, h5⟩
      · have t7 : ((a : Int) == 7) = false := by simp; omega
        go_wp2_with fail
        refine (HJ.out 13 (.inl rfl)).mono ?_
        rintro e w5 ⟨g9, c9, l9, zs, rfl, h1, h2, h3, h4, h5⟩
        go_wp2
        go_ret
        exact ⟨g9, c9, l9, zs, rfl, h1, h2, h3, h4, h5⟩

theorem wType_any (n : Nat) (hn : n ≤ 1048576) (ao : Option Addr) (cap : Nat) (d : Nat) (hd5 : d ≤ 2) (at' : Nat) (w : World) (hc : Code w ao n) (hat : at' ≤ 1000 / 4 ^ d) :
    Calls Tryz.prog 19 #[.slice ao n cap, .int .i64 (at' : Int), .int .i64 (d : Int)] w fun e w' => DrewW w (maxW d) e w' := by
  induction d generalizing at' w with
  | zero => exact wType_step n hn ao cap 0 (by omega) (fun d' h => by omega) at' w hc hat
  | succ d ih =>
    refine wType_step n hn ao cap (d + 1) hd5 (fun d' h p' w' hc' hp' => ?_) at' w hc hat
    obtain rfl : d' = d := by omega
    exact ih (by omega) p' w' hc' hp'

/-- Binds that were drawn, one by one. -/
structure LB (w : World) (B g c : Nat) (bs : List (Int × List Nd)) (ps : List (Value × Value)) : Prop where
  own : OwnBs w B g c bs.length ps
  rows : ∀ j (h : j < bs.length), ∃ gj cj, ps[j]? = some (.int .i64 bs[j].1, .slice (some ⟨gj, 0, none⟩) bs[j].2.length cj) ∧ Row w gj bs[j].2

theorem LB.empty {w : World} {B : Nat} (hB : B ≤ w.heap.size) : LB (w.alloc (.cells #[] 37)) B w.heap.size 0 [] [] :=
  ⟨OwnBs.empty hB, fun j h => by simp at h⟩

theorem LB.block {w : World} {B g c : Nat} {bs : List (Int × List Nd)} {ps : List (Value × Value)} (h : LB w B g c bs ps) : B ≤ g ∧ g < w.heap.size := owns_block h.own.2

theorem LB.ne {w : World} {B g c gj : Nat} {bs : List (Int × List Nd)} {ps : List (Value × Value)} {ks : List Nd} (h : LB w B g c bs ps) (hr : Row w gj ks) : gj ≠ g := by
  intro e
  subst e
  obtain ⟨_, h9⟩ := h.own.2
  rcases h9 with ⟨h0, _⟩ | ⟨g2, cap2, cur, he, _, hh, _⟩
  · cases h0
  · simp only [Value.slice.injEq, Option.some.injEq, Addr.mk.injEq, and_true, true_and] at he
    obtain ⟨rfl, rfl⟩ := he
    obtain ⟨cur', rest, hc, _⟩ := hr
    rw [hh] at hc
    simp at hc

theorem LB.but {S : Nat → Prop} {w w' : World} {B g c : Nat} {bs : List (Int × List Nd)} {ps : List (Value × Value)} (h : LB w B g c bs ps) (hb : But S w w') (hg : ¬ S g) (hS : ∀ k, S k → ∀ cs f, w.heap[k]? ≠ some (.cells cs 40 f)) : LB w' B g c bs ps :=
  ⟨h.own.but hb hg, fun j hj => by
    obtain ⟨gj, cj, e, hr⟩ := h.rows j hj
    refine ⟨gj, cj, e, hb.row hr ?_⟩
    intro h9
    obtain ⟨cur, rest, hc, _⟩ := hr
    exact hS _ h9 _ _ hc⟩

theorem LB.below {w w' : World} {B g c : Nat} {bs : List (Int × List Nd)} {ps : List (Value × Value)} (h : LB w B g c bs ps) (hb : Below w.heap.size w w') : LB w' B g c bs ps :=
  h.but (S := fun _ => False) (But.ofBelow hb) (fun h => h) (fun _ h => h.elim)

theorem LB.binds {w : World} {B g c : Nat} {bs : List (Int × List Nd)} {ps : List (Value × Value)} (h : LB w B g c bs ps) : Binds w (some ⟨g, 0, none⟩) bs := by
  intro j hj
  obtain ⟨gj, cj, e, hr⟩ := h.rows j hj
  obtain ⟨_, ho⟩ := h.own.row
  have hl : ps.length = bs.length := h.own.1
  have hlt : j < ps.length := by omega
  have e2 : ps[j] = (.int .i64 bs[j].1, .slice (some ⟨gj, 0, none⟩) bs[j].2.length cj) := by
    rw [List.getElem?_eq_getElem hlt] at e
    simpa using e
  obtain ⟨c0, c1⟩ := cells2_get ps j hlt
  rw [e2] at c0 c1
  have hcl := cells2_length ps
  refine ⟨g, 0, some ⟨gj, 0, none⟩, cj, rfl, ?_, ?_, hr.nodes⟩
  · rw [Nat.zero_add]
    exact (OwnT.at ho (j * 2) (by omega)).trans c0
  · rw [Nat.zero_add]
    exact (OwnT.at ho (j * 2 + 1) (by omega)).trans c1

/-- The block of a slice of Binds holds no nodes. -/
theorem LB.kind {w : World} {B g c : Nat} {bs : List (Int × List Nd)} {ps : List (Value × Value)} (h : LB w B g c bs ps) : ∀ cs f, w.heap[g]? ≠ some (.cells cs 40 f) := by
  intro cs f e
  obtain ⟨_, ho⟩ := h.own.row
  obtain ⟨cur, rest, hc, _⟩ := ho
  rw [hc] at e
  simp at e

theorem LB.push {w w' : World} {B g c g2 c2 gn cn : Nat} {bs : List (Int × List Nd)} {ps : List (Value × Value)} {x : Int} {ks : List Nd} (h : LB w B g c bs ps) (hg : w.grownBy w' (some g)) (hr : Row w gn ks)
    (ho : w'.ownsRow B 37 2 (.slice (some ⟨g2, 0, none⟩) (bs.length + 1) c2) (bs.length + 1) (cells2 ps ++ [.int .i64 x, .slice (some ⟨gn, 0, none⟩) ks.length cn])) :
    LB w' B g2 c2 (bs ++ [(x, ks)]) (ps ++ [(.int .i64 x, .slice (some ⟨gn, 0, none⟩) ks.length cn)]) := by
  have hvl : ps.length = bs.length := h.own.1
  have hbut : But (· = g) w w' := (But.refl (· = g) w).grown hg (fun _ => rfl)
  have kept : ∀ {q : Nat} {zs : List Nd}, Row w q zs → Row w' q zs := fun {q zs} hq => hbut.row hq (h.ne hq)
  have hO := OwnBs.push (x := (.int .i64 x, .slice (some ⟨gn, 0, none⟩) ks.length cn)) ho hvl rfl
  refine ⟨by simpa using hO, ?_⟩
  intro j hj
  by_cases hji : j < bs.length
  · obtain ⟨gj, cj, e, hr'⟩ := h.rows j hji
    refine ⟨gj, cj, ?_, ?_⟩
    · rw [List.getElem?_append_left (by omega), List.getElem_append_left hji]
      exact e
    · rw [List.getElem_append_left hji]
      exact kept hr'
  · have hje : j = bs.length := by simp at hj; omega
    subst hje
    refine ⟨gn, cn, ?_, ?_⟩
    · rw [List.getElem?_append_right (by omega)]
      simp [hvl]
    · simp only [List.getElem_append_right (Nat.le_refl _), Nat.sub_self, List.getElem_cons_zero]
      exact kept hr

/-- Numbers and types of drawn Binds. -/
def BindOk (bs : List (Int × List Nd)) : Prop := ∀ b ∈ bs, (-1 ≤ b.1 ∧ b.1 ≤ 1000) ∧ NumD b.2 ∧ b.2.length ≤ 63

theorem BindOk.snoc {bs : List (Int × List Nd)} {x : Int} {ks : List Nd} (h : BindOk bs) (h0 : -1 ≤ x) (h1 : x ≤ 1000) (hk : NumD ks) (hl : ks.length ≤ 63) : BindOk (bs ++ [(x, ks)]) := by
  intro b hb
  rcases List.mem_append.1 hb with hb | hb
  · exact h b hb
  · simp at hb
    subst hb
    exact ⟨⟨h0, h1⟩, hk, hl⟩

/-- One of two lists. -/
abbrev FL := Nat × Nat × List (Int × List Nd) × List (Value × Value)
def FL.val (f : FL) : Value := .slice (some ⟨f.1, 0, none⟩) f.2.2.1.length f.2.1

/-- Two slices of Binds, in a slice. -/
structure Fill (w : World) (B G : Nat) (F : Nat → FL) : Prop where
  box : OwnT 25 w G [(F 0).val, (F 1).val]
  at' : ∀ j, j < 2 → LB w B (F j).1 (F j).2.1 (F j).2.2.1 (F j).2.2.2
  ok : ∀ j, j < 2 → BindOk (F j).2.2.1
  ne : (F 0).1 ≠ (F 1).1

theorem Fill.below {w w' : World} {B G : Nat} {F : Nat → FL} (h : Fill w B G F) (hb : Below w.heap.size w w') : Fill w' B G F :=
  ⟨OwnT.below h.box hb, fun j hj => (h.at' j hj).below hb, h.ok, h.ne⟩

theorem Fill.cell {w : World} {B G : Nat} {F : Nat → FL} (h : Fill w B G F) (j : Nat) (hj : j < 2) : w.cell? ⟨G, j, none⟩ = some (F j).val := by
  rw [OwnT.at h.box j (by simpa using hj)]
  match j, hj with
  | 0, _ => rfl
  | 1, _ => rfl

theorem Fill.neG {w : World} {B G : Nat} {F : Nat → FL} (h : Fill w B G F) (j : Nat) (hj : j < 2) : (F j).1 ≠ G := by
  intro e
  obtain ⟨_, ho⟩ := (h.at' j hj).own.row
  obtain ⟨cur, rest, hc, _⟩ := ho
  obtain ⟨cur', rest', hc', _⟩ := h.box
  rw [e, hc'] at hc
  simp at hc

/-- One Bind more in list k: behind the append and the store. -/
theorem Fill.step {w w' : World} {B G g2 c2 gn cn k : Nat} {F : Nat → FL} {x : Int} {ks : List Nd} (h : Fill w B G F) (hk : k < 2) (hg : w.grownBy w' (some (F k).1)) (hr : Row w gn ks) (hw : g2 = (F k).1 ∨ g2 = w.heap.size)
    (ho : w'.ownsRow B 37 2 (.slice (some ⟨g2, 0, none⟩) ((F k).2.2.1.length + 1) c2) ((F k).2.2.1.length + 1) (cells2 (F k).2.2.2 ++ [.int .i64 x, .slice (some ⟨gn, 0, none⟩) ks.length cn]))
    (h0 : -1 ≤ x) (h1 : x ≤ 1000) (hn : NumD ks) (hl : ks.length ≤ 63) :
    ∃ F', Fill (w'.setCell ⟨G, k, none⟩ (.slice (some ⟨g2, 0, none⟩) ((F k).2.2.1.length + 1) c2)) B G F' ∧ (F' k).2.2.1.length = (F k).2.2.1.length + 1 ∧ ∀ j, j < 2 → j ≠ k → F' j = F j := by
  have hbut : But (· = (F k).1) w w' := (But.refl _ w).grown hg (fun _ => rfl)
  have hGne := h.neG k hk
  have hLB := (h.at' k hk).push (cn := cn) hg hr ho
  have hset : But (· = G) w' (w'.setCell ⟨G, k, none⟩ (.slice (some ⟨g2, 0, none⟩) ((F k).2.2.1.length + 1) c2)) := (But.refl (· = G) w').setCell (p := ⟨G, k, none⟩) rfl _
  have hbox := OwnT.but h.box hbut (fun e => hGne e.symm)
  have hkindG : ∀ cs f, w'.heap[G]? ≠ some (.cells cs 40 f) := by
    intro cs f e
    obtain ⟨cur, rest, hc, _⟩ := hbox
    rw [hc] at e
    simp at e
  have hg2G : g2 ≠ G := by
    intro e
    obtain ⟨_, hob⟩ := hLB.own.row
    obtain ⟨cur, rest, hc, _⟩ := hob
    obtain ⟨cur', rest', hc', _⟩ := hbox
    rw [e, hc'] at hc
    simp at hc
  refine ⟨fun j => if j = k then (g2, c2, (F k).2.2.1 ++ [(x, ks)], (F k).2.2.2 ++ [(.int .i64 x, .slice (some ⟨gn, 0, none⟩) ks.length cn)]) else F j, ⟨?_, ?_, ?_, ?_⟩, ?_, ?_⟩
  · have h9 := OwnT.set hbox k (.slice (some ⟨g2, 0, none⟩) ((F k).2.2.1.length + 1) c2) (by simpa using hk)
    have hk2 : k = 0 ∨ k = 1 := by omega
    rcases hk2 with rfl | rfl
    · simpa [FL.val] using h9
    · simpa [FL.val] using h9
  · intro j hj
    by_cases hjk : j = k
    · rw [if_pos hjk]
      exact hLB.but hset hg2G (fun q hq => by subst hq; exact hkindG)
    · rw [if_neg hjk]
      have hne : (F j).1 ≠ (F k).1 := by
        have := h.ne
        have hjk2 : (j = 0 ∧ k = 1) ∨ (j = 1 ∧ k = 0) := by omega
        rcases hjk2 with ⟨rfl, rfl⟩ | ⟨rfl, rfl⟩
        · exact this
        · exact fun e => this e.symm
      have h8 := (h.at' j hj).but hbut hne (fun q hq => by subst hq; exact (h.at' k hk).kind)
      exact h8.but hset (h.neG j hj) (fun q hq => by subst hq; exact hkindG)
  · intro j hj
    by_cases hjk : j = k
    · rw [if_pos hjk]
      exact (h.ok k hk).snoc h0 h1 hn hl
    · rw [if_neg hjk]
      exact h.ok j hj
  · have hlt := fun j (hj : j < 2) => (h.at' j hj).block.2
    have hne := h.ne
    have hk2 : k = 0 ∨ k = 1 := by omega
    rcases hk2 with rfl | rfl
    · have := hlt 1 (by omega)
      show g2 ≠ (F 1).1
      rcases hw with e | e
      · rw [e]; exact hne
      · omega
    · have := hlt 0 (by omega)
      show (F 0).1 ≠ g2
      rcases hw with e | e
      · rw [e]; exact hne
      · omega
  · simp
  · intro j _ hjk
    simp [hjk]

/-- A filling of the first k unknowns with types that have none. -/
def FillOk (k : Nat) (fs : List (Int × List Nd)) : Prop := fs.length = k ∧ ∀ j (h : j < fs.length), fs[j].1 = (j : Int) + 1 ∧ Shut 7 fs[j].2

theorem FillOk.snoc {k : Nat} {fs : List (Int × List Nd)} {t : List Nd} (h : FillOk k fs) (ht : Shut 7 t) : FillOk (k + 1) (fs ++ [((k : Int) + 1, t)]) := by
  refine ⟨by simp [h.1], fun j hj => ?_⟩
  by_cases hjl : j < fs.length
  · rw [List.getElem_append_left hjl]
    exact h.2 j hjl
  · have hje : j = fs.length := by simp at hj; omega
    subst hje
    simp only [List.getElem_append_right (Nat.le_refl _), Nat.sub_self, List.getElem_cons_zero]
    exact ⟨by rw [h.1], ht⟩

set_option maxRecDepth 100000 in
set_option maxHeartbeats 4000000 in
theorem wFilling_any (n : Nat) (hn : n ≤ 1048576) (ao : Option Addr) (cap : Nat) (w : World) (hc : Code w ao n) :
    Calls Tryz.prog 5 #[.slice ao n cap, .int .i64 8] w fun e w' => ∃ (g c : Nat) (fs : List (Int × List Nd)), e = .returned (.slice (some ⟨g, 0, none⟩) 8 c) ∧ Binds w' (some ⟨g, 0, none⟩) fs ∧ FillOk 8 fs ∧ Below w.heap.size w w' := by
  obtain ⟨i1, hj1, hy0, hy1, hy2⟩ := info_parts Tryz.infoB
  have hL0 := LB.empty (w := w) (B := w.heap.size) (Nat.le_refl _)
  have hbA : Below w.heap.size w (w.alloc (.cells #[] 37)) := (Below.refl _ w).alloc (Nat.le_refl _) _
  go_enter Tryz.func5, Tryz.ntmps5
  go_wp2
  go_loopw [5, 6] (fun ov iv wr => ∃ (k g c : Nat) (fs : List (Int × List Nd)) (vs : List (Value × Value)), k ≤ 8 ∧ iv = .int .i64 ((k : Int) + 1) ∧ ov = .slice (some ⟨g, 0, none⟩) k c ∧ LB wr w.heap.size g c fs vs ∧ Hid (FillOk k fs) ∧ Below w.heap.size w wr) (fun _ iv _ => 9 - (intOf iv).toNat)
  case atStart => exact ⟨0, w.heap.size, 0, [], [], Nat.zero_le _, rfl, rfl, hL0, ⟨rfl, fun j h => by simp at h⟩, hbA⟩
  case round =>
    clear hL0 hbA
    obtain ⟨k, g, c, fs, vs, hk, rfl, rfl, hL, HF, hbr⟩ := hrel
    by_cases hlt : k < 8
    · have tlt : decide (((k : Int) + 1) ≤ 8) = true := decide_eq_true (by omega)
      obtain ⟨at', hat⟩ : ∃ at' : Nat, 3 * (k + 1) = at' := ⟨_, rfl⟩
      have hati : (3 : Int) * ((k : Int) + 1) = (at' : Int) := by omega
      have HW := wType_any n hn ao cap 2 (by omega) at' wr (hc.below hbr) (by simp; omega)
      have hm2 : maxW 2 = 7 := rfl
      rw [hm2] at HW
      clear hat
      go_wp2_with fail
      refine HW.mono ?_
      rintro e w3 ⟨gt, ct, lt, T, rfl, hlt', hgt, hrt, hT, hb3⟩
      have hL3 := hL.below hb3
      have hbr3 := Below.step hbr hb3
      have hs3 := hb3.size
      have hTl := hT.len
      have hB4 : Below w3.heap.size w3 (w3.alloc (.cells #[.int .i64 ((k : Int) + 1), .slice (some ⟨gt, 0, none⟩) lt ct] 37)) := (Below.refl _ w3).alloc (Nat.le_refl _) _
      have hL4 := hL3.below hB4
      have hrt4 := hrt.below hB4
      have hown4 := hL4.own.2
      rw [HF.out.1] at hown4
      have hgb := hL3.block
      have HL4 : Hid (LB (w3.alloc (.cells #[.int .i64 ((k : Int) + 1), .slice (some ⟨gt, 0, none⟩) lt ct] 37)) w.heap.size g c fs vs) := hL4
      have HLT : Hid (T.length = lt) := hlt'
      have HTS : Hid (Shut 7 T) := hT
      clear HW hL hL3 hL4 hB4 hb3 hbr hlt' hrt hT
      go_wp2_with (at_builtin; refine wpList_append2 _ rfl (.tmp 13) (.tmp 20) 25 rfl w.heap.size 37 i1 _ 2 32 Tryz.underlying25 hj1 hy0 hy1 hy2 rfl (by decide) g k c _ rfl hown4 ⟨_, 0, none⟩ 1 1 [.int .i64 ((k : Int) + 1), .slice (some ⟨gt, 0, none⟩) lt ct] rfl rfl (bind_cells _ _ _) (bind_one _ _ _ _) ?b3 ?b4 ?b5 ?_)
      case b3 => unfold maxLen; omega
      case b4 => omega
      case b5 => have := hbr3.size; simp; omega
      intro g2 c2 w8 hown8 hgrow8 hwh8
      have hL8 := HL4.out.push (cn := ct) (x := (k : Int) + 1) hgrow8 hrt4 (by rw [HF.out.1, HLT.out]; exact hown8)
      have hb8 : Below w.heap.size w w8 := (hbr3.alloc hbr3.size _).grown hgrow8 (hbr3.alloc hbr3.size _).size (fun j hj => by cases hj; exact hgb.1)
      have HF8 : Hid (FillOk (k + 1) (fs ++ [((k : Int) + 1, T)])) := HF.out.snoc HTS.out
      clear hown8 hgrow8 hwh8 hown4 hrt4 HL4 hbr3
      go_wp2
      go_roundw
      case rel => exact ⟨k + 1, g2, c2, _, _, by omega, by go_num, rfl, hL8, HF8, hb8⟩
      case measure => simp [intOf]; omega
    · have tlt : decide (((k : Int) + 1) ≤ 8) = false := decide_eq_false (by omega)
      have hk8 : k = 8 := by omega
      subst hk8
      have hbi := hL.binds
      clear hL
      go_wp2
      go_ret
      exact ⟨g, c, fs, rfl, hbi, HF.out, hbr⟩

end Go.Proofs.YthioecjcnajmgaaGreatDoor

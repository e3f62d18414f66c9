import Derived.Test.YtoiiibplkhedcaaGreatDoorWBS
set_option maxRecDepth 100000
set_option maxHeartbeats 8000000
namespace Go.Proofs.YtoiiibplkhedcaaGreatDoor
open Go.RowKit
structure Shut (L : Nat) (t : List Nd) : Prop where
  one : One t
  plain : t.all Nd.plainb = true
  metas : metas t = []
  len : t.length ≤ L
  zero : ∀ n ∈ t, n.num = 0
theorem Shut.leaf (tx : ByteArray) : Shut 1 [⟨12, 0, tx, 0, 0⟩] := ⟨Qoq _ rfl, by simp [Nd.plainb], by simp [Go.Proofs.YtoiiibplkhedcaaGreatDoor.metas], by simp, fun n hn => by simp at hn; subst hn; rfl⟩
theorem Shut.mono {L L' : Nat} {t : List Nd} (h : Shut L t) (hl : L ≤ L') : Shut L' t := ⟨h.one, h.plain, h.metas, Nat.le_trans h.len hl, h.zero⟩
theorem Shut.join1 {L : Nat} {x : List Nd} (hx : Shut L x) (tx : ByteArray) : Shut (L + 1) ([x].flatten ++ [⟨12, 0, tx, 1, 0⟩]) := by
  refine ⟨One.join (fun y hy => by simp at hy; subst hy; exact hx.one) (by simp), ?_, ?_, ?_, ?_⟩
  · simp only [List.flatten_cons, List.flatten_nil, List.append_nil, List.all_append, hx.plain, Bool.true_and]
    simp [Nd.plainb]
  · simp only [List.flatten_cons, List.flatten_nil, List.append_nil, Qau, hx.metas]
    simp [Go.Proofs.YtoiiibplkhedcaaGreatDoor.metas]
  · have := hx.len
    simp
    omega
  · intro n hn
    rcases List.mem_append.1 hn with h | h
    · exact hx.zero n (by simpa using h)
    · simp at h; subst h; rfl
theorem Shut.join2 {L : Nat} {x y : List Nd} (hx : Shut L x) (hy : Shut L y) (k : Int) (hk : k = 13 ∨ k = 14) : Shut (2 * L + 1) ([x, y].flatten ++ [⟨k, 0, ⟨#[]⟩, 2, 0⟩]) := by
  refine ⟨One.join (fun z hz => by simp at hz; rcases hz with rfl | rfl; exact hx.one; exact hy.one) (by simp), ?_, ?_, ?_, ?_⟩
  · simp only [List.flatten_cons, List.flatten_nil, List.append_nil, List.all_append, hx.plain, hy.plain, Bool.true_and]
    rcases hk with rfl | rfl <;> simp [Nd.plainb] <;> rfl
  · simp only [List.flatten_cons, List.flatten_nil, List.append_nil, Qau, hx.metas, hy.metas]
    rcases hk with rfl | rfl <;> simp [Go.Proofs.YtoiiibplkhedcaaGreatDoor.metas]
  · have := hx.len
    have := hy.len
    simp
    omega
  · intro n hn
    rcases List.mem_append.1 hn with h | h
    · simp at h
      rcases h with h | h
      · exact hx.zero n h
      · exact hy.zero n h
    · simp at h; subst h; rfl
def Qul (w : World) (L : Nat) (e : Ending) (w' : World) : Prop := ∃ (g c l : Nat) (zs : List Nd), e = .returned (.slice (some ⟨g, 0, none⟩) l c) ∧ zs.length = l ∧ w.heap.size ≤ g ∧ Row w' g zs ∧ Shut L zs ∧ Below w.heap.size w w'
theorem Qzr (n : Nat) (hn : n ≤ 1048576) (ao : Option Addr) (cap i : Nat) (hi : i ≤ 1000) (w : World) (hc : Code w ao n) :
    Calls Tryz.prog 54 #[.slice ao n cap, .int .i64 (i : Int)] w fun e w' => ∃ v : Nat, e = .returned (.int .i64 (v : Int)) ∧ v ≤ 1000 ∧ Below w.heap.size w w' := by
  by_cases h0 : n = 0
  · subst h0
    clear hc
    go_enter Tryz.func54, Tryz.ntmps54
    go_wp2
    go_ret
    exact ⟨i, rfl, hi, Below.refl _ _⟩
  · have t0 : ((n : Int) == 0) = false := by simp; omega
    obtain ⟨r, hr⟩ : ∃ r, i % n = r := ⟨_, rfl⟩
    have him : r < n := by rw [← hr]; exact Nat.mod_lt _ (by omega)
    have hmi : ((i : Int) % (n : Int)) = (r : Int) := by omega
    have hmt : (i : Int).tmod (n : Int) = (r : Int) := by rw [← hmi]; exact Int.tmod_eq_emod_of_nonneg (by omega)
    obtain ⟨b, o, v, rfl, hcell, hv⟩ := hc r him
    clear hc hr
    go_enter Tryz.func54, Tryz.ntmps54
    go_wp2
    go_ret
    exact ⟨v, rfl, by omega, Below.refl _ _⟩
def maxW : Nat → Nat
  | 0 => 1
  | d + 1 => 2 * maxW d + 1
theorem Jbf (d : Nat) : 1 ≤ maxW d := by cases d <;> simp [maxW]
theorem Qzv (W : World) {q l c : Nat} {x : List Nd} (hl : x.length = l) (hr : Row W q x) : Lists (W.alloc (.cells #[.slice (some ⟨q, 0, none⟩) l c] 23)) (some ⟨W.heap.size, 0, none⟩) [x] := by
  have hB : Below W.heap.size W (W.alloc (.cells #[.slice (some ⟨q, 0, none⟩) l c] 23)) := (Below.refl _ W).alloc (Nat.le_refl _) _
  intro i hi
  have h0 : i = 0 := by simp at hi; omega
  subst h0
  refine ⟨W.heap.size, 0, some ⟨q, 0, none⟩, c, rfl, ?_, (hr.below hB).nodes⟩
  rw [cell_of_row _ _ _ _ _ _ (heap_alloc_new _ _)]
  simp [hl]
theorem Qys (W : World) {q l c q' l' c' : Nat} {x y : List Nd} (hl : x.length = l) (hl' : y.length = l') (hr : Row W q x) (hr' : Row W q' y) : Lists (W.alloc (.cells #[.slice (some ⟨q, 0, none⟩) l c, .slice (some ⟨q', 0, none⟩) l' c'] 23)) (some ⟨W.heap.size, 0, none⟩) [x, y] := by
  have hB : Below W.heap.size W (W.alloc (.cells #[.slice (some ⟨q, 0, none⟩) l c, .slice (some ⟨q', 0, none⟩) l' c'] 23)) := (Below.refl _ W).alloc (Nat.le_refl _) _
  intro i hi
  have h2 : i = 0 ∨ i = 1 := by simp at hi; omega
  rcases h2 with rfl | rfl
  · refine ⟨W.heap.size, 0, some ⟨q, 0, none⟩, c, rfl, ?_, (hr.below hB).nodes⟩
    rw [cell_of_row _ _ _ _ _ _ (heap_alloc_new _ _)]
    simp [hl]
  · refine ⟨W.heap.size, 0, some ⟨q', 0, none⟩, c', rfl, ?_, (hr'.below hB).nodes⟩
    rw [cell_of_row _ _ _ _ _ _ (heap_alloc_new _ _)]
    simp [hl']
theorem Qop {w w1 : World} {L : Nat} {o : Obj} {tx : ByteArray} (hb1 : Below w.heap.size w w1) (hL : 1 ≤ L) :
    Qul w L (.returned (.slice (some ⟨w1.heap.size + 1, 0, none⟩) 1 1)) ((w1.alloc o).alloc (.cells #[.int .i64 12, .int .i64 0, .string tx, .int .i64 0, .int .i64 0] 43)) := by
  have hb2 := hb1.alloc hb1.size o
  have hr := (OwnN.one (w := w1.alloc o) (B := (w1.alloc o).heap.size) (Nat.le_refl _) ⟨12, 0, tx, 0, 0⟩).row.2
  have e : (w1.alloc o).heap.size = w1.heap.size + 1 := by simp
  rw [e] at hr
  exact ⟨w1.heap.size + 1, 1, 1, [⟨12, 0, tx, 0, 0⟩], rfl, rfl, by have := hb1.size; omega, hr, (Shut.leaf tx).mono hL, hb2.alloc hb2.size _⟩
theorem Qld (n : Nat) (hn : n ≤ 1048576) (ao : Option Addr) (cap : Nat) (d : Nat) (hd5 : d ≤ 2)
    (IH : ∀ d', d' + 1 = d → ∀ (at' : Nat) (w : World), Code w ao n → at' ≤ 1000 / 4 ^ d' → Calls Tryz.prog 26 #[.slice ao n cap, .int .i64 (at' : Int), .int .i64 (d' : Int)] w fun e w' => Qul w (maxW d') e w')
    (at' : Nat) (w : World) (hc : Code w ao n) (hat : at' ≤ 1000 / 4 ^ d) :
    Calls Tryz.prog 26 #[.slice ao n cap, .int .i64 (at' : Int), .int .i64 (d : Int)] w fun e w' => Qul w (maxW d) e w' := by
  have hat2 : at' ≤ 1000 := Nat.le_trans hat (Nat.div_le_self _ _)
  go_enter Tryz.func26, Tryz.ntmps26
  go_wp2_with fail
  refine (Qzr n hn ao cap at' hat2 w hc).mono ?_
  rintro e w1 ⟨v, rfl, hv, hb1⟩
  obtain ⟨a, ha, ha9⟩ : ∃ a : Nat, v % 10 = a ∧ a < 10 := ⟨_, rfl, Nat.mod_lt _ (by omega)⟩
  have hai : ((v : Int) % 10) = (a : Int) := by omega
  have hat3 : (v : Int).tmod 10 = (a : Int) := by rw [← hai]; exact Int.tmod_eq_emod_of_nonneg (by omega)
  clear ha
  by_cases hbase : d = 0 ∨ a < 5
  · have hcase : a % 5 = 0 ∨ a % 5 = 1 ∨ a % 5 = 2 ∨ a % 5 = 3 ∨ a % 5 = 4 := by omega
    clear IH hc
    have hmx := Jbf d
    by_cases hd0 : d = 0
    · subst hd0
      rcases hcase with h5 | h5 | h5 | h5 | h5
      all_goals
        have h5i : ((a : Int) % 5) = ((a % 5 : Nat) : Int) := by omega
        rw [h5] at h5i
        go_wp2
        go_ret
        exact Qop hb1 hmx
    · have tdi : decide ((d : Int) ≤ 0) = false := decide_eq_false (by omega)
      have ha5 : a < 5 := by omega
      have ta5 : decide ((a : Int) < 5) = true := decide_eq_true (by omega)
      rcases hcase with h5 | h5 | h5 | h5 | h5
      all_goals
        have h5i : ((a : Int) % 5) = ((a % 5 : Nat) : Int) := by omega
        rw [h5] at h5i
        go_wp2
        go_ret
        exact Qop hb1 hmx
  · have tdi : decide ((d : Int) ≤ 0) = false := decide_eq_false (by omega)
    have ta5 : decide ((a : Int) < 5) = false := decide_eq_false (by omega)
    obtain ⟨d, rfl⟩ : ∃ d', d = d' + 1 := ⟨d - 1, by omega⟩
    have hdi : ((d + 1 : Nat) : Int) - 1 = (d : Int) := by omega
    have hbnd : at' * 2 + 2 ≤ 1000 / 4 ^ d := by
      have hd2 : d = 0 ∨ d = 1 := by omega
      rcases hd2 with rfl | rfl
      · simp at hat ⊢; omega
      · simp at hat ⊢; omega
    have HX := IH d rfl (at' * 2 + 1) w1 (hc.below hb1) (by omega)
    have HCW : Hid (∀ W, Below w.heap.size w W → Code W ao n) := fun W hW => hc.below hW
    have HIH := IH d rfl
    clear IH hc
    go_wp2_with fail
    refine HX.mono ?_
    rintro e w2 ⟨gx, cx, lx, X, rfl, hlx, hgx, hrx, hX, hb2⟩
    have hbw2 := Below.step hb1 hb2
    have hs2 := hbw2.size
    have hs1 := hb1.size
    have hXl := hX.len
    have hmd : maxW d ≤ 3 := by
      have hd2 : d = 0 ∨ d = 1 := by omega
      rcases hd2 with rfl | rfl <;> simp [maxW]
    have hmx : maxW (d + 1) = 2 * maxW d + 1 := rfl
    clear HX hb2 hb1
    by_cases ha7 : a < 7
    · have ta7 : decide ((a : Int) < 7) = true := decide_eq_true (by omega)
      have h56 : a = 5 ∨ a = 6 := by omega
      obtain ⟨O, hO⟩ : ∃ O : Obj, (Obj.cells #[.string ⟨#[108, 105, 115, 116]⟩, .string ⟨#[114, 101, 102]⟩] 9) = O := ⟨_, rfl⟩
      have hB2 : Below w2.heap.size w2 (w2.alloc O) := (Below.refl _ w2).alloc (Nat.le_refl _) _
      have hsz : (w2.alloc O).heap.size = w2.heap.size + 1 := by simp
      have HLi := Qzv (w2.alloc O) (c := cx) hlx (hrx.below hB2)
      have hB3 : Below w.heap.size w ((w2.alloc O).alloc (.cells #[.slice (some ⟨gx, 0, none⟩) lx cx] 23)) := (hbw2.alloc hs2 O).alloc (by omega) _
      rw [hsz] at HLi
      have HJ : Hid (∀ tx : ByteArray, Calls Tryz.prog 35 #[.agg #[.int .i64 12, .int .i64 0, .string tx, .int .i64 0, .int .i64 0], .slice (some ⟨w2.heap.size + 1, 0, none⟩) 1 1] ((w2.alloc O).alloc (.cells #[.slice (some ⟨gx, 0, none⟩) lx cx] 23)) fun e w' => Qul w (maxW (d + 1)) e w') := by
        intro tx
        have h9 := Qcz ⟨12, 0, tx, 0, 0⟩ [X] 1 rfl _ 1 _ HLi (by simp [Qfh]; omega) (by omega)
        simp only at h9
        refine h9.mono ?_
        rintro e w5 ⟨v, rfl, hH, hb6⟩
        obtain ⟨g9, c9, rfl, hg9, _⟩ := hH.row (by simp)
        have hO9 : OwnN w5 _ g9 c9 ([X].flatten ++ [(⟨12, 0, tx, 1, 0⟩ : Nd)]).length ([X].flatten ++ [(⟨12, 0, tx, 1, 0⟩ : Nd)]) := ⟨rfl, hH⟩
        simp at hg9
        exact ⟨g9, c9, _, _, rfl, rfl, by omega, hO9.row.2, (hX.join1 tx).mono (by rw [hmx]; have := Jbf d; omega), Below.step hB3 hb6⟩
      clear HIH HCW hrx hX HLi hB2 hbw2
      subst hO
      rcases h56 with rfl | rfl
      all_goals
        go_wp2_with fail
        refine (HJ.out _).mono ?_
        rintro e w5 ⟨g9, c9, l9, zs, rfl, h1, h2, h3, h4, h5⟩
        go_wp2
        go_ret
        exact ⟨g9, c9, l9, zs, rfl, h1, h2, h3, h4, h5⟩
    · have ta7 : decide ((a : Int) < 7) = false := decide_eq_false (by omega)
      have HY := HIH (at' * 2 + 2) w2 (HCW.out w2 hbw2) hbnd
      clear HIH HCW
      go_wp2_with fail
      refine HY.mono ?_
      rintro e w3 ⟨gy, cy, ly, Y, rfl, hly, hgy, hry, hY, hb3⟩
      have hrx3 := hrx.below hb3
      have hbw3 := Below.step hbw2 hb3
      have hs3 := hbw3.size
      have hYl := hY.len
      have HLi := Qys w3 (c := cx) (c' := cy) hlx hly hrx3 hry
      have hB3 : Below w.heap.size w (w3.alloc (.cells #[.slice (some ⟨gx, 0, none⟩) lx cx, .slice (some ⟨gy, 0, none⟩) ly cy] 23)) := hbw3.alloc hs3 _
      have HJ : Hid (∀ k : Int, (k = 13 ∨ k = 14) → Calls Tryz.prog 35 #[.agg #[.int .i64 k, .int .i64 0, .string ⟨#[]⟩, .int .i64 0, .int .i64 0], .slice (some ⟨w3.heap.size, 0, none⟩) 2 2] (w3.alloc (.cells #[.slice (some ⟨gx, 0, none⟩) lx cx, .slice (some ⟨gy, 0, none⟩) ly cy] 23)) fun e w' => Qul w (maxW (d + 1)) e w') := by
        intro k hk
        have h9 := Qcz ⟨k, 0, ⟨#[]⟩, 0, 0⟩ [X, Y] 2 rfl _ 2 _ HLi (by simp [Qfh]; omega) (by omega)
        simp only at h9
        refine h9.mono ?_
        rintro e w5 ⟨v, rfl, hH, hb6⟩
        obtain ⟨g9, c9, rfl, hg9, _⟩ := hH.row (by simp)
        have hO9 : OwnN w5 _ g9 c9 ([X, Y].flatten ++ [(⟨k, 0, ⟨#[]⟩, 2, 0⟩ : Nd)]).length ([X, Y].flatten ++ [(⟨k, 0, ⟨#[]⟩, 2, 0⟩ : Nd)]) := ⟨rfl, hH⟩
        simp at hg9
        exact ⟨g9, c9, _, _, rfl, rfl, by omega, hO9.row.2, hX.join2 hY k hk, Below.step hB3 hb6⟩
      clear hrx hX HLi hbw2 hrx3 hry hY hb3 HY
      by_cases h7 : a = 7
      · subst h7
        go_wp2_with fail
        refine (HJ.out 14 (.inr rfl)).mono ?_
        rintro e w5 ⟨g9, c9, l9, zs, rfl, h1, h2, h3, h4, h5⟩
        go_wp2
        go_ret
        exact ⟨g9, c9, l9, zs, rfl, h1, h2, h3, h4, h5⟩
      · have t7 : ((a : Int) == 7) = false := by simp; omega
        go_wp2_with fail
        refine (HJ.out 13 (.inl rfl)).mono ?_
        rintro e w5 ⟨g9, c9, l9, zs, rfl, h1, h2, h3, h4, h5⟩
        go_wp2
        go_ret
        exact ⟨g9, c9, l9, zs, rfl, h1, h2, h3, h4, h5⟩
theorem Qup (n : Nat) (hn : n ≤ 1048576) (ao : Option Addr) (cap : Nat) (d : Nat) (hd5 : d ≤ 2) (at' : Nat) (w : World) (hc : Code w ao n) (hat : at' ≤ 1000 / 4 ^ d) :
    Calls Tryz.prog 26 #[.slice ao n cap, .int .i64 (at' : Int), .int .i64 (d : Int)] w fun e w' => Qul w (maxW d) e w' := by
  induction d generalizing at' w with
  | zero => exact Qld n hn ao cap 0 (by omega) (fun d' h => by omega) at' w hc hat
  | succ d ih =>
    refine Qld n hn ao cap (d + 1) hd5 (fun d' h p' w' hc' hp' => ?_) at' w hc hat
    obtain rfl : d' = d := by omega
    exact ih (by omega) p' w' hc' hp'
structure LB (w : World) (B g c : Nat) (bs : List (Int × List Nd)) (ps : List (Value × Value)) : Prop where
  own : OwnBs w B g c bs.length ps
  rows : ∀ j (h : j < bs.length), ∃ gj cj, ps[j]? = some (.int .i64 bs[j].1, .slice (some ⟨gj, 0, none⟩) bs[j].2.length cj) ∧ Row w gj bs[j].2
theorem LB.empty {w : World} {B : Nat} (hB : B ≤ w.heap.size) : LB (w.alloc (.cells #[] 54)) B w.heap.size 0 [] [] :=
  ⟨OwnBs.empty hB, fun j h => by simp at h⟩
theorem LB.block {w : World} {B g c : Nat} {bs : List (Int × List Nd)} {ps : List (Value × Value)} (h : LB w B g c bs ps) : B ≤ g ∧ g < w.heap.size := Qad h.own.2
theorem LB.ne {w : World} {B g c gj : Nat} {bs : List (Int × List Nd)} {ps : List (Value × Value)} {ks : List Nd} (h : LB w B g c bs ps) (hr : Row w gj ks) : gj ≠ g := by
  intro e
  subst e
  obtain ⟨_, h9⟩ := h.own.2
  rcases h9 with ⟨h0, _⟩ | ⟨g2, cap2, cur, he, _, hh, _⟩
  · cases h0
  · simp only [Value.slice.injEq, Option.some.injEq, Addr.mk.injEq, and_true, true_and] at he
    obtain ⟨rfl, rfl⟩ := he
    obtain ⟨cur', rest, hc, _⟩ := hr
    rw [hh] at hc
    simp at hc
theorem LB.but {S : Nat → Prop} {w w' : World} {B g c : Nat} {bs : List (Int × List Nd)} {ps : List (Value × Value)} (h : LB w B g c bs ps) (hb : But S w w') (hg : ¬ S g) (hS : ∀ k, S k → ∀ cs f, w.heap[k]? ≠ some (.cells cs 43 f)) : LB w' B g c bs ps :=
  ⟨h.own.but hb hg, fun j hj => by
    obtain ⟨gj, cj, e, hr⟩ := h.rows j hj
    refine ⟨gj, cj, e, hb.row hr ?_⟩
    intro h9
    obtain ⟨cur, rest, hc, _⟩ := hr
    exact hS _ h9 _ _ hc⟩
theorem LB.below {w w' : World} {B g c : Nat} {bs : List (Int × List Nd)} {ps : List (Value × Value)} (h : LB w B g c bs ps) (hb : Below w.heap.size w w') : LB w' B g c bs ps :=
  h.but (S := fun _ => False) (But.ofBelow hb) (fun h => h) (fun _ h => h.elim)
theorem LB.binds {w : World} {B g c : Nat} {bs : List (Int × List Nd)} {ps : List (Value × Value)} (h : LB w B g c bs ps) : Binds w (some ⟨g, 0, none⟩) bs := by
  intro j hj
  obtain ⟨gj, cj, e, hr⟩ := h.rows j hj
  obtain ⟨_, ho⟩ := h.own.row
  have hl : ps.length = bs.length := h.own.1
  have hlt : j < ps.length := by omega
  have e2 : ps[j] = (.int .i64 bs[j].1, .slice (some ⟨gj, 0, none⟩) bs[j].2.length cj) := by
    rw [List.getElem?_eq_getElem hlt] at e
    simpa using e
  obtain ⟨c0, c1⟩ := Qlw ps j hlt
  rw [e2] at c0 c1
  have hcl := Qhm ps
  refine ⟨g, 0, some ⟨gj, 0, none⟩, cj, rfl, ?_, ?_, hr.nodes⟩
  · rw [Nat.zero_add]
    exact (OwnT.at ho (j * 2) (by omega)).trans c0
  · rw [Nat.zero_add]
    exact (OwnT.at ho (j * 2 + 1) (by omega)).trans c1
theorem LB.push {w w' : World} {B g c g2 c2 gn cn : Nat} {bs : List (Int × List Nd)} {ps : List (Value × Value)} {x : Int} {ks : List Nd} (h : LB w B g c bs ps) (hg : w.grownBy w' (some g)) (hr : Row w gn ks)
    (ho : w'.ownsRow B 54 2 (.slice (some ⟨g2, 0, none⟩) (bs.length + 1) c2) (bs.length + 1) (Qci ps ++ [.int .i64 x, .slice (some ⟨gn, 0, none⟩) ks.length cn])) :
    LB w' B g2 c2 (bs ++ [(x, ks)]) (ps ++ [(.int .i64 x, .slice (some ⟨gn, 0, none⟩) ks.length cn)]) := by
  have hvl : ps.length = bs.length := h.own.1
  have hbut : But (· = g) w w' := (But.refl (· = g) w).grown hg (fun _ => rfl)
  have kept : ∀ {q : Nat} {zs : List Nd}, Row w q zs → Row w' q zs := fun {q zs} hq => hbut.row hq (h.ne hq)
  have hO := OwnBs.push (x := (.int .i64 x, .slice (some ⟨gn, 0, none⟩) ks.length cn)) ho hvl rfl
  refine ⟨by simpa using hO, ?_⟩
  intro j hj
  by_cases hji : j < bs.length
  · obtain ⟨gj, cj, e, hr'⟩ := h.rows j hji
    refine ⟨gj, cj, ?_, ?_⟩
    · rw [List.getElem?_append_left (by omega), List.getElem_append_left hji]
      exact e
    · rw [List.getElem_append_left hji]
      exact kept hr'
  · have hje : j = bs.length := by simp at hj; omega
    subst hje
    refine ⟨gn, cn, ?_, ?_⟩
    · rw [List.getElem?_append_right (by omega)]
      simp [hvl]
    · simp only [List.getElem_append_right (Nat.le_refl _), Nat.sub_self, List.getElem_cons_zero]
      exact kept hr
def FillOk (k : Nat) (fs : List (Int × List Nd)) : Prop := fs.length = k ∧ ∀ j (h : j < fs.length), fs[j].1 = (j : Int) + 1 ∧ Shut 7 fs[j].2
theorem FillOk.snoc {k : Nat} {fs : List (Int × List Nd)} {t : List Nd} (h : FillOk k fs) (ht : Shut 7 t) : FillOk (k + 1) (fs ++ [((k : Int) + 1, t)]) := by
  refine ⟨by simp [h.1], fun j hj => ?_⟩
  by_cases hjl : j < fs.length
  · rw [List.getElem_append_left hjl]
    exact h.2 j hjl
  · have hje : j = fs.length := by simp at hj; omega
    subst hje
    simp only [List.getElem_append_right (Nat.le_refl _), Nat.sub_self, List.getElem_cons_zero]
    exact ⟨by rw [h.1], ht⟩
theorem Qnf (n : Nat) (hn : n ≤ 1048576) (ao : Option Addr) (cap : Nat) (w : World) (hc : Code w ao n) :
    Calls Tryz.prog 9 #[.slice ao n cap, .int .i64 8] w fun e w' => ∃ (g c : Nat) (fs : List (Int × List Nd)), e = .returned (.slice (some ⟨g, 0, none⟩) 8 c) ∧ Binds w' (some ⟨g, 0, none⟩) fs ∧ FillOk 8 fs ∧ Below w.heap.size w w' := by
  obtain ⟨i1, hj1, hy0, hy1, hy2⟩ := info_parts Tryz.infoB
  have hL0 := LB.empty (w := w) (B := w.heap.size) (Nat.le_refl _)
  have hbA : Below w.heap.size w (w.alloc (.cells #[] 54)) := (Below.refl _ w).alloc (Nat.le_refl _) _
  go_enter Tryz.func9, Tryz.ntmps9
  go_wp2
  go_loopw [5, 6] (fun ov iv wr => ∃ (k g c : Nat) (fs : List (Int × List Nd)) (vs : List (Value × Value)), k ≤ 8 ∧ iv = .int .i64 ((k : Int) + 1) ∧ ov = .slice (some ⟨g, 0, none⟩) k c ∧ LB wr w.heap.size g c fs vs ∧ Hid (FillOk k fs) ∧ Below w.heap.size w wr) (fun _ iv _ => 9 - (intOf iv).toNat)
  case atStart => exact ⟨0, w.heap.size, 0, [], [], Nat.zero_le _, rfl, rfl, hL0, ⟨rfl, fun j h => by simp at h⟩, hbA⟩
  case round =>
    clear hL0 hbA
    obtain ⟨k, g, c, fs, vs, hk, rfl, rfl, hL, HF, hbr⟩ := hrel
    by_cases hlt : k < 8
    · have tlt : decide (((k : Int) + 1) ≤ 8) = true := decide_eq_true (by omega)
      obtain ⟨at', hat⟩ : ∃ at' : Nat, 3 * (k + 1) = at' := ⟨_, rfl⟩
      have hati : (3 : Int) * ((k : Int) + 1) = (at' : Int) := by omega
      have HW := Qup n hn ao cap 2 (by omega) at' wr (hc.below hbr) (by simp; omega)
      have hm2 : maxW 2 = 7 := rfl
      rw [hm2] at HW
      clear hat
      go_wp2_with fail
      refine HW.mono ?_
      rintro e w3 ⟨gt, ct, lt, T, rfl, hlt', hgt, hrt, hT, hb3⟩
      have hL3 := hL.below hb3
      have hbr3 := Below.step hbr hb3
      have hs3 := hb3.size
      have hTl := hT.len
      have hB4 : Below w3.heap.size w3 (w3.alloc (.cells #[.int .i64 ((k : Int) + 1), .slice (some ⟨gt, 0, none⟩) lt ct] 54)) := (Below.refl _ w3).alloc (Nat.le_refl _) _
      have hL4 := hL3.below hB4
      have hrt4 := hrt.below hB4
      have hown4 := hL4.own.2
      rw [HF.out.1] at hown4
      have hgb := hL3.block
      have HL4 : Hid (LB (w3.alloc (.cells #[.int .i64 ((k : Int) + 1), .slice (some ⟨gt, 0, none⟩) lt ct] 54)) w.heap.size g c fs vs) := hL4
      have HLT : Hid (T.length = lt) := hlt'
      have HTS : Hid (Shut 7 T) := hT
      clear HW hL hL3 hL4 hB4 hb3 hbr hlt' hrt hT
      go_wp2_with (at_builtin; refine Qac _ rfl (.tmp 13) (.tmp 20) 30 rfl w.heap.size 54 i1 _ 2 32 Tryz.underlying30 hj1 hy0 hy1 hy2 rfl (by decide) g k c _ rfl hown4 ⟨_, 0, none⟩ 1 1 [.int .i64 ((k : Int) + 1), .slice (some ⟨gt, 0, none⟩) lt ct] rfl rfl (Qer _ _ _) (Qho _ _ _ _) ?b3 ?b4 ?b5 ?_)
      case b3 => unfold maxLen; omega
      case b4 => omega
      case b5 => have := hbr3.size; simp; omega
      intro g2 c2 w8 hown8 hgrow8 hwh8
      have hL8 := HL4.out.push (cn := ct) (x := (k : Int) + 1) hgrow8 hrt4 (by rw [HF.out.1, HLT.out]; exact hown8)
      have hb8 : Below w.heap.size w w8 := (hbr3.alloc hbr3.size _).grown hgrow8 (hbr3.alloc hbr3.size _).size (fun j hj => by cases hj; exact hgb.1)
      have HF8 : Hid (FillOk (k + 1) (fs ++ [((k : Int) + 1, T)])) := HF.out.snoc HTS.out
      clear hown8 hgrow8 hwh8 hown4 hrt4 HL4 hbr3
      go_wp2
      go_roundw
      case rel => exact ⟨k + 1, g2, c2, _, _, by omega, by go_num, rfl, hL8, HF8, hb8⟩
      case measure => simp [intOf]; omega
    · have tlt : decide (((k : Int) + 1) ≤ 8) = false := decide_eq_false (by omega)
      have hk8 : k = 8 := by omega
      subst hk8
      have hbi := hL.binds
      clear hL
      go_wp2
      go_ret
      exact ⟨g, c, fs, rfl, hbi, HF.out, hbr⟩
end Go.Proofs.YtoiiibplkhedcaaGreatDoor
namespace Go.Proofs.YtoiiibplkhedcaaGreatDoor
def Qrm (fs : List (Int × List Nd)) (x : Int) : List Nd := (fsAt fs x).getD [Qqz x]
theorem FillOk.one {k : Nat} {fs : List (Int × List Nd)} (h : FillOk k fs) (x : Int) : One (Qrm fs x) := by
  unfold Qrm
  cases e : fsAt fs x with
  | none => exact Qom x
  | some t =>
    obtain ⟨b, hb, rfl⟩ := Qjc e
    obtain ⟨j, hj, rfl⟩ := List.getElem_of_mem hb
    exact (h.2 j hj).2.one
theorem FillOk.shut {k : Nat} {fs : List (Int × List Nd)} (h : FillOk k fs) {x : Int} {t : List Nd} (e : fsAt fs x = some t) : Shut 7 t := by
  obtain ⟨b, hb, rfl⟩ := Qjc e
  obtain ⟨j, hj, rfl⟩ := List.getElem_of_mem hb
  exact (h.2 j hj).2
theorem Jdh {k : Nat} {fs : List (Int × List Nd)} (h : FillOk k fs) {A : List Nd} (hA : ∀ n ∈ A, (Go.Lit.int .i64 n.num).wf = true) : ∀ n ∈ Qam fs A, (Go.Lit.int .i64 n.num).wf = true := by
  intro n hn
  obtain ⟨m, hm, hnm⟩ := List.mem_flatMap.1 hn
  rw [Qev] at hnm
  split at hnm
  · cases e : fsAt fs m.num with
    | none =>
      rw [e] at hnm
      simp only [Option.getD_none, List.mem_singleton] at hnm
      subst hnm
      exact hA _ hm
    | some t =>
      rw [e] at hnm
      simp only [Option.getD_some] at hnm
      rw [(h.shut e).zero n hnm]
      decide
  · simp only [List.mem_singleton] at hnm
    subst hnm
    exact hA _ hm
end Go.Proofs.YtoiiibplkhedcaaGreatDoor
namespace Go.Proofs.YtoiiibplkhedcaaGreatDoor
open Go.RowKit
def Jay (w : World) (e : Ending) (w' : World) : Prop := ∃ (g1 c1 l1 g2 c2 l2 : Nat) (A B : List Nd), e = .returned (.tuple #[.slice (some ⟨g1, 0, none⟩) l1 c1, .slice (some ⟨g2, 0, none⟩) l2 c2]) ∧ A.length = l1 ∧ B.length = l2 ∧ Row w' g1 A ∧ Row w' g2 B ∧ SideOk2 A ∧ SideOk2 B ∧ Below w.heap.size w w'
theorem Qjo {t : List Nd} {l : Nat} (h : NumD t) (hl : t.length = l) (h3 : l ≤ 100) : SideOk2 t := ⟨by omega, fun z hz => by have := h z hz; omega⟩
theorem Qpm (n : Nat) (hn : n ≤ 1048576) (ao : Option Addr) (cap : Nat) (w : World) (hc : Code w ao n) :
    Calls Tryz.prog 4 #[.slice ao n cap] w fun e w' => Jay w e w' := by
  have HC : Hid (∀ W, Below w.heap.size w W → Code W ao n) := fun W hW => hc.below hW
  have hst4 : Qcs 4 = 93 := rfl
  have hmx4 : maxT 4 = 31 := rfl
  have hst3 : Qcs 3 = 45 := rfl
  have hmx3 : maxT 3 = 15 := rfl
  go_enter Tryz.func4, Tryz.ntmps4
  go_wp2_with fail
  refine (Qei n hn ao cap w hc 0 6 (by omega) (by omega) (by omega)).mono ?_
  rintro e w1 ⟨⟨how, hhow, rfl⟩, hb1⟩
  have HD := Qhk n hn ao cap 3 (by omega) (by omega) 4 (by omega) 1 w1 (HC.out w1 hb1) (by omega)
  clear hc
  go_wp2_with fail
  refine HD.mono ?_
  rintro e w2 ⟨ga, ca, la, qa, A, rfl, hla, hla0, hlam, hga, hoA, hnA, hqa, hb2, hoA1⟩
  rw [hst4] at hqa
  rw [hmx4] at hlam
  have hbr2 := Below.step hb1 hb2
  have hs1 := hb1.size
  have HLA : Hid (A.length = la) := hla
  have hrA := hoA.row.2
  have hgaw := hrA.lt
  obtain ⟨sA, ysA, hrunA⟩ := hoA1
  have hszA : Qby A = ysA.map szOf := by unfold Qby; rw [hrunA]
  have hylA := (Qaf hrunA).len
  rw [hla] at hrunA
  obtain ⟨sr, hsr⟩ : ∃ sr, ysA[la - 1]'(by omega) = sr := ⟨_, rfl⟩
  have hsr2 : ysA[la - 1]? = some sr := by rw [List.getElem?_eq_getElem (by omega), hsr]
  obtain ⟨SL, hSL⟩ : ∃ SL, (span A sr.fr (la - 1)).length = SL := ⟨_, rfl⟩
  have hspl : SL ≤ 31 := by
    rw [← hSL]
    unfold span
    simp
    omega
  have hc1 : (la : Int) - 1 = ((la - 1 : Nat) : Int) := by omega
  -- both calls of l8Vary
  have HV : Hid (∀ (q gz cz : Nat) (V0 V : World), q ≤ 300 → Below w.heap.size w V → Row V ga A → Ints V V0.heap.size gz cz la (ysA.map szOf) → Calls Tryz.prog 14 #[.slice ao n cap, .int .i64 (q : Int), .slice (some ⟨ga, 0, none⟩) la ca, .slice (some ⟨gz, 0, none⟩) la cz, .int .i64 ((la - 1 : Nat) : Int), .int .i64 (3 : Nat)] V fun e w' => Jdp V SL q e w') := by
    intro q gz cz V0 V hq hV hr hi
    have h9 := Qyt n hn ao cap 3 (by omega) (by omega) A [sA] ysA la HLA (by omega) hrunA hnA (la - 1) sr q ga ca gz cz V0.heap.size V (by omega) hsr2 (HC.out V hV) hr hi (by rw [hSL]; omega)
    rw [hSL] at h9
    exact h9
  have HSZ : Hid (∀ V : World, Row V ga A → Calls Tryz.prog 15 #[.slice (some ⟨ga, 0, none⟩) la ca] V fun e w' => ∃ gz cz, e = .returned (.slice (some ⟨gz, 0, none⟩) la cz) ∧ Ints w' V.heap.size gz cz la (ysA.map szOf) ∧ Below V.heap.size V w') := by
    intro V hr
    refine (Qfm A la HLA (by omega) (some ⟨ga, 0, none⟩) ca V hr.nodes).mono ?_
    rintro e w' ⟨gz, cz, nz, rfl, hi, hb⟩
    rw [hszA] at hi
    have hnz : nz = la := by have := hi.1; simp at this; omega
    subst hnz
    exact ⟨gz, cz, rfl, hi, hb⟩
  have hsA : SideOk2 A := Qjo hnA hla (by omega)
  have HNA : Hid (NumD A) := hnA
  clear HD hrunA hszA hylA hsr hsr2 hSL hb1 hb2 hla hnA
  go_wp2_with fail
  refine (HSZ.out w2 hrA).mono ?_
  rintro e w3 ⟨gz, cz, rfl, hiz, hb3⟩
  have hoA3 := hoA.below hb3
  have hbr3 := Below.step hbr2 hb3
  have hs3 := hb3.size
  have HV1 := HV.out qa gz cz w2 w3 (by omega) hbr3 hoA3.row.2 hiz
  clear hrA hoA hbr2 hb3 hiz
  go_wp2_with fail
  refine HV1.mono ?_
  rintro e w4 ⟨gb, cb, lb, qb, B, rfl, hlb, _, hlbm, hgb, hoB, hnB, hqb, hb4, _⟩
  have hoA4 := hoA3.below hb4
  have hbr4 := Below.step hbr3 hb4
  have hs4 := hb4.size
  have hrB4 := hoB.row.2
  have hsB : SideOk2 B := Qjo hnB hlb (by omega)
  clear HV1 hoA3 hbr3 hb4 hoB hnB
  by_cases h0 : how = 0
  · subst h0
    have HD2 := Qhk n hn ao cap 3 (by omega) (by omega) 3 (by omega) qb w4 (HC.out w4 hbr4) (by omega)
    clear hrB4 hsB hlb
    go_wp2_with fail
    refine HD2.mono ?_
    rintro e w5 ⟨gb', cb', lb', qb', B', rfl, hlb, _, hlbm', hgb', hoB, hnB, hqb', hb5, _⟩
    rw [hst3] at hqb'
    rw [hmx3] at hlbm'
    have HLB : Hid (B'.length = lb') := hlb
    have hsB' : SideOk2 B' := Qjo hnB hlb (by omega)
    have hoAW := hoA4.below hb5
    have hbrW := Below.step hbr4 hb5
    have hrBW := hoB.row.2
    have hs5 := hb5.size
    clear HD2 hoA4 hbr4 hb5 hoB hnB hlb
    go_wp2_with fail
    refine (HSZ.out w5 hoAW.row.2).mono ?_
    rintro e w6 ⟨gz2, cz2, rfl, hiz2, hb6⟩
    have hoA6 := hoAW.below hb6
    have hbr6 := Below.step hbrW hb6
    have hs6 := hb6.size
    have hrB6 := hrBW.below hb6
    have HV2 := HV.out qb' gz2 cz2 w5 w6 (by omega) hbr6 hoA6.row.2 hiz2
    clear hoAW hbrW hb6 hrBW hiz2
    go_wp2_with fail
    refine HV2.mono ?_
    rintro e w7 ⟨gc, cc, lc, qc, C, rfl, hlc, _, hlcm, hgc, hoC, hnC, _, hb7, _⟩
    have hrB7 := hrB6.below hb7
    have hbr7 := Below.step hbr6 hb7
    have hrC7 := hoC.row.2
    have HFIN : Hid (Jay w (.returned (.tuple #[.slice (some ⟨gc, 0, none⟩) lc cc, .slice (some ⟨gb', 0, none⟩) lb' cb'])) w7) := ⟨gc, cc, lc, gb', cb', lb', C, B', rfl, hlc, HLB.out, hrC7, hrB7, Qjo hnC hlc (by omega), hsB', hbr7⟩
    clear HV2 hoA6 hrB6 hbr6 hb7 hoC hnC hrC7 hrB7
    go_wp2
    go_ret2
    exact HFIN.out
  · have t0 : ((how : Int) == 0) = false := by simp; omega
    have HLB : Hid (B.length = lb) := hlb
    have hsB' := hsB
    by_cases h1 : how = 1
    · subst h1
      have hrA4 := hoA4.row.2
      have h0A : 0 < A.length := by rw [HLA.out]; exact hla0
      obtain ⟨x, hx⟩ : ∃ x, A[0] = x := ⟨_, rfl⟩
      have hnd := hrA4.node 0 h0A
      rw [hx] at hnd
      have hxn := HNA.out x (by rw [← hx]; exact List.getElem_mem h0A)
      obtain ⟨kd, nm, tx, ks, pl⟩ := x
      obtain ⟨c0, c1', c2, c3, c4⟩ := hnd
      simp only [Nat.zero_mul, Nat.zero_add] at c0 c1' c2 c3 c4
      obtain ⟨i0, hi, hz0, hz1, hz2⟩ := info_parts Tryz.infoN
      have hBx : Below w4.heap.size w4 (w4.alloc (.cells #[.int .i64 kd, .int .i64 nm, .string tx, .int .i64 ks, .int .i64 pl] 43)) := (Below.refl _ w4).alloc (Nat.le_refl _) _
      have hnx := Qbj w4 ⟨kd, nm, tx, ks, pl⟩
      have hoAx := (hoA4.below hBx).2
      have hrBx := hrB4.below hBx
      have hAb := Qad hoA4.2
      clear hoA4 hx hrA4 hrB4
      go_wp2_with (at_builtin; refine Qac _ rfl (.tmp 45) (.tmp 49) 23 rfl w1.heap.size 43 i0 _ 5 48 Tryz.underlying23 hi hz0 hz1 hz2 rfl (by decide) ga la ca _ rfl hoAx ⟨_, 0, none⟩ 1 1 (⟨kd, nm, tx, ks, pl⟩ : Nd).row rfl rfl hnx (Qbp _) ?a3 ?a4 ?a5 ?_)
      case a3 => unfold maxLen; omega
      case a4 => omega
      case a5 => have := hbr4.size; simp; omega
      intro g2 c2' w8 hown8 hgrow8 hwh8
      have hO8 := OwnN.push hown8 HLA.out rfl
      have hrB8 := hrBx.kept hgrow8 (by omega)
      have hb8 : Below w.heap.size w w8 := (hbr4.alloc hbr4.size _).grown hgrow8 (hbr4.alloc hbr4.size _).size (fun j hj => by cases hj; omega)
      have HFIN : Hid (Jay w (.returned (.tuple #[.slice (some ⟨g2, 0, none⟩) (la + 1) c2', .slice (some ⟨gb, 0, none⟩) lb cb])) w8) := by
        refine ⟨g2, c2', la + 1, gb, cb, lb, _, B, rfl, by rw [List.length_append, HLA.out]; rfl, HLB.out, hO8.row.2, hrB8, ⟨by rw [List.length_append, HLA.out]; simp; omega, fun z hz => ?_⟩, hsB', hb8⟩
        rcases List.mem_append.1 hz with hz | hz
        · have := HNA.out z hz; omega
        · simp at hz
          subst hz
          simp only at hxn ⊢
          omega
      clear hown8 hgrow8 hwh8 hO8 hrB8 hb8 hoAx hrBx
      go_wp2
      go_ret2
      exact HFIN.out
    · have t1 : ((how : Int) == 1) = false := by simp; omega
      have hoAW := hoA4
      have hbrW := hbr4
      have hrBW := hrB4
      clear hoA4 hbr4 hrB4 hlb
      go_wp2_with fail
      refine (HSZ.out w4 hoAW.row.2).mono ?_
      rintro e w6 ⟨gz2, cz2, rfl, hiz2, hb6⟩
      have hoA6 := hoAW.below hb6
      have hbr6 := Below.step hbrW hb6
      have hs6 := hb6.size
      have hrB6 := hrBW.below hb6
      have HV2 := HV.out qb gz2 cz2 w4 w6 (by omega) hbr6 hoA6.row.2 hiz2
      clear hoAW hbrW hb6 hrBW hiz2
      go_wp2_with fail
      refine HV2.mono ?_
      rintro e w7 ⟨gc, cc, lc, qc, C, rfl, hlc, _, hlcm, hgc, hoC, hnC, _, hb7, _⟩
      have hrB7 := hrB6.below hb7
      have hbr7 := Below.step hbr6 hb7
      have hrC7 := hoC.row.2
      have HFIN : Hid (Jay w (.returned (.tuple #[.slice (some ⟨gc, 0, none⟩) lc cc, .slice (some ⟨gb, 0, none⟩) lb cb])) w7) := ⟨gc, cc, lc, gb, cb, lb, C, B, rfl, hlc, HLB.out, hrC7, hrB7, Qjo hnC hlc (by omega), hsB', hbr7⟩
      clear HV2 hoA6 hrB6 hbr6 hb7 hoC hnC hrC7 hrB7
      go_wp2
      go_ret2
      exact HFIN.out
end Go.Proofs.YtoiiibplkhedcaaGreatDoor

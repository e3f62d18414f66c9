import Derived.Test.YtngomcicdcgldabSS
import Derived.Test.YtngomcicdcgldabSz
import Derived.Test.YtngomcicdcgldabTo
import Derived.Test.YtngomcicdcgldabEq
import Derived.Test.YtngomcicdcgldabLong
import Derived.Deep.OwnRows
import Derived.Deep.RegionWith
import Derived.Test.YtngomcicdcgldabSCanon
import Derived.Test.YtngomcicdcgldabME
namespace Go.Proofs.Ytngomcicdcgldab
open Go.RowKit

/-- Cells two by two. -/
def cells2 (ps : List (Value × Value)) : List Value := ps.flatMap fun p => [p.1, p.2]

theorem cells2_length (ps : List (Value × Value)) : (cells2 ps).length = ps.length * 2 := by
  induction ps with
  | nil => rfl
  | cons m ms ih => simp only [cells2, List.flatMap_cons, List.length_append, List.length_cons, List.length_nil] at *; omega

theorem cells2_append (a b : List (Value × Value)) : cells2 (a ++ b) = cells2 a ++ cells2 b := by simp [cells2]

theorem cells2_get (ps : List (Value × Value)) (i : Nat) (h : i < ps.length) : (cells2 ps)[i * 2]? = some ps[i].1 ∧ (cells2 ps)[i * 2 + 1]? = some ps[i].2 := by
  induction ps generalizing i with
  | nil => simp at h
  | cons m ms ih =>
    cases i with
    | zero => simp [cells2]
    | succ i =>
      have e1 : (i + 1) * 2 = i * 2 + 1 + 1 := by omega
      have h9 := ih i (by simpa using h)
      rw [e1]
      simpa [cells2] using h9

theorem cells2_set (ps : List (Value × Value)) (j : Nat) (p : Value × Value) : ((cells2 ps).set (j * 2) p.1).set (j * 2 + 1) p.2 = cells2 (ps.set j p) := by
  induction ps generalizing j with
  | nil => simp [cells2]
  | cons m ms ih =>
    cases j with
    | zero => simp [cells2]
    | succ j =>
      have e1 : (j + 1) * 2 = j * 2 + 1 + 1 := by omega
      have h9 := ih j
      rw [e1]
      simp only [cells2, List.flatMap_cons, List.cons_append, List.nil_append, List.set_cons_succ] at h9 ⊢
      rw [h9]

/-- A slice of Binds. -/
def Binds (w : World) (ao : Option Addr) (bs : List (Int × List Nd)) : Prop :=
  ∀ i (h : i < bs.length), ∃ b o ai ci, ao = some ⟨b, o, none⟩ ∧ w.cell? ⟨b, o + i * 2, none⟩ = some (.int .i64 bs[i].1) ∧ w.cell? ⟨b, o + i * 2 + 1, none⟩ = some (.slice ai bs[i].2.length ci) ∧ Nodes w ai bs[i].2

theorem Binds.below {w w' : World} {ao : Option Addr} {bs : List (Int × List Nd)} (h : Binds w ao bs) (hb : Below w.heap.size w w') : Binds w' ao bs := by
  intro i hi
  obtain ⟨b, o, ai, ci, e, h0, hc, hn⟩ := h i hi
  exact ⟨b, o, ai, ci, e, (hb.cell (p := ⟨b, o + i * 2, none⟩) (lt_of_cell h0)).trans h0, (hb.cell (p := ⟨b, o + i * 2 + 1, none⟩) (lt_of_cell hc)).trans hc, hn.below hb⟩

/-- The types of Binds. -/
def tys (bs : List (Int × List Nd)) : List (List Nd) := bs.map Prod.snd

set_option maxHeartbeats 400000 in
theorem szBind_any (x : Int) (ks : List Nd) (l : Nat) (HL : Hid (ks.length = l)) (ai : Option Addr) (ci : Nat) (left : Int) (w : World) (hn : Nodes w ai ks) (hs : ∀ x ∈ ks, x.text.size ≤ maxLen) (hlen : l ≤ 9223372036854775807) (h0 : 0 ≤ left) (h1 : left ≤ 1048576) :
    Calls Try.prog 33 #[.agg #[.int .i64 x, .slice ai l ci], .int .i64 left] w fun e w' =>
      (∃ r : Int, e = .returned (.int .i64 r) ∧ (r = -1 ∨ (0 ≤ r ∧ r ≤ left - l))) ∧ Below w.heap.size w w' := by
  have hz := szNodeS_any ks ai ci left
  rw [HL.out] at hz
  have HZ : Hid (∀ (w : World), Nodes w ai ks → (∀ x ∈ ks, x.text.size ≤ maxLen) → l ≤ 9223372036854775807 → 0 ≤ left → left ≤ 1048576 → Calls Try.prog 5 #[.slice ai l ci, .int .i64 left] w fun e w' => (∃ r : Int, e = .returned (.int .i64 r) ∧ (r = -1 ∨ (0 ≤ r ∧ r ≤ left - l))) ∧ Below w.heap.size w w') := hz
  clear hz
  have HN : Hid (Nodes w ai ks) := hn
  have HS : Hid (∀ x ∈ ks, x.text.size ≤ maxLen) := hs
  clear hn hs
  go_enter Try.func33, Try.ntmps33
  go_wp2_with fail
  have hbA : Below w.heap.size w (w.alloc (.cells #[.int .i64 x, .slice ai l ci] 65)) := (Below.refl _ w).alloc (Nat.le_refl _) _
  refine (HZ.out _ (HN.out.below hbA) HS.out hlen h0 h1).mono ?_
  rintro e w1 ⟨⟨r, rfl, hr⟩, hb1⟩
  have hbb := Below.step hbA hb1
  clear hbA hb1
  rcases hr with hr | ⟨hr2, hr3⟩
  · subst hr
    go_wp2
    go_ret
    exact ⟨⟨-1, rfl, Or.inl rfl⟩, hbb⟩
  · have tr : decide (r < 0) = false := decide_eq_false (by omega)
    go_wp2
    go_ret
    exact ⟨⟨r, rfl, Or.inr ⟨hr2, hr3⟩⟩, hbb⟩

set_option maxHeartbeats 400000 in
theorem toBind_any (x : Int) (ks : List Nd) (l : Nat) (HL : Hid (ks.length = l)) (ai : Option Addr) (ci : Nat) (w : World) (hn : Nodes w ai ks) (hlen : l ≤ 1048576) :
    Calls Try.prog 39 #[.agg #[.int .i64 x, .slice ai l ci]] w fun e w' =>
      ∃ g, e = .returned (.agg #[.int .i64 x, .slice (some ⟨g, 0, none⟩) l l]) ∧ w.heap.size ≤ g ∧ Row w' g ks ∧ Below w.heap.size w w' := by
  have hz := toNodeS_any ks ai ci
  rw [HL.out] at hz
  have HZ : Hid (∀ (w : World), Nodes w ai ks → l ≤ 1048576 → Calls Try.prog 7 #[.slice ai l ci] w fun e w' => ∃ g, e = .returned (.slice (some ⟨g, 0, none⟩) l l) ∧ w.heap.size ≤ g ∧ Row w' g ks ∧ Below w.heap.size w w') := hz
  clear hz
  have HN : Hid (Nodes w ai ks) := hn
  clear hn
  go_enter Try.func39, Try.ntmps39
  go_wp2_with fail
  have hA : Below w.heap.size w (w.alloc (.cells #[.int .i64 x, .slice ai l ci] 65)) := (Below.refl _ w).alloc (Nat.le_refl _) _
  have hB := hA.alloc hA.size (.cells #[.int .i64 0, .slice none 0 0] 47)
  have hC := hB.alloc hB.size (.cells #[.int .i64 x, .slice none 0 0] 47)
  have hox : OwnT 47 (((w.alloc (.cells #[.int .i64 x, .slice ai l ci] 65)).alloc (.cells #[.int .i64 0, .slice none 0 0] 47)).alloc (.cells #[.int .i64 x, .slice none 0 0] 47)) (w.heap.size + 1 + 1) [.int .i64 x, .slice none 0 0] := by
    refine ⟨#[.int .i64 x, .slice none 0 0], [], ?_, rfl⟩
    have h9 := heap_alloc_new ((w.alloc (.cells #[.int .i64 x, .slice ai l ci] 65)).alloc (.cells #[.int .i64 0, .slice none 0 0] 47)) (.cells #[.int .i64 x, .slice none 0 0] 47)
    simpa using h9
  have hoy : OwnT 47 (((w.alloc (.cells #[.int .i64 x, .slice ai l ci] 65)).alloc (.cells #[.int .i64 0, .slice none 0 0] 47)).alloc (.cells #[.int .i64 x, .slice none 0 0] 47)) (w.heap.size + 1) [.int .i64 0, .slice none 0 0] := by
    have h9 : OwnT 47 ((w.alloc (.cells #[.int .i64 x, .slice ai l ci] 65)).alloc (.cells #[.int .i64 0, .slice none 0 0] 47)) (w.heap.size + 1) [.int .i64 0, .slice none 0 0] := by
      refine ⟨#[.int .i64 0, .slice none 0 0], [], ?_, rfl⟩
      have h8 := heap_alloc_new (w.alloc (.cells #[.int .i64 x, .slice ai l ci] 65)) (.cells #[.int .i64 0, .slice none 0 0] 47)
      simpa using h8
    exact h9.below ((Below.refl _ _).alloc (Nat.le_refl _) _)
  refine (HZ.out _ (HN.out.below hC) hlen).mono ?_
  rintro e w1 ⟨g, rfl, hg, hr, hb1⟩
  have hox1 := hox.below hb1
  have o0 := hox1.at 0 (by simp)
  have o1 := hox1.at 1 (by simp)
  have fz := hox1.frozen 1
  have hlt := hox1.lt
  simp only [List.getElem?_cons_zero, List.getElem?_cons_succ] at o0 o1
  have hbb := Below.step hC hb1
  have hgs : w.heap.size + 3 ≤ g := by simpa using hg
  have hoy1 := hoy.below hb1
  have y0 := hoy1.at 0 (by simp)
  have y1 := hoy1.at 1 (by simp)
  have fy0 := hoy1.frozen 0
  have fy1 := hoy1.frozen 1
  simp only [List.getElem?_cons_zero, List.getElem?_cons_succ] at y0 y1
  have hbu : But (fun q => q = w.heap.size + 1 + 1 ∨ q = w.heap.size + 1) w1 (((w1.setCell ⟨w.heap.size + 1 + 1, 1, none⟩ (.slice (some ⟨g, 0, none⟩) l l)).setCell ⟨w.heap.size + 1, 0, none⟩ (.int .i64 x)).setCell ⟨w.heap.size + 1, 1, none⟩ (.slice (some ⟨g, 0, none⟩) l l)) :=
    (((But.refl (fun q => q = w.heap.size + 1 + 1 ∨ q = w.heap.size + 1) w1).setCell (p := ⟨w.heap.size + 1 + 1, 1, none⟩) (Or.inl rfl) _).setCell (p := ⟨w.heap.size + 1, 0, none⟩) (Or.inr rfl) _).setCell (p := ⟨w.heap.size + 1, 1, none⟩) (Or.inr rfl) _
  have hr2 : Row (((w1.setCell ⟨w.heap.size + 1 + 1, 1, none⟩ (.slice (some ⟨g, 0, none⟩) l l)).setCell ⟨w.heap.size + 1, 0, none⟩ (.int .i64 x)).setCell ⟨w.heap.size + 1, 1, none⟩ (.slice (some ⟨g, 0, none⟩) l l)) g ks := hbu.row hr (by omega)
  have hb2 : Below w.heap.size w (((w1.setCell ⟨w.heap.size + 1 + 1, 1, none⟩ (.slice (some ⟨g, 0, none⟩) l l)).setCell ⟨w.heap.size + 1, 0, none⟩ (.int .i64 x)).setCell ⟨w.heap.size + 1, 1, none⟩ (.slice (some ⟨g, 0, none⟩) l l)) := hbb.trans (hbu.below hbb.size (fun q hq => by omega))
  have HR : Hid (Row (((w1.setCell ⟨w.heap.size + 1 + 1, 1, none⟩ (.slice (some ⟨g, 0, none⟩) l l)).setCell ⟨w.heap.size + 1, 0, none⟩ (.int .i64 x)).setCell ⟨w.heap.size + 1, 1, none⟩ (.slice (some ⟨g, 0, none⟩) l l)) g ks) := hr2
  have HB : Hid (Below w.heap.size w (((w1.setCell ⟨w.heap.size + 1 + 1, 1, none⟩ (.slice (some ⟨g, 0, none⟩) l l)).setCell ⟨w.heap.size + 1, 0, none⟩ (.int .i64 x)).setCell ⟨w.heap.size + 1, 1, none⟩ (.slice (some ⟨g, 0, none⟩) l l))) := hb2
  clear hA hB hC hox hox1 hb1 hr hbb hg hoy hoy1 hbu hr2 hb2
  go_wp2
  refine bodyPost_ret (v := .agg #[.int .i64 x, .slice (some ⟨g, 0, none⟩) l l]) ?_ rfl ⟨g, rfl, by omega, HR.out, HB.out⟩
  simp only [results, Try.results39]
  simp [go_sem, y0, y1]

set_option maxHeartbeats 400000 in
theorem eqBind_same (x : Int) (ks : List Nd) (l : Nat) (HL : Hid (ks.length = l)) (ai bi : Option Addr) (ci di : Nat) (w : World) (hn : Nodes w ai ks) (hn' : Nodes w bi ks) (hlen : l ≤ 1048576) :
    Calls Try.prog 29 #[.agg #[.int .i64 x, .slice ai l ci], .agg #[.int .i64 x, .slice bi l di]] w fun e w' => e = .returned (.bool true) ∧ Below w.heap.size w w' := by
  have tx : (x != x) = false := by simp
  go_enter Try.func29, Try.ntmps29
  go_wp2_with fail
  have hA : Below w.heap.size w (w.alloc (.cells #[.int .i64 x, .slice ai l ci] 47)) := (Below.refl _ w).alloc (Nat.le_refl _) _
  have hB := hA.alloc hA.size (.cells #[.int .i64 x, .slice bi l di] 47)
  refine (eqNodeS_any ks ks l l HL HL ai bi ci di _ (hn.below hB) (hn'.below hB) (by omega) (by omega)).mono ?_
  rintro e w1 ⟨⟨r, rfl, hr⟩, hb1⟩
  have hr1 : r = true := hr.2 ⟨rfl, fun _ _ _ => Nd.eqb_refl _⟩
  subst hr1
  have hbb := Below.step hB hb1
  clear hA hB hb1 hn hn' hr
  go_wp2
  go_ret
  exact ⟨rfl, hbb⟩

end Go.Proofs.Ytngomcicdcgldab

namespace Go.Proofs.Ytngomcicdcgldab
open Go.RowKit

theorem tys_take (bs : List (Int × List Nd)) (k : Nat) : tys (bs.take k) = (tys bs).take k := by simp [tys]

theorem tys_get (bs : List (Int × List Nd)) (k : Nat) (h : k < bs.length) : (tys bs)[k]'(by simpa [tys] using h) = bs[k].2 := by simp [tys]

set_option maxHeartbeats 400000 in
theorem szBindS_any (bs : List (Int × List Nd)) (n : Nat) (HN : Hid (bs.length = n)) (ao : Option Addr) (cap : Nat) (left : Int) (w : World) (hx : Binds w ao bs) (hs : ∀ b ∈ bs, ∀ x ∈ b.2, x.text.size ≤ maxLen)
    (hm : ∀ b ∈ bs, b.2.length ≤ 9223372036854775807) (hlen : n ≤ 9223372036854775807) (h0 : 0 ≤ left) (h1 : left ≤ 1048576) :
    Calls Try.prog 14 #[.slice ao n cap, .int .i64 left] w fun e w' =>
      (∃ r : Int, e = .returned (.int .i64 r) ∧ (r = -1 ∨ (0 ≤ r ∧ r ≤ left - n - total (tys bs)))) ∧ Below w.heap.size w w' := by
  by_cases hl : left < n
  · clear hx hs hm
    go_enter Try.func14, Try.ntmps14
    go_wp2
    go_ret
    exact ⟨⟨-1, rfl, Or.inl rfl⟩, Below.refl _ _⟩
  · go_enter Try.func14, Try.ntmps14
    go_wp2
    go_loopw [1, 5] (fun l i wr => ∃ (k : Nat) (r : Int), k ≤ n ∧ i = .int .i64 k ∧ l = .int .i64 r ∧ 0 ≤ r ∧ r ≤ left - n - total ((tys bs).take k) ∧ Below w.heap.size w wr) (fun _ i _ => n - (intOf i).toNat)
    case atStart => exact ⟨0, _, Nat.zero_le _, rfl, rfl, by omega, by simp [total], Below.refl _ _⟩
    case round =>
      obtain ⟨k, r, hk, rfl, rfl, hr0, hr1, hb⟩ := hrel
      by_cases hlt : k < n
      · have hltk : k < bs.length := by have := HN.out; omega
        obtain ⟨b, o, ai, ci, rfl, hc0, hc, hn⟩ := hx.below hb k hltk
        have hsk := hs bs[k] (List.getElem_mem hltk)
        have hmk := hm bs[k] (List.getElem_mem hltk)
        have HT : Hid (total ((tys bs).take (k + 1)) = total ((tys bs).take k) + bs[k].2.length) := by
          have h9 := total_take_succ (tys bs) k (by simpa [tys] using hltk)
          rw [tys_get bs k hltk] at h9
          exact h9
        obtain ⟨⟨bn, ks⟩, hbk⟩ : ∃ p, bs[k] = p := ⟨_, rfl⟩
        rw [hbk] at hc0 hc hn hsk hmk HT
        simp only at hc0 hc hn hsk hmk HT
        obtain ⟨l, hl9⟩ : ∃ l, ks.length = l := ⟨_, rfl⟩
        have HL : Hid (ks.length = l) := hl9
        rw [hl9] at hc hmk HT
        clear hx hs hm hbk hl9
        go_wp2_with fail
        refine (szBind_any bn ks l HL ai ci r wr hn hsk hmk hr0 (by omega)).mono ?_
        rintro e w1 ⟨⟨r', rfl, hr'⟩, hb1⟩
        rcases hr' with hr' | ⟨hr2, hr3⟩
        · subst hr'
          go_wp2
          go_ret
          exact ⟨⟨-1, rfl, Or.inl rfl⟩, Below.step hb hb1⟩
        · have hbb := Below.step hb hb1
          clear hb1 hb hc hn hc0
          go_wp2
          go_roundw
          case rel => exact ⟨k + 1, r', by omega, by go_num, rfl, hr2, by have := HT.out; omega, hbb⟩
          case measure => simp [intOf]; omega
      · have HE : Hid ((tys bs).take k = tys bs) := List.take_of_length_le (by have := HN.out; simp [tys]; omega)
        clear hx hs hm
        go_wp2
        go_ret
        exact ⟨⟨r, rfl, Or.inr ⟨hr0, by have := hr1; rw [HE.out] at this; exact this⟩⟩, hb⟩

theorem Try.infoB : (Try.prog.info? 47).map (fun i => (i.zero, i.size, i.bytes)) = some (some (.agg #[.int .i64 0, .slice none 0 0]), 2, 32) := by kernel_rfl

theorem make_binds (n : Nat) (h : n ≤ 1048576) (w : World) :
    (Instr.makeSlice 24 (.int .i64 (n : Int)) (.int .i64 (n : Int))).run Try.prog w = .ok (.slice (some ⟨w.heap.size, 0, none⟩) n n) (w.alloc (.cells (madeCells #[.int .i64 0, .slice none 0 0] (n * 2)) 47)) := by
  obtain ⟨i, hi, hzz⟩ := Option.map_eq_some_iff.1 Try.infoB
  simp only [Prod.mk.injEq] at hzz
  obtain ⟨hz, hs, hb⟩ := hzz
  have hr := run_make (P := Try.prog) w 24 47 i _ Try.underlying24 hi hz .i64 .i64 n n (by omega) (Int.le_refl _) (by rw [hb]; omega) (by omega)
  simp only [Int.toNat_natCast, hs] at hr
  exact hr

/-- A Bind that is not yet there. -/
def noBind : Value × Value := (.int .i64 0, .slice none 0 0)

theorem made_binds (n : Nat) : (madeCells #[.int .i64 0, .slice none 0 0] (n * 2)).toList = cells2 (List.replicate n noBind) := by
  apply List.ext_getElem?
  intro j
  by_cases hj : j < n * 2
  · have e : j = (j / 2) * 2 + j % 2 := by omega
    have hq : j / 2 < n := by omega
    have hr : j % 2 < 2 := by omega
    generalize j / 2 = q at *
    generalize j % 2 = r at *
    subst e
    obtain ⟨g0, g1⟩ := cells2_get (List.replicate n noBind) q (by simpa using hq)
    have em : (q * 2 + r) % 2 = r := by omega
    simp only [madeCells, Array.toList_map, List.getElem?_map, Array.toList_range]
    rw [List.getElem?_range hj]
    match r, hr with
    | 0, _ => rw [Nat.add_zero, g0]; simp [noBind]
    | 1, _ => rw [g1]; simp [noBind, em]
  · rw [List.getElem?_eq_none (by simp [madeCells]; omega), List.getElem?_eq_none (by simp [cells2_length]; omega)]

/-- The Binds that lead to the rows gs. -/
def leadP (gs : List Nat) (bs : List (Int × List Nd)) : List (Value × Value) := List.zipWith (fun h b => (.int .i64 b.1, .slice (some ⟨h, 0, none⟩) b.2.length b.2.length)) gs bs

theorem leadP_step (gs : List Nat) (bs : List (Int × List Nd)) (k g' : Nat) (hk : k < bs.length) (hg : gs.length = k) :
    (leadP gs (bs.take k) ++ List.replicate (bs.length - k) noBind).set k (.int .i64 bs[k].1, .slice (some ⟨g', 0, none⟩) bs[k].2.length bs[k].2.length) =
      leadP (gs ++ [g']) (bs.take (k + 1)) ++ List.replicate (bs.length - (k + 1)) noBind := by
  have hl : (leadP gs (bs.take k)).length = k := by simp [leadP]; omega
  rw [List.set_append_right _ _ (by omega), hl, Nat.sub_self]
  have e2 : bs.length - k = (bs.length - (k + 1)) + 1 := by omega
  rw [e2, List.replicate_succ, List.set_cons_zero, List.take_succ_eq_append_getElem hk]
  have e3 : leadP (gs ++ [g']) (bs.take k ++ [bs[k]]) = leadP gs (bs.take k) ++ [(.int .i64 bs[k].1, .slice (some ⟨g', 0, none⟩) bs[k].2.length bs[k].2.length)] := by
    unfold leadP
    rw [List.zipWith_append (by simp; omega)]
    rfl
  rw [e3, List.append_assoc]
  rfl

/-- Block g is a row of Binds of the call's own. -/
def OwnB (w : World) (g : Nat) (ps : List (Value × Value)) : Prop := OwnT 47 w g (cells2 ps)

theorem OwnB.ne {w : World} {g h : Nat} {ps : List (Value × Value)} {ds : List Value} (a : OwnB w g ps) (b : Own w h ds) : h ≠ g := by
  rintro rfl
  obtain ⟨cur, _, hg, _⟩ := a
  obtain ⟨cur', _, hg', _⟩ := b
  rw [hg] at hg'
  simp at hg'

theorem OwnB.at {w : World} {g : Nat} {ps : List (Value × Value)} (h : OwnB w g ps) (i : Nat) (hi : i < ps.length) : w.cell? ⟨g, i * 2, none⟩ = some ps[i].1 ∧ w.cell? ⟨g, i * 2 + 1, none⟩ = some ps[i].2 := by
  have hl := cells2_length ps
  obtain ⟨h1, h2⟩ := cells2_get ps i hi
  exact ⟨(OwnT.at h _ (by omega)).trans h1, (OwnT.at h _ (by omega)).trans h2⟩

theorem OwnB.put {w : World} {g : Nat} {ps : List (Value × Value)} (h : OwnB w g ps) (j : Nat) (hj : j < ps.length) (a b : Value) : OwnB ((w.setCell ⟨g, j * 2, none⟩ a).setCell ⟨g, j * 2 + 1, none⟩ b) g (ps.set j (a, b)) := by
  have hl := cells2_length ps
  have h9 := OwnT.set (OwnT.set h (j * 2) a (by omega)) (j * 2 + 1) b (by simp; omega)
  rw [cells2_set ps j (a, b)] at h9
  exact h9

/-- All of it: the row g of Binds, the rows gs of nodes, no two of them one. -/
structure TwoB (w : World) (g : Nat) (gs : List Nat) (bs : List (Int × List Nd)) : Prop where
  lead : OwnB w g (leadP gs bs)
  rows : RowsAt w gs (tys bs)
  nodup : gs.Nodup

theorem TwoB.below {w w' : World} {g : Nat} {gs : List Nat} {bs : List (Int × List Nd)} (h : TwoB w g gs bs) (hb : Below w.heap.size w w') : TwoB w' g gs bs :=
  ⟨OwnT.below h.lead hb, h.rows.below hb, h.nodup⟩

theorem TwoB.get {w : World} {g : Nat} {gs : List Nat} {bs : List (Int × List Nd)} (h : TwoB w g gs bs) (i : Nat) (hi : i < bs.length) (hi' : i < gs.length) :
    w.cell? ⟨g, i * 2, none⟩ = some (.int .i64 bs[i].1) ∧ w.cell? ⟨g, i * 2 + 1, none⟩ = some (.slice (some ⟨gs[i], 0, none⟩) bs[i].2.length bs[i].2.length) ∧ Row w gs[i] bs[i].2 := by
  obtain ⟨h1, h2⟩ := h.lead.at i (by simp [leadP]; omega)
  have hr := h.rows.2 i hi' (by simpa [tys] using hi)
  rw [tys_get bs i hi] at hr
  refine ⟨?_, ?_, hr⟩
  · rw [h1]; simp [leadP]
  · rw [h2]; simp [leadP]

theorem TwoB.binds {w : World} {g : Nat} {gs : List Nat} {bs : List (Int × List Nd)} (h : TwoB w g gs bs) : Binds w (some ⟨g, 0, none⟩) bs := by
  intro i hi
  have hi' : i < gs.length := by have h9 := h.rows.1; simp [tys] at h9; omega
  obtain ⟨h0, hc, hr⟩ := h.get i hi hi'
  exact ⟨g, 0, _, _, rfl, by rw [Nat.zero_add]; exact h0, by rw [Nat.zero_add]; exact hc, hr.nodes⟩

theorem RowsAt.putB {w : World} {gs : List Nat} {kss : List (List Nd)} {g : Nat} {ps : List (Value × Value)} (h : RowsAt w gs kss) (ho : OwnB w g ps) (j : Nat) (a b : Value) : RowsAt ((w.setCell ⟨g, j * 2, none⟩ a).setCell ⟨g, j * 2 + 1, none⟩ b) gs kss :=
  ⟨h.1, fun i hi hi' => by
    have hr := h.2 i hi hi'
    exact (((But.refl (· = g) w).setCell (p := ⟨g, j * 2, none⟩) rfl a).setCell (p := ⟨g, j * 2 + 1, none⟩) rfl b).row hr (ho.ne hr)⟩

set_option maxHeartbeats 400000 in
theorem toBindS_any (bs : List (Int × List Nd)) (n : Nat) (HN : Hid (bs.length = n)) (ao : Option Addr) (cap : Nat) (w : World) (hx : Binds w ao bs) (hm : ∀ b ∈ bs, b.2.length ≤ 1048576) (hlen : n ≤ 1048576) :
    Calls Try.prog 16 #[.slice ao n cap] w fun e w' =>
      ∃ g gs, e = .returned (.slice (some ⟨g, 0, none⟩) n n) ∧ w.heap.size ≤ g ∧ (∀ x ∈ gs, w.heap.size ≤ x) ∧ TwoB w' g gs bs ∧ Below w.heap.size w w' := by
  have hmk := make_binds n hlen
  go_enter Try.func16, Try.ntmps16
  go_wp2
  clear hmk
  go_loopw [4] (fun i wr => ∃ (k : Nat) (gs : List Nat), k ≤ n ∧ i = .int .i64 k ∧ OwnB wr w.heap.size (leadP gs (bs.take k) ++ List.replicate (bs.length - k) noBind) ∧ RowsAt wr gs ((tys bs).take k) ∧ gs.Nodup ∧
    (∀ x ∈ gs, w.heap.size ≤ x ∧ x < wr.heap.size) ∧ Below w.heap.size w wr) (fun i _ => n - (intOf i).toNat)
  case atStart => exact ⟨0, [], Nat.zero_le _, rfl, ⟨_, [], heap_alloc_new _ _, by rw [made_binds, HN.out]; simp [leadP]⟩, ⟨by simp, fun i hi => by simp at hi⟩, by simp, by simp, (Below.refl _ _).alloc (Nat.le_refl _) _⟩
  case round =>
    obtain ⟨k, gs, hk, rfl, hown, hrows, hnd, hgs, hb⟩ := hrel
    by_cases hlt : k < n
    · have hltk : k < bs.length := by have := HN.out; omega
      have hltt : k < (tys bs).length := by simpa [tys] using hltk
      obtain ⟨b, o, ai, ci, rfl, hc0, hc, hn⟩ := hx.below hb k hltk
      have hmk := hm bs[k] (List.getElem_mem hltk)
      have hgl : gs.length = k := by have := hrows.1; simp at this; omega
      have HST := leadP_step gs bs k
      have hty := tys_get bs k hltk
      obtain ⟨⟨bn, ks⟩, hbk⟩ : ∃ p, bs[k] = p := ⟨_, rfl⟩
      have HST2 : Hid (∀ g', (leadP gs (bs.take k) ++ List.replicate (bs.length - k) noBind).set k (.int .i64 bn, .slice (some ⟨g', 0, none⟩) ks.length ks.length) = leadP (gs ++ [g']) (bs.take (k + 1)) ++ List.replicate (bs.length - (k + 1)) noBind) := by
        intro g'
        have h9 := HST g' hltk hgl
        rw [hbk] at h9
        exact h9
      rw [hbk] at hc0 hc hn hmk hty
      simp only at hc0 hc hn hmk hty
      obtain ⟨l, hl9⟩ : ∃ l, ks.length = l := ⟨_, rfl⟩
      have HL : Hid (ks.length = l) := hl9
      rw [hl9] at hc hmk HST2
      have HTY : Hid ((tys bs)[k] = ks) := hty
      clear hx hm HST hl9 hbk hty
      have HGS : Hid (∀ x ∈ gs, w.heap.size ≤ x ∧ x < wr.heap.size) := hgs
      have HND : Hid gs.Nodup := hnd
      have HGL : Hid (gs.length = k) := hgl
      clear hgs hnd hgl
      go_wp2_with fail
      refine (toBind_any bn ks l HL ai ci wr hn hmk).mono ?_
      rintro e w1 ⟨g', rfl, hg', hrow, hb1⟩
      have o1 : OwnB w1 w.heap.size _ := OwnT.below hown hb1
      have f0 := OwnT.frozen o1 (k * 2)
      have f1 := OwnT.frozen o1 (k * 2 + 1)
      have hll : k < (leadP gs (bs.take k) ++ List.replicate (bs.length - k) noBind).length := by
        have := HGL.out; simp [leadP]; omega
      obtain ⟨a0, a1⟩ := o1.at k hll
      have r1 := (hrows.below hb1).snoc hltt (by rw [HTY.out]; exact hrow)
      have r2 := r1.putB o1 k (.int .i64 bn) (.slice (some ⟨g', 0, none⟩) l l)
      have o2 := o1.put k hll (.int .i64 bn) (.slice (some ⟨g', 0, none⟩) l l)
      rw [HST2.out g'] at o2
      have hbb := ((Below.step hb hb1).setCell (p := ⟨w.heap.size, k * 2, none⟩) (Nat.le_refl _) (.int .i64 bn)).setCell (p := ⟨w.heap.size, k * 2 + 1, none⟩) (Nat.le_refl _) (.slice (some ⟨g', 0, none⟩) l l)
      have HG2 : Hid (∀ x ∈ gs ++ [g'], w.heap.size ≤ x ∧ x < ((w1.setCell ⟨w.heap.size, k * 2, none⟩ (.int .i64 bn)).setCell ⟨w.heap.size, k * 2 + 1, none⟩ (.slice (some ⟨g', 0, none⟩) l l)).heap.size) := by
        intro x hx
        rw [size_setCell, size_setCell]
        rcases List.mem_append.1 hx with h | h
        · have := HGS.out x h; have := hb1.size; omega
        · simp at h; subst h; have := hb.size; have := hrow.lt; omega
      have HN2 : Hid (gs ++ [g']).Nodup := by
        refine List.nodup_append.2 ⟨HND.out, by simp, ?_⟩
        intro x hx y hy
        simp at hy
        subst hy
        have := HGS.out x hx
        omega
      generalize (leadP gs (bs.take k) ++ List.replicate (bs.length - k) noBind)[k].1 = v0 at a0
      generalize (leadP gs (bs.take k) ++ List.replicate (bs.length - k) noBind)[k].2 = v1 at a1
      clear hrow hown hrows hb hb1 o1 r1 hc hn hg' hc0 hll
      go_wp2
      go_roundw
      case rel => exact ⟨k + 1, gs ++ [g'], by omega, by go_num, o2, r2, HN2.out, HG2.out, hbb⟩
      case measure => simp [intOf]; omega
    · have hke : k = n := by omega
      subst hke
      have HE : Hid (bs.take k = bs) := List.take_of_length_le (by have := HN.out; omega)
      have HE2 : Hid ((tys bs).take k = tys bs) := List.take_of_length_le (by have := HN.out; simp [tys]; omega)
      have HT : Hid (TwoB wr w.heap.size gs bs) := by
        rw [HE.out] at hown
        rw [HE2.out] at hrows
        have e : bs.length - k = 0 := by have := HN.out; omega
        rw [e] at hown
        exact ⟨by simpa using hown, hrows, hnd⟩
      clear hx hm hown hrows hnd
      go_wp2
      go_ret
      exact ⟨_, gs, rfl, Nat.le_refl _, fun x hx => (hgs x hx).1, HT.out, hb⟩

end Go.Proofs.Ytngomcicdcgldab

namespace Go.Proofs.Ytngomcicdcgldab
open Go.RowKit

/-- What l8Bound answers. -/
def boundIn (bs : List (Int × List Nd)) (x : Int) : Int := if placeIn (bs.map Prod.fst) x < bs.length then (placeIn (bs.map Prod.fst) x : Int) else -1

set_option maxHeartbeats 1000000 in
theorem bound_any (bs : List (Int × List Nd)) (n : Nat) (HM : Hid (bs.length = n)) (hn : n ≤ 1048576) (x : Int) (ao : Option Addr) (cap : Nat) (w : World) (hr : Binds w ao bs) :
    Calls Try.prog 36 #[.slice ao n cap, .int .i64 x] w fun e w' => e = .returned (.int .i64 (boundIn bs x)) ∧ Below w.heap.size w w' := by
  go_enter Try.func36, Try.ntmps36
  go_wp2
  go_loopw [5] (fun i wr => ∃ (k : Nat), k ≤ n ∧ i = .int .i64 k ∧ (∀ i (h : i < (bs.map Prod.fst).length), i < k → (bs.map Prod.fst)[i] ≠ x) ∧ Below w.heap.size w wr) (fun i _ => n - (intOf i).toNat)
  case atStart => exact ⟨0, Nat.zero_le _, rfl, fun i _ h => absurd h (by omega), Below.refl _ _⟩
  case round =>
    obtain ⟨k, hk, rfl, hall, hb⟩ := hrel
    by_cases hlt : k < n
    · have hltx : k < bs.length := by have := HM.out; omega
      have hltm : k < (bs.map Prod.fst).length := by simp; exact hltx
      obtain ⟨b, o, ai, ci, rfl, c0, _, _⟩ := hr.below hb k hltx
      have hlb : b < wr.heap.size := lt_of_cell c0
      by_cases he : bs[k].1 = x
      · have HV : Hid (boundIn bs x = (k : Int)) := by
          have h9 := placeIn_found (x := x) hltm (by simpa using he) hall
          show boundIn bs x = _
          unfold boundIn
          rw [h9, if_pos hltx]
        rw [he] at c0
        have te : ((x : Int) == x) = true := by simp
        clear hall hr he
        go_wp2
        go_ret
        exact ⟨by rw [HV.out]; rfl, hb⟩
      · have te : (bs[k].1 == x) = false := by simpa using he
        have HA : Hid (∀ i (h : i < (bs.map Prod.fst).length), i < k + 1 → (bs.map Prod.fst)[i] ≠ x) := by
          intro i h hi
          by_cases e : i = k
          · subst e; simpa using he
          · exact hall i h (by omega)
        obtain ⟨v, hv⟩ : ∃ v, bs[k].1 = v := ⟨_, rfl⟩
        rw [hv] at c0 te
        clear hall hr he hv
        go_wp2
        go_roundw
        case rel => exact ⟨k + 1, by omega, by go_num, HA.out, hb⟩
        case measure => simp [intOf]; omega
    · have HV : Hid (boundIn bs x = -1) := by
        have h9 := placeIn_none (met := bs.map Prod.fst) (x := x) (fun i h => hall i h (by have := HM.out; simp at h; omega))
        show boundIn bs x = _
        unfold boundIn
        rw [h9, if_neg (by simp)]
      clear hall hr
      go_wp2
      go_ret
      exact ⟨by rw [HV.out]; rfl, hb⟩

theorem But.cell {S : Nat → Prop} {w w' : World} (h : But S w w') {b o : Nat} (hlt : b < w.heap.size) (hn : ¬ S b) : w'.cell? ⟨b, o, none⟩ = w.cell? ⟨b, o, none⟩ :=
  World.cell?_of_block (a := ⟨b, o, none⟩) (h.block b hlt hn)

theorem Nodes.but {S : Nat → Prop} {w w' : World} {ao : Option Addr} {xs : List Nd} (h : Nodes w ao xs) (hb : But S w w') (hd : ∀ b o, ao = some ⟨b, o, none⟩ → ¬ S b) : Nodes w' ao xs := by
  intro i hi
  obtain ⟨b, o, e, c0, c1, c2, c3, c4⟩ := h i hi
  have hlt : b < w.heap.size := lt_of_cell c0
  have hn := hd b o e
  exact ⟨b, o, e, (hb.cell hlt hn).trans c0, (hb.cell hlt hn).trans c1, (hb.cell hlt hn).trans c2, (hb.cell hlt hn).trans c3, (hb.cell hlt hn).trans c4⟩

theorem But.grown {S : Nat → Prop} {w a b : World} {g : Nat} (h : But S w a) (hg : a.grownBy b (some g)) (hs : g < w.heap.size → S g) : But S w b :=
  ⟨hg.os.trans h.os, hg.tape.trans h.tape, hg.output.trans h.output, Nat.le_trans h.size hg.size, fun i hi hn => (hg.block i (Nat.lt_of_lt_of_le hi h.size) (by
    intro e
    simp only [Option.some.injEq] at e
    subst e
    exact hn (hs hi))).trans (h.block i hi hn)⟩

theorem But.alloc {S : Nat → Prop} {w a : World} (h : But S w a) (o : Obj) : But S w (a.alloc o) := h.trans (But.ofBelow ((Below.refl _ _).alloc (Nat.le_refl _) _))

set_option maxHeartbeats 1000000 in
theorem append_any (B g c l q : Nat) (zs ys : List Nd) (HQ : Hid (ys.length = q)) (hq : q ≤ 1048576) (hl : l ≤ 1048576) (bo : Option Addr) (cap : Nat) (w : World) (ho : OwnN w B g c l zs) (hy : Nodes w bo ys) (hd : ∀ b o, bo = some ⟨b, o, none⟩ → b ≠ g) :
    Calls Try.prog 64 #[.slice (some ⟨g, 0, none⟩) l c, .slice bo q cap] w fun e w' => ∃ g' c', e = .returned (.slice (some ⟨g', 0, none⟩) (l + q) c') ∧ OwnN w' B g' c' (l + q) (zs ++ ys) ∧ (g' = g ∨ w.heap.size ≤ g') ∧ But (· = g) w w' := by
  obtain ⟨i0, hi, hz0, hz1, hz2⟩ := info_parts Try.infoN
  have hgl := (owns_block ho.2).2
  go_enter Try.func64, Try.ntmps64
  go_wp2
  go_loopw [0, 5] (fun v p wr => ∃ (k g' c' : Nat), k ≤ q ∧ p = .int .i64 k ∧ v = .slice (some ⟨g', 0, none⟩) (l + k) c' ∧ OwnN wr B g' c' (l + k) (zs ++ ys.take k) ∧ (g' = g ∨ w.heap.size ≤ g') ∧ But (· = g) w wr) (fun _ p _ => q - (intOf p).toNat)
  case atStart => exact ⟨0, g, c, Nat.zero_le _, rfl, rfl, by simpa using ho, Or.inl rfl, But.refl _ _⟩
  case round =>
    obtain ⟨k, g', c', hk, rfl, rfl, hown, hgg, hb⟩ := hrel
    by_cases hlt : k < q
    · have hltk : k < ys.length := by have := HQ.out; omega
      obtain ⟨b, o, rfl, hn⟩ := (hy.but hb hd) k hltk
      obtain ⟨x, hxk⟩ : ∃ x, ys[k] = x := ⟨_, rfl⟩
      rw [hxk] at hn
      obtain ⟨c0, c1, c2, c3, c4⟩ := hn
      have HT : Hid (zs ++ ys.take (k + 1) = zs ++ ys.take k ++ [x]) := by show zs ++ ys.take (k + 1) = _; rw [List.take_succ_eq_append_getElem hltk, hxk, List.append_assoc]
      have hob := owns_block hown.2
      clear hy hxk ho hd
      go_wp2_with (at_builtin; refine wpList_append2 _ rfl (.tmp 12) (.tmp 17) 27 rfl B 48 i0 _ 5 48 Try.underlying27 hi hz0 hz1 hz2 rfl (by decide) g' (l + k) c' _ rfl (hown.alloc _).2 ⟨_, 0, none⟩ 1 1 x.row rfl rfl (nd_new_cells _ x) (nd_row_one x) ?a3 ?a4 ?a5 ?_)
      case a3 => unfold maxLen; omega
      case a4 => omega
      case a5 => have := hb.size; simp; omega
      intro g2 c2' w2 hown2 hgrow2 hwh
      have hO := OwnN.push hown2 hown.1 rfl
      rw [← HT.out] at hO
      have hbb : But (· = g) w w2 := (hb.alloc _).grown hgrow2 (by intro h; rcases hgg with h9 | h9 <;> omega)
      have hg2 : g2 = g ∨ w.heap.size ≤ g2 := by
        have := hb.size
        rcases hwh with h | h
        · rcases hgg with h9 | h9 <;> omega
        · right
          omega
      clear hown2 hgrow2 hwh hown hb c0 c1 c2 c3 c4
      go_wp2
      go_roundw
      case rel => exact ⟨k + 1, g2, c2', by omega, by go_num, rfl, hO, hg2, hbb⟩
      case measure => simp [intOf]; omega
    · have hke : k = q := by omega
      subst hke
      rw [List.take_of_length_le (by have := HQ.out; omega)] at hown
      clear hy ho hd
      go_wp2
      go_ret
      exact ⟨_, _, rfl, hown, hgg, hb⟩

/-- What Put lays in the place of a node. -/
def putSub (bs : List (Int × List Nd)) (n : Nd) : List Nd := if n.kind = 61 then ((bs[placeIn (bs.map Prod.fst) n.num]?).map Prod.snd).getD [n] else [n]

def putAll (bs : List (Int × List Nd)) (t : List Nd) : List Nd := t.flatMap (putSub bs)

/-- What Put answers. -/
def putOf (bs : List (Int × List Nd)) (t : List Nd) : List Nd := if typeb t = true ∧ (∀ b ∈ bs, typeb b.2 = true) ∧ (putAll bs t).length ≤ 300 then putAll bs t else []

theorem putAll_take (bs : List (Int × List Nd)) (t : List Nd) (k : Nat) (h : k < t.length) : putAll bs (t.take (k + 1)) = putAll bs (t.take k) ++ putSub bs t[k] := by
  rw [List.take_succ_eq_append_getElem h]
  simp only [putAll, List.flatMap_append, List.flatMap_cons, List.flatMap_nil, List.append_nil]

theorem putAll_le (bs : List (Int × List Nd)) (t : List Nd) (k : Nat) : (putAll bs (t.take k)).length ≤ (putAll bs t).length := by
  have e : putAll bs t = putAll bs (t.take k) ++ putAll bs (t.drop k) := by
    conv => lhs; rw [← List.take_append_drop k t]
    simp only [putAll, List.flatMap_append]
  rw [e]
  simp

theorem typeb_pos {t : List Nd} (h : typeb t = true) : 0 < t.length := by
  simp only [typeb, Bool.and_eq_true, decide_eq_true_eq] at h
  by_cases h0 : t.length = 0
  · have := deepOf_nil h0
    omega
  · omega

theorem typeb_len {t : List Nd} (h : typeb t = true) : t.length ≤ 300 := by
  simp only [typeb, Bool.and_eq_true, decide_eq_true_eq] at h
  exact h.1.1

set_option maxRecDepth 100000 in
set_option maxHeartbeats 2000000 in
theorem specPut_any (bs : List (Int × List Nd)) (n : Nat) (HN : Hid (bs.length = n)) (hn : n ≤ 1048576) (hm : ∀ b ∈ bs, b.2.length ≤ 1048576) (t : List Nd) (m : Nat) (HM : Hid (t.length = m)) (hml : m ≤ 1048576) (ao bo : Option Addr) (ca cb : Nat) (w : World) (hbs : Binds w ao bs) (hx : Nodes w bo t) :
    Calls Try.prog 37 #[.slice ao n ca, .slice bo m cb] w fun e w' => ∃ g c l, e = .returned (.slice (some ⟨g, 0, none⟩) l c) ∧ w.heap.size ≤ g ∧ (putOf bs t).length = l ∧ Row w' g (putOf bs t) ∧ Below w.heap.size w w' := by
  obtain ⟨i0, hi, hz0, hz1, hz2⟩ := info_parts Try.infoN
  go_enter Try.func37, Try.ntmps37
  have hA : Below w.heap.size w (w.alloc (.cells #[] 48)) := (Below.refl _ w).alloc (Nat.le_refl _) _
  have hO := OwnN.empty (w := w) (B := w.heap.size) (Nat.le_refl _)
  go_wp2_with fail
  refine (isType_any t m HM hml bo cb _ (hx.below hA)).mono ?_
  rintro e w1 ⟨rfl, hb1⟩
  have hO1 := hO.below hb1
  have hb := Below.step hA hb1
  clear hO hA hb1
  cases ht : typeb t
  · have HV : Hid (putOf bs t = []) := by
      show putOf bs t = []
      unfold putOf
      rw [if_neg (fun h => by rw [ht] at h; exact absurd h.1 (by decide))]
    obtain ⟨hg, hr⟩ := hO1.row
    clear hO1 hx hbs hm
    go_wp2
    go_ret
    exact ⟨_, _, _, rfl, hg, by rw [HV.out]; rfl, by rw [HV.out]; exact hr, hb⟩
  · have h3 : m ≤ 300 := by have := typeb_len ht; have := HM.out; omega
    have HT : Hid (typeb t = true) := ht
    clear ht
    go_wp2
    go_loopw [6] (fun p wr => ∃ (k : Nat), k ≤ n ∧ p = .int .i64 k ∧ (∀ b ∈ bs.take k, typeb b.2 = true) ∧ OwnN wr w.heap.size w.heap.size 0 0 [] ∧ Below w.heap.size w wr) (fun p _ => n - (intOf p).toNat)
    case atStart => exact ⟨0, Nat.zero_le _, rfl, by simp, hO1, hb⟩
    case round =>
      clear hO1 hb
      obtain ⟨k, hk, rfl, hall, hnone, hb⟩ := hrel
      by_cases hlt : k < n
      · have hltk : k < bs.length := by have := HN.out; omega
        obtain ⟨b, o, ai, ci, rfl, hc0, hc, hnd⟩ := hbs.below hb k hltk
        have hmk := hm bs[k] (List.getElem_mem hltk)
        have HS : Hid (typeb bs[k].2 = true → ∀ b ∈ bs.take (k + 1), typeb b.2 = true) := by
          intro h9 b hb9
          rw [List.take_succ_eq_append_getElem hltk] at hb9
          rcases List.mem_append.1 hb9 with h8 | h8
          · exact hall b h8
          · simp at h8
            subst h8
            exact h9
        have HF : Hid (typeb bs[k].2 = false → putOf bs t = []) := by
          intro h9
          unfold putOf
          rw [if_neg (fun h => by have := h.2.1 bs[k] (List.getElem_mem hltk); rw [h9] at this; exact absurd this (by decide))]
        obtain ⟨⟨bn, ks⟩, hks⟩ : ∃ p, bs[k] = p := ⟨_, rfl⟩
        rw [hks] at hc hnd hmk hc0 HS HF
        simp only at hc hnd hmk hc0 HS HF
        obtain ⟨l, hl⟩ : ∃ l, ks.length = l := ⟨_, rfl⟩
        have HL : Hid (ks.length = l) := hl
        rw [hl] at hc hmk
        have hlb : b < wr.heap.size := lt_of_cell hc
        clear hbs hx hm hks hl hall
        go_wp2_with fail
        refine (isType_any ks l HL hmk ai ci wr hnd).mono ?_
        rintro e w2 ⟨rfl, hb2⟩
        have hnone2 := hnone.below hb2
        have hbb := Below.step hb hb2
        clear hnone hb hb2 hc hc0 hnd
        cases hty : typeb ks
        · have HV : Hid (putOf bs t = []) := HF.out hty
          obtain ⟨hg, hr⟩ := hnone2.row
          clear hnone2
          go_wp2
          go_ret
          exact ⟨_, _, _, rfl, hg, by rw [HV.out]; rfl, by rw [HV.out]; exact hr, hbb⟩
        · have HA : Hid (∀ b ∈ bs.take (k + 1), typeb b.2 = true) := HS.out hty
          go_wp2
          go_roundw
          case rel => exact ⟨k + 1, by omega, by go_num, HA.out, hnone2, hbb⟩
          case measure => simp [intOf]; omega
      · have HA : Hid (∀ b ∈ bs, typeb b.2 = true) := by
          have h9 := hall
          rw [List.take_of_length_le (by have := HN.out; omega)] at h9
          exact h9
        have HV : Hid (putOf bs t = if (putAll bs t).length ≤ 300 then putAll bs t else []) := by
          show putOf bs t = _
          unfold putOf
          by_cases hle : (putAll bs t).length ≤ 300
          · rw [if_pos ⟨HT.out, HA.out, hle⟩, if_pos hle]
          · rw [if_neg (fun h => hle h.2.2), if_neg hle]
        have hO3 := OwnN.empty (w := wr) (B := w.heap.size) hb.size
        have hN3 := hnone.alloc (.cells #[] 48)
        have hb3 := hb.alloc hb.size (.cells #[] 48)
        have hnb := (owns_block hnone.2).2
        clear hall hnone hb
        go_wp2
        go_loopw [7, 8] (fun v p wq => ∃ (k g c l : Nat), k ≤ m ∧ p = .int .i64 k ∧ v = .slice (some ⟨g, 0, none⟩) l c ∧ l ≤ 300 ∧ OwnN wq w.heap.size g c l (putAll bs (t.take k)) ∧ g ≠ w.heap.size ∧ OwnN wq w.heap.size w.heap.size 0 0 [] ∧ Below w.heap.size w wq) (fun _ p _ => m - (intOf p).toNat)
        case atStart => exact ⟨0, wr.heap.size, 0, 0, Nat.zero_le _, rfl, rfl, by omega, by simpa [putAll] using hO3, by omega, hN3, hb3⟩
        case round =>
          clear hO3 hN3 hb3 hnb
          obtain ⟨k, g, c, l, hk, rfl, rfl, hl3, hown, hne, hnone, hb⟩ := hrel
          by_cases hlt : k < m
          · have hltx : k < t.length := by have := HM.out; omega
            obtain ⟨⟨kd, nm, tx, ks, pl⟩, hxk⟩ : ∃ x, t[k] = x := ⟨_, rfl⟩
            obtain ⟨b, o, rfl, hcx⟩ := hx.below hb k hltx
            rw [hxk] at hcx
            obtain ⟨c0, c1, c2, c3, c4⟩ := hcx
            simp only at c0 c1 c2 c3 c4
            have hlb : b < wr.heap.size := lt_of_cell c0
            have hob := owns_block hown.2
            have HS : Hid (putAll bs (t.take (k + 1)) = putAll bs (t.take k) ++ putSub bs ⟨kd, nm, tx, ks, pl⟩) := by
              show putAll bs (t.take (k + 1)) = _
              rw [putAll_take bs t k hltx, hxk]
            have HE : Hid (300 < (putAll bs (t.take (k + 1))).length → putOf bs t = []) := by
              intro h9
              have h8 := putAll_le bs t (k + 1)
              rw [HV.out, if_neg (by omega)]
            generalize putAll bs (t.take k) = acc at *
            clear hxk
            by_cases h61 : kd = 61
            · subst h61
              have hbd := hbs.below hb
              go_wp2_with fail
              refine (bound_any bs n HN hn nm ao ca wr hbd).mono ?_
              rintro e w3 ⟨rfl, hb3⟩
              have hown3 := hown.below hb3
              have hnone3 := hnone.below hb3
              have hbb3 := Below.step hb hb3
              have hob := owns_block hown3.2
              obtain ⟨d0, d1, d2, d3, d4⟩ : NodeAt w3 b (o + k * 5) ⟨61, nm, tx, ks, pl⟩ := NodeAt.below ⟨c0, c1, c2, c3, c4⟩ hb3
              simp only at d0 d1 d2 d3 d4
              have hlb3 : b < w3.heap.size := lt_of_cell d0
              clear hown hnone c0 c1 c2 c3 c4 hlb
              by_cases hpl : placeIn (bs.map Prod.fst) nm < bs.length
              · obtain ⟨i, hie⟩ : ∃ i, placeIn (bs.map Prod.fst) nm = i := ⟨_, rfl⟩
                rw [hie] at hpl
                have HBI : Hid (boundIn bs nm = (i : Int)) := by
                  show boundIn bs nm = _
                  unfold boundIn
                  rw [hie, if_pos hpl]
                have hti := HA.out bs[i] (List.getElem_mem hpl)
                have HP : Hid (putSub bs ⟨61, nm, tx, ks, pl⟩ = bs[i].2) := by
                  show putSub bs _ = _
                  simp [putSub, hie, List.getElem?_eq_getElem hpl]
                obtain ⟨b9, o9, ai, ci, rfl, _, hcc0, hnn0⟩ := hbs i hpl
                have hcc := (hbb3.cell (p := ⟨b9, o9 + i * 2 + 1, none⟩) (lt_of_cell hcc0)).trans hcc0
                have hnn := hnn0.below hbb3
                have hdd : ∀ b o, ai = some ⟨b, o, none⟩ → b ≠ g := by
                  intro b8 o8 e8
                  obtain ⟨b7, o7, e7, hn7⟩ := hnn0 0 (typeb_pos hti)
                  rw [e7] at e8
                  simp only [Option.some.injEq, Addr.mk.injEq, and_true] at e8
                  have h6 : b7 < w.heap.size := lt_of_cell hn7.1
                  omega
                obtain ⟨ys, hys⟩ : ∃ ys, bs[i].2 = ys := ⟨_, rfl⟩
                rw [hys] at hcc hnn HP hti
                obtain ⟨q, hq⟩ : ∃ q, ys.length = q := ⟨_, rfl⟩
                have HQ : Hid (ys.length = q) := hq
                have hq3 : q ≤ 300 := by have := typeb_len hti; omega
                have hin : i < n := by have := HN.out; omega
                have hl9 : b9 < w3.heap.size := lt_of_cell hcc
                rw [hq] at hcc
                rw [HP.out] at HS
                rw [HBI.out]
                clear hnn0 hcc0 hti hys hq hie HP hbd
                go_wp2_with fail
                refine (append_any w.heap.size g c l q acc ys HQ (by omega) (by omega) ai ci w3 hown3 hnn hdd).mono ?_
                rintro e w4 ⟨g2, c2', rfl, hO, hg2, hbu⟩
                have hbb : Below w.heap.size w w4 := hbb3.trans (hbu.below hbb3.size (fun q hq => by omega))
                have hN := hnone3.but hbu (Ne.symm hne)
                have hne2 : g2 ≠ w.heap.size := by have := hbb3.size; have := (owns_block hnone3.2).2; omega
                rw [← HS.out] at hO
                have HLn : Hid ((putAll bs (t.take (k + 1))).length = l + q) := hO.1
                clear hown3 hnone3 hbb3 hbu hnn hcc hdd d0 d1 d2 d3 d4 hx hbs hm hb hb3
                by_cases h300 : l + q ≤ 300
                · have tl : decide (((l : Int) + (q : Int)) > 300) = false := decide_eq_false (by omega)
                  go_wp2
                  go_roundw
                  case rel => exact ⟨k + 1, g2, c2', l + q, by omega, by go_num, rfl, h300, hO, hne2, hN, hbb⟩
                  case measure => simp [intOf]; omega
                · have tl : decide (((l : Int) + (q : Int)) > 300) = true := decide_eq_true (by omega)
                  have HW : Hid (putOf bs t = []) := HE.out (by have := HLn.out; omega)
                  obtain ⟨hg, hr⟩ := hN.row
                  clear hO hN
                  go_wp2
                  go_ret
                  exact ⟨_, _, _, rfl, hg, by rw [HW.out]; rfl, by rw [HW.out]; exact hr, hbb⟩
              · have HBI : Hid (boundIn bs nm = -1) := by
                  show boundIn bs nm = _
                  unfold boundIn
                  rw [if_neg hpl]
                have HP : Hid (putSub bs ⟨61, nm, tx, ks, pl⟩ = [⟨61, nm, tx, ks, pl⟩]) := by
                  show putSub bs _ = _
                  simp only [putSub]
                  rw [if_pos trivial, List.getElem?_eq_none (by omega)]
                  rfl
                rw [HP.out] at HS
                rw [HBI.out]
                clear HP hpl hbd hb hb3
                have hcells := nd_new_cells w3 ⟨61, nm, tx, ks, pl⟩
                go_wp2_with (at_builtin; refine wpList_append2 _ rfl (.tmp 58) (.tmp 63) 27 rfl w.heap.size 48 i0 _ 5 48 Try.underlying27 hi hz0 hz1 hz2 rfl (by decide) g l c _ rfl (hown3.alloc _).2 ⟨_, 0, none⟩ 1 1 (Nd.row ⟨61, nm, tx, ks, pl⟩) rfl rfl hcells (nd_row_one _) ?a3 ?a4 ?a5 ?_)
                case a3 => unfold maxLen; omega
                case a4 => omega
                case a5 => have := hbb3.size; simp; omega
                intro g2 c2' w2 hown4 hgrow2 hwh
                have hO := OwnN.push hown4 hown3.1 rfl
                have hbb : Below w.heap.size w w2 := (hbb3.alloc hbb3.size _).grown hgrow2 (by have := hbb3.size; simp; omega) (fun q hq => by cases hq; exact hob.1)
                have hN := (hnone3.alloc _).kept hgrow2 (Ne.symm hne)
                have hne2 : g2 ≠ w.heap.size := by have := (owns_block hnone3.2).2; rcases hwh with h | h <;> (try simp at h) <;> omega
                rw [← HS.out] at hO
                have HLn : Hid ((putAll bs (t.take (k + 1))).length = l + 1) := hO.1
                clear hown4 hgrow2 hwh hown3 hnone3 hbb3 hcells d0 d1 d2 d3 d4 hx hbs hm
                by_cases h300 : l + 1 ≤ 300
                · have tl : decide (((l : Int) + 1) > 300) = false := decide_eq_false (by omega)
                  go_wp2
                  go_roundw
                  case rel => exact ⟨k + 1, g2, c2', l + 1, by omega, by go_num, rfl, h300, hO, hne2, hN, hbb⟩
                  case measure => simp [intOf]; omega
                · have tl : decide (((l : Int) + 1) > 300) = true := decide_eq_true (by omega)
                  have HW : Hid (putOf bs t = []) := HE.out (by have := HLn.out; omega)
                  obtain ⟨hg, hr⟩ := hN.row
                  clear hO hN
                  go_wp2
                  go_ret
                  exact ⟨_, _, _, rfl, hg, by rw [HW.out]; rfl, by rw [HW.out]; exact hr, hbb⟩
            · have t61 : ((kd : Int) == 61) = false := by simpa using h61
              have HP : Hid (putSub bs ⟨kd, nm, tx, ks, pl⟩ = [⟨kd, nm, tx, ks, pl⟩]) := by
                show putSub bs _ = _
                simp [putSub, h61]
              rw [HP.out] at HS
              clear h61 HP
              have hcells := nd_new_cells wr ⟨kd, nm, tx, ks, pl⟩
              go_wp2_with (at_builtin; refine wpList_append2 _ rfl (.tmp 58) (.tmp 63) 27 rfl w.heap.size 48 i0 _ 5 48 Try.underlying27 hi hz0 hz1 hz2 rfl (by decide) g l c _ rfl (hown.alloc _).2 ⟨_, 0, none⟩ 1 1 (Nd.row ⟨kd, nm, tx, ks, pl⟩) rfl rfl hcells (nd_row_one _) ?a3 ?a4 ?a5 ?_)
              case a3 => unfold maxLen; omega
              case a4 => omega
              case a5 => have := hb.size; simp; omega
              intro g2 c2' w2 hown4 hgrow2 hwh
              have hO := OwnN.push hown4 hown.1 rfl
              have hbb : Below w.heap.size w w2 := (hb.alloc hb.size _).grown hgrow2 (by have := hb.size; simp; omega) (fun q hq => by cases hq; exact hob.1)
              have hN := (hnone.alloc _).kept hgrow2 (Ne.symm hne)
              have hne2 : g2 ≠ w.heap.size := by have := (owns_block hnone.2).2; rcases hwh with h | h <;> (try simp at h) <;> omega
              rw [← HS.out] at hO
              have HLn : Hid ((putAll bs (t.take (k + 1))).length = l + 1) := hO.1
              clear hown4 hgrow2 hwh hown hnone hb hcells c0 c1 c2 c3 c4 hx hbs hm
              by_cases h300 : l + 1 ≤ 300
              · have tl : decide (((l : Int) + 1) > 300) = false := decide_eq_false (by omega)
                go_wp2
                go_roundw
                case rel => exact ⟨k + 1, g2, c2', l + 1, by omega, by go_num, rfl, h300, hO, hne2, hN, hbb⟩
                case measure => simp [intOf]; omega
              · have tl : decide (((l : Int) + 1) > 300) = true := decide_eq_true (by omega)
                have HW : Hid (putOf bs t = []) := HE.out (by have := HLn.out; omega)
                obtain ⟨hg, hr⟩ := hN.row
                clear hO hN
                go_wp2
                go_ret
                exact ⟨_, _, _, rfl, hg, by rw [HW.out]; rfl, by rw [HW.out]; exact hr, hbb⟩
          · have hke : k = m := by omega
            subst hke
            rw [List.take_of_length_le (by have := HM.out; omega)] at hown
            have HW : Hid (putOf bs t = putAll bs t) := by
              show putOf bs t = _
              rw [HV.out, if_pos (by have := hown.1; omega)]
            obtain ⟨hg, hr⟩ := hown.row
            have HL : Hid ((putAll bs t).length = l) := hown.1
            clear hown hnone hx hbs hm
            go_wp2
            go_ret
            exact ⟨_, _, _, rfl, hg, by rw [HW.out]; exact HL.out, by rw [HW.out]; exact hr, hb⟩

end Go.Proofs.Ytngomcicdcgldab

namespace Go.Proofs.Ytngomcicdcgldab
open Go.RowKit

set_option maxHeartbeats 1000000 in
theorem eqBindS_same (bs : List (Int × List Nd)) (n : Nat) (HN : Hid (bs.length = n)) (ao bo : Option Addr) (cap cbp : Nat) (w : World) (hx : Binds w ao bs) (hy : Binds w bo bs) (hm : ∀ b ∈ bs, b.2.length ≤ 1048576) (hlx : n ≤ 1048576) :
    Calls Try.prog 9 #[.slice ao n cap, .slice bo n cbp] w fun e w' => e = .returned (.bool true) ∧ Below w.heap.size w w' := by
  go_enter Try.func9, Try.ntmps9
  go_wp2
  go_loopw [5] (fun i wr => ∃ (k : Nat), k ≤ n ∧ i = .int .i64 k ∧ Below w.heap.size w wr) (fun i _ => n - (intOf i).toNat)
  case atStart => exact ⟨0, Nat.zero_le _, rfl, Below.refl _ _⟩
  case round =>
    obtain ⟨k, hk, rfl, hb⟩ := hrel
    by_cases hlt : k < n
    · have hltk : k < bs.length := by have := HN.out; omega
      obtain ⟨b, o, ai, ci, rfl, hc0, hc, hn⟩ := hx.below hb k hltk
      obtain ⟨b', o', ai', ci', rfl, hc0', hc', hn'⟩ := hy.below hb k hltk
      have hmk := hm bs[k] (List.getElem_mem hltk)
      obtain ⟨⟨bn, ks⟩, hks⟩ : ∃ p, bs[k] = p := ⟨_, rfl⟩
      rw [hks] at hc hc' hn hn' hmk hc0 hc0'
      simp only at hc hc' hn hn' hmk hc0 hc0'
      obtain ⟨l, hl⟩ : ∃ l, ks.length = l := ⟨_, rfl⟩
      have HL : Hid (ks.length = l) := hl
      rw [hl] at hc hc' hmk
      have hlb : b < wr.heap.size := lt_of_cell hc
      have hlb' : b' < wr.heap.size := lt_of_cell hc'
      have hB : Below wr.heap.size wr wr.drew := (Below.refl _ _).drew
      have hnd := hn.below hB
      have hnd' := hn'.below hB
      clear hx hy hm hks hl hn hn'
      go_wp2_with fail
      go_region_with (go_at_call 29; refine (eqBind_same bn ks l HL ai ai' ci ci' _ hnd hnd' (by omega)).mono ?_; rintro e w1 ⟨rfl, hb1⟩)
      all_goals
        have hbb := Below.step hb (undrew hb1)
        clear hb hb1 hc hc' hc0 hc0' hB hnd hnd'
        go_wp2
        go_roundw
        case rel => exact ⟨k + 1, by omega, by go_num, hbb⟩
        case measure => simp [intOf]; omega
    · clear hx hy hm
      go_wp2
      go_ret
      exact ⟨rfl, hb⟩

theorem set_same {α : Type} {xs : List α} {i : Nat} {v : α} (h : xs[i]? = some v) : xs.set i v = xs := by
  apply List.ext_getElem?
  intro j
  by_cases e : i = j
  · subst e
    have hl := (List.getElem?_eq_some_iff.1 h).1
    rw [List.getElem?_set_self hl, h]
  · rw [List.getElem?_set_ne e]

set_option maxHeartbeats 1000000 in
theorem markBindS_any (bs : List (Int × List Nd)) (n : Nat) (HN : Hid (bs.length = n)) (g : Nat) (gs : List Nat) (cap k : Nat) (w : World) (hx : TwoB w g gs bs) (ht : total (tys bs) ≤ 1048576) (hlx : n ≤ 1048576) (hk : k ≤ 10000000) (hk0 : 0 < k) :
    Calls Try.prog 12 #[.slice (some ⟨g, 0, none⟩) n cap, .int .i64 k] w fun e w' => e = .returned (.int .i64 (k + n + 5 * total (tys bs) : Nat)) ∧ But (fun q => q = g ∨ q ∈ gs) w w' := by
  have HG : Hid (gs.length = n) := by have h9 := hx.rows.1; simp [tys] at h9; exact h9.trans HN.out
  go_enter Try.func12, Try.ntmps12
  go_wp2
  go_loopw [1, 5] (fun a i wr => ∃ (j : Nat), j ≤ n ∧ i = .int .i64 j ∧ a = .int .i64 (k + j + 5 * total ((tys bs).take j) : Nat) ∧ (∃ ps, ps.length = n ∧ OwnB wr g ps ∧ ∀ i (h : i < ps.length) (h' : i < (leadP gs bs).length), ps[i].2 = (leadP gs bs)[i].2) ∧ (∀ i (h : i < gs.length) (h' : i < (tys bs).length), j ≤ i → Row wr gs[i] (tys bs)[i]) ∧ But (fun q => q = g ∨ q ∈ gs) w wr) (fun _ i _ => n - (intOf i).toNat)
  case atStart => exact ⟨0, Nat.zero_le _, rfl, rfl, ⟨leadP gs bs, by have := HG.out; have := HN.out; simp [leadP]; omega, hx.lead, fun _ _ _ => rfl⟩, fun i h h' _ => hx.rows.2 i h h', But.refl _ _⟩
  case round =>
    obtain ⟨j, hj, rfl, rfl, ⟨ps, hpl, hown, hps⟩, hrows, hb⟩ := hrel
    by_cases hlt : j < n
    · have hltk : j < bs.length := by have := HN.out; omega
      have hltt : j < (tys bs).length := by simpa [tys] using hltk
      have hltg : j < gs.length := by have := HG.out; omega
      obtain ⟨a0, a1⟩ := hown.at j (by omega)
      have hle : j < (leadP gs bs).length := by simp [leadP]; omega
      rw [hps j (by omega) hle] at a1
      have hlp : (leadP gs bs)[j].2 = .slice (some ⟨gs[j], 0, none⟩) (tys bs)[j].length (tys bs)[j].length := by
        rw [tys_get bs j hltk]; simp [leadP]
      rw [hlp] at a1
      have hr := hrows j hltg hltt (Nat.le_refl _)
      have hts := total_take_succ (tys bs) j hltt
      have htl := total_take_le (tys bs) (j + 1)
      obtain ⟨q, hq⟩ : ∃ q, k + j + 5 * total ((tys bs).take j) = q := ⟨_, rfl⟩
      obtain ⟨l, hl⟩ : ∃ l, (tys bs)[j].length = l := ⟨_, rfl⟩
      have HQ : Hid (k + (j + 1) + 5 * total ((tys bs).take (j + 1)) = q + 1 + 5 * l) := by show k + (j + 1) + 5 * total ((tys bs).take (j + 1)) = q + 1 + 5 * l; omega
      have hq1 : q ≤ 20000000 := by omega
      have hl1 : l ≤ 1048576 := by omega
      have hq0 : 0 < q := by omega
      have HL : Hid ((tys bs)[j].length = l) := hl
      have hne := hown.ne hr
      have HND : Hid gs.Nodup := hx.nodup
      have f0 := OwnT.frozen hown (j * 2)
      have hgl := OwnT.lt hown
      rw [hq]
      rw [hl] at a1
      obtain ⟨v0, hv0⟩ : ∃ v, ps[j].1 = v := ⟨_, rfl⟩
      rw [hv0] at a0
      have bS : But (· = g) wr (wr.setCell ⟨g, j * 2, none⟩ (.int .i64 (q : Int))) := (But.refl (· = g) wr).setCell (p := ⟨g, j * 2, none⟩) rfl _
      have hrS := bS.row hr hne
      have HR : Hid (∀ i (h : i < gs.length) (h' : i < (tys bs).length), j ≤ i → Row (wr.setCell ⟨g, j * 2, none⟩ (.int .i64 (q : Int))) gs[i] (tys bs)[i]) := fun i h h' hi => bS.row (hrows i h h' hi) (hown.ne (hrows i h h' hi))
      have hoS : OwnB (wr.setCell ⟨g, j * 2, none⟩ (.int .i64 (q : Int))) g (ps.set j (.int .i64 (q : Int), .slice (some ⟨gs[j], 0, none⟩) l l)) := by
        have h9 := OwnT.set hown (j * 2) (.int .i64 (q : Int)) (by rw [cells2_length]; omega)
        have e9 : (cells2 ps).set (j * 2) (.int .i64 (q : Int)) = cells2 (ps.set j (.int .i64 (q : Int), .slice (some ⟨gs[j], 0, none⟩) l l)) := by
          rw [← cells2_set ps j (.int .i64 (q : Int), .slice (some ⟨gs[j], 0, none⟩) l l)]
          have h8 := (cells2_get ps j (by omega)).2
          rw [hps j (by omega) hle, hlp, hl] at h8
          have h7 : ((cells2 ps).set (j * 2) (.int .i64 (q : Int)))[j * 2 + 1]? = some (.slice (some ⟨gs[j], 0, none⟩) l l) := by
            rw [List.getElem?_set_ne (by omega)]; exact h8
          exact (set_same h7).symm
        rw [e9] at h9
        exact h9
      have HPS : Hid (∀ i (h : i < (ps.set j (.int .i64 (q : Int), .slice (some ⟨gs[j], 0, none⟩) l l)).length) (h' : i < (leadP gs bs).length), (ps.set j (.int .i64 (q : Int), .slice (some ⟨gs[j], 0, none⟩) l l))[i].2 = (leadP gs bs)[i].2) := by
        intro i h h'
        by_cases e : i = j
        · subst e
          rw [List.getElem_set_self, hlp, hl]
        · rw [List.getElem_set_ne (by omega)]
          exact hps i (by simpa using h) h'
      have bbS : But (fun q => q = g ∨ q ∈ gs) w (wr.setCell ⟨g, j * 2, none⟩ (.int .i64 (q : Int))) := hb.trans (bS.mono (fun q hq => Or.inl hq))
      clear hts htl hq hl hx hrows hps hown hlp hv0 hle hr bS
      go_wp2_with fail
      refine (markNodeS_any (tys bs)[j] l gs[j] l (q + 1) _ HL hrS (by omega) (by omega) (by omega)).mono ?_
      rintro e w1 ⟨rfl, _, hb1⟩
      have o1 : OwnB w1 g _ := OwnT.but hoS hb1 (fun e => hne e.symm)
      have bb := bbS.trans (hb1.mono (fun q hq => Or.inr (by rw [hq]; exact List.getElem_mem hltg)))
      have HR2 : Hid (∀ i (h : i < gs.length) (h' : i < (tys bs).length), j + 1 ≤ i → Row w1 gs[i] (tys bs)[i]) := by
        intro i h h' hi
        refine hb1.row (HR.out i h h' (by omega)) ?_
        intro e
        have := (List.getElem_inj (h₀ := h) (h₁ := hltg) HND.out).1 e
        omega
      clear hb hb1 hoS hne HR bbS a0 a1 f0 hrS
      go_wp2
      go_roundw
      case rel => exact ⟨j + 1, by omega, by go_num, by rw [HQ.out]; go_num, ⟨_, by simp [hpl], o1, HPS.out⟩, HR2.out, bb⟩
      case measure => simp [intOf]; omega
    · have hje : j = n := by omega
      subst hje
      have HE : Hid ((tys bs).take j = tys bs) := List.take_of_length_le (by have := HN.out; simp [tys]; omega)
      clear hx hrows hown hps
      go_wp2
      go_ret
      exact ⟨by rw [HE.out]; congr 1, hb⟩

end Go.Proofs.Ytngomcicdcgldab

namespace Go.Proofs.Ytngomcicdcgldab
open Go.RowKit

/-- The Binds that lead to rows with capacities. -/
def leadR (rs : List (Nat × Nat)) (bs : List (Int × List Nd)) : List (Value × Value) := List.zipWith (fun r b => (.int .i64 b.1, .slice (some ⟨r.1, 0, none⟩) b.2.length r.2)) rs bs

/-- A row of Binds, the rows of nodes to which they lead, no two of them one. -/
structure TwoR (w : World) (g : Nat) (rs : List (Nat × Nat)) (bs : List (Int × List Nd)) : Prop where
  len : rs.length = bs.length
  lead : OwnB w g (leadR rs bs)
  rows : ∀ i (h : i < rs.length) (h' : i < bs.length), Row w rs[i].1 bs[i].2
  nodup : (rs.map Prod.fst).Nodup

theorem TwoR.below {w w' : World} {g : Nat} {rs : List (Nat × Nat)} {bs : List (Int × List Nd)} (h : TwoR w g rs bs) (hb : Below w.heap.size w w') : TwoR w' g rs bs :=
  ⟨h.len, OwnT.below h.lead hb, fun i hi hi' => (h.rows i hi hi').below hb, h.nodup⟩

theorem TwoR.but {S : Nat → Prop} {w w' : World} {g : Nat} {rs : List (Nat × Nat)} {bs : List (Int × List Nd)} (h : TwoR w g rs bs) (hb : But S w w') (hg : ¬ S g) (hr : ∀ r ∈ rs, ¬ S r.1) : TwoR w' g rs bs :=
  ⟨h.len, OwnT.but h.lead hb hg, fun i hi hi' => hb.row (h.rows i hi hi') (hr _ (List.getElem_mem hi)), h.nodup⟩

theorem TwoR.lt {w : World} {g : Nat} {rs : List (Nat × Nat)} {bs : List (Int × List Nd)} (h : TwoR w g rs bs) : g < w.heap.size := OwnT.lt h.lead

theorem TwoR.mem_lt {w : World} {g : Nat} {rs : List (Nat × Nat)} {bs : List (Int × List Nd)} (h : TwoR w g rs bs) : ∀ r ∈ rs, r.1 < w.heap.size ∧ r.1 ≠ g := by
  intro r hr
  obtain ⟨i, hi, rfl⟩ := List.getElem_of_mem hr
  have hrow := h.rows i hi (by have := h.len; omega)
  exact ⟨hrow.lt, OwnB.ne h.lead hrow⟩

theorem leadR_get (rs : List (Nat × Nat)) (bs : List (Int × List Nd)) (i : Nat) (hr : i < rs.length) (hb : i < bs.length) : (leadR rs bs)[i]'(by simp [leadR]; omega) = (.int .i64 bs[i].1, .slice (some ⟨rs[i].1, 0, none⟩) bs[i].2.length rs[i].2) := by simp [leadR]

theorem leadR_length (rs : List (Nat × Nat)) (bs : List (Int × List Nd)) (h : rs.length = bs.length) : (leadR rs bs).length = bs.length := by simp [leadR, h]

theorem TwoR.get {w : World} {g : Nat} {rs : List (Nat × Nat)} {bs : List (Int × List Nd)} (h : TwoR w g rs bs) (i : Nat) (hi : i < bs.length) (hi' : i < rs.length) :
    w.cell? ⟨g, i * 2, none⟩ = some (.int .i64 bs[i].1) ∧ w.cell? ⟨g, i * 2 + 1, none⟩ = some (.slice (some ⟨rs[i].1, 0, none⟩) bs[i].2.length rs[i].2) ∧ Row w rs[i].1 bs[i].2 := by
  obtain ⟨h1, h2⟩ := h.lead.at i (by rw [leadR_length rs bs h.len]; exact hi)
  rw [leadR_get rs bs i hi' hi] at h1 h2
  exact ⟨h1, h2, h.rows i hi' hi⟩

theorem TwoR.binds {w : World} {g : Nat} {rs : List (Nat × Nat)} {bs : List (Int × List Nd)} (h : TwoR w g rs bs) : Binds w (some ⟨g, 0, none⟩) bs := by
  intro i hi
  obtain ⟨h0, hc, hr⟩ := h.get i hi (by have := h.len; omega)
  exact ⟨g, 0, _, _, rfl, by rw [Nat.zero_add]; exact h0, by rw [Nat.zero_add]; exact hc, hr.nodes⟩

/-- What stands there when Binds have been marked from k on. -/
def mB : Nat → List (Int × List Nd) → List (Int × List Nd)
  | _, [] => []
  | k, b :: bs => ((k : Int), marks (k + 1) b.2.length) :: mB (k + 1 + 5 * b.2.length) bs

theorem mB_length (k : Nat) (bs : List (Int × List Nd)) : (mB k bs).length = bs.length := by
  induction bs generalizing k with
  | nil => rfl
  | cons b bs ih => simp [mB, ih]

theorem mB_get (k : Nat) (bs : List (Int × List Nd)) (j : Nat) (h : j < bs.length) : (mB k bs)[j]'(by rw [mB_length]; exact h) = (((k + j + 5 * total ((tys bs).take j) : Nat) : Int), marks (k + j + 5 * total ((tys bs).take j) + 1) bs[j].2.length) := by
  induction bs generalizing k j with
  | nil => simp at h
  | cons b bs ih =>
    cases j with
    | zero => simp [mB, total]
    | succ j =>
      have h9 := ih (k + 1 + 5 * b.2.length) j (by simpa using h)
      have e9 : total ((tys (b :: bs)).take (j + 1)) = b.2.length + total ((tys bs).take j) := by simp [tys, total]
      simp only [mB, List.getElem_cons_succ]
      rw [h9, e9]
      have e8 : k + 1 + 5 * b.2.length + j + 5 * total ((tys bs).take j) = k + (j + 1) + 5 * (b.2.length + total ((tys bs).take j)) := by omega
      rw [e8]

/-- As far as j they are marked. -/
def curB (k : Nat) (bs : List (Int × List Nd)) (j : Nat) : List (Int × List Nd) := (mB k bs).take j ++ bs.drop j

theorem curB_length (k : Nat) (bs : List (Int × List Nd)) (j : Nat) (h : j ≤ bs.length) : (curB k bs j).length = bs.length := by
  simp [curB, mB_length]
  omega

theorem curB_ge (k : Nat) (bs : List (Int × List Nd)) (j i : Nat) (hj : j ≤ i) (h : i < bs.length) : (curB k bs j)[i]'(by rw [curB_length k bs j (by omega)]; exact h) = bs[i] := by
  unfold curB
  rw [List.getElem_append_right (by simp [mB_length]; omega)]
  simp [mB_length]
  congr 1
  omega

theorem curB_step (k : Nat) (bs : List (Int × List Nd)) (j : Nat) (h : j < bs.length) : (curB k bs j).set j ((mB k bs)[j]'(by rw [mB_length]; exact h)) = curB k bs (j + 1) := by
  have hm : j < (mB k bs).length := by rw [mB_length]; exact h
  have e2 : bs.drop j = bs[j] :: bs.drop (j + 1) := List.drop_eq_getElem_cons h
  have hl : ((mB k bs).take j).length = j := by simp; omega
  unfold curB
  rw [e2, List.set_append_right _ _ (by omega), hl, Nat.sub_self, List.set_cons_zero, List.take_succ_eq_append_getElem hm, List.append_assoc]
  rfl

set_option maxHeartbeats 2000000 in
theorem markBindR_any (bs : List (Int × List Nd)) (n : Nat) (HN : Hid (bs.length = n)) (g : Nat) (rs : List (Nat × Nat)) (cap k : Nat) (w : World) (hx : TwoR w g rs bs) (ht : total (tys bs) ≤ 1048576) (hlx : n ≤ 1048576) (hk : k ≤ 1000) (hk0 : 0 < k) :
    Calls Try.prog 12 #[.slice (some ⟨g, 0, none⟩) n cap, .int .i64 k] w fun e w' => e = .returned (.int .i64 (k + n + 5 * total (tys bs) : Nat)) ∧ TwoR w' g rs (mB k bs) ∧ But (fun q => q = g ∨ ∃ r ∈ rs, q = r.1) w w' := by
  have HR : Hid (rs.length = n) := hx.len.trans HN.out
  go_enter Try.func12, Try.ntmps12
  go_wp2
  go_loopw [1, 5] (fun a i wr => ∃ (j : Nat), j ≤ n ∧ i = .int .i64 j ∧ a = .int .i64 (k + j + 5 * total ((tys bs).take j) : Nat) ∧ TwoR wr g rs (curB k bs j) ∧ But (fun q => q = g ∨ ∃ r ∈ rs, q = r.1) w wr) (fun _ i _ => n - (intOf i).toNat)
  case atStart => exact ⟨0, Nat.zero_le _, rfl, rfl, by simpa [curB] using hx, But.refl _ _⟩
  case round =>
    obtain ⟨j, hj, rfl, rfl, htw, hb⟩ := hrel
    by_cases hlt : j < n
    · have hltk : j < bs.length := by have := HN.out; omega
      have hltt : j < (tys bs).length := by simpa [tys] using hltk
      have hltr : j < rs.length := by have := HR.out; omega
      have hlc : j < (curB k bs j).length := by rw [curB_length k bs j (by omega)]; exact hltk
      obtain ⟨a0, a1, hr⟩ := htw.get j hlc hltr
      have hge := curB_ge k bs j j (Nat.le_refl _) hltk
      have hmg := mB_get k bs j hltk
      have hst := curB_step k bs j hltk
      have hts := total_take_succ (tys bs) j hltt
      have htl := total_take_le (tys bs) (j + 1)
      rw [tys_get bs j hltk] at hts
      rw [hge] at a0 a1 hr
      obtain ⟨q, hq⟩ : ∃ q, k + j + 5 * total ((tys bs).take j) = q := ⟨_, rfl⟩
      obtain ⟨⟨bn, ks⟩, hbk⟩ : ∃ p, bs[j] = p := ⟨_, rfl⟩
      rw [hbk] at a0 a1 hr hts hmg
      simp only at a0 a1 hr hts hmg
      obtain ⟨l, hl⟩ : ∃ l, ks.length = l := ⟨_, rfl⟩
      have HQ : Hid (k + (j + 1) + 5 * total ((tys bs).take (j + 1)) = q + 1 + 5 * l) := by show k + (j + 1) + 5 * total ((tys bs).take (j + 1)) = q + 1 + 5 * l; omega
      have hq1 : q ≤ 20000000 := by omega
      have hl1 : l ≤ 1048576 := by omega
      have hq0 : 0 < q := by omega
      have HL : Hid (ks.length = l) := hl
      rw [hq, hl] at hmg
      rw [hmg] at hst
      have hne := OwnB.ne htw.lead hr
      have f0 := OwnT.frozen htw.lead (j * 2)
      have hgl := OwnT.lt htw.lead
      rw [hq]
      rw [hl] at a1
      obtain ⟨⟨rg, rc⟩, hrj⟩ : ∃ r, rs[j] = r := ⟨_, rfl⟩
      have hrm : (rg, rc) ∈ rs := by rw [← hrj]; exact List.getElem_mem hltr
      rw [hrj] at a1 hr hne
      simp only at a1 hr hne
      have bS : But (· = g) wr (wr.setCell ⟨g, j * 2, none⟩ (.int .i64 (q : Int))) := (But.refl (· = g) wr).setCell (p := ⟨g, j * 2, none⟩) rfl _
      have hrS := bS.row hr hne
      have HTW : Hid (TwoR wr g rs (curB k bs j)) := htw
      have HST : Hid ((curB k bs j).set j ((q : Int), marks (q + 1) l) = curB k bs (j + 1)) := hst
      have HRJ : Hid (rs[j] = (rg, rc)) := hrj
      have HA1 : Hid (wr.cell? ⟨g, j * 2 + 1, none⟩ = some (.slice (some ⟨rg, 0, none⟩) l rc)) := a1
      have HGE : Hid ((curB k bs j)[j] = (bn, ks)) := hge.trans hbk
      have bbS : But (fun q => q = g ∨ ∃ r ∈ rs, q = r.1) w (wr.setCell ⟨g, j * 2, none⟩ (.int .i64 (q : Int))) := hb.trans (bS.mono (fun q hq => Or.inl hq))
      clear hts htl hq hl hx htw hst hmg hge hbk hrj hr
      go_wp2_with fail
      refine (markNodeS_any ks l rg rc (q + 1) _ HL hrS (by omega) (by omega) (by omega)).mono ?_
      rintro e w1 ⟨rfl, hrm1, hb1⟩
      have hT : TwoR w1 g rs (curB k bs (j + 1)) := by
        have hln := HTW.out.len
        have hls : rs.length = ((curB k bs j).set j ((q : Int), marks (q + 1) l)).length := by simpa using hln
        rw [← HST.out]
        refine ⟨hls, ?_, ?_, HTW.out.nodup⟩
        · have h9 := OwnT.set HTW.out.lead (j * 2) (.int .i64 (q : Int)) (by rw [cells2_length, leadR_length _ _ hln]; omega)
          have e9 : (cells2 (leadR rs (curB k bs j))).set (j * 2) (.int .i64 (q : Int)) = cells2 (leadR rs ((curB k bs j).set j ((q : Int), marks (q + 1) l))) := by
            have e8 : leadR rs ((curB k bs j).set j ((q : Int), marks (q + 1) l)) = (leadR rs (curB k bs j)).set j (.int .i64 (q : Int), .slice (some ⟨rg, 0, none⟩) l rc) := by
              apply List.ext_getElem
              · simp [leadR]
              · intro i h1 h2
                by_cases e : i = j
                · subst e
                  rw [List.getElem_set_self, leadR_get _ _ i hltr (by simpa using hlc)]
                  simp [HRJ.out, marks_length]
                · have hi1 : i < rs.length := by simp [leadR] at h1; omega
                  have hi2 : i < (curB k bs j).length := by omega
                  rw [List.getElem_set_ne (by omega), leadR_get _ _ i hi1 (by simpa using hi2), leadR_get _ _ i hi1 hi2]
                  rw [List.getElem_set_ne (by omega)]
            rw [e8, ← cells2_set (leadR rs (curB k bs j)) j (.int .i64 (q : Int), .slice (some ⟨rg, 0, none⟩) l rc)]
            have h8 := (cells2_get (leadR rs (curB k bs j)) j (by rw [leadR_length _ _ hln]; exact hlc)).2
            rw [leadR_get _ _ j hltr hlc, HRJ.out, HGE.out] at h8
            simp only [HL.out] at h8
            have h7 : ((cells2 (leadR rs (curB k bs j))).set (j * 2) (.int .i64 (q : Int)))[j * 2 + 1]? = some (.slice (some ⟨rg, 0, none⟩) l rc) := by
              rw [List.getElem?_set_ne (by omega)]; exact h8
            exact (set_same h7).symm
          rw [e9] at h9
          exact OwnT.but h9 hb1 (fun e => hne e.symm)
        · intro i h1 h2
          by_cases e : i = j
          · subst e
            rw [List.getElem_set_self, HRJ.out]
            exact hrm1
          · rw [List.getElem_set_ne (by omega)]
            have h5 := HTW.out.rows i h1 (by simpa using h2)
            refine hb1.row (bS.row h5 (OwnB.ne HTW.out.lead h5)) ?_
            intro e5
            have hnd := HTW.out.nodup
            have h6 : (rs.map Prod.fst)[i]'(by simpa using h1) = (rs.map Prod.fst)[j]'(by simpa using hltr) := by
              rw [List.getElem_map, List.getElem_map, HRJ.out]
              exact e5
            have := (List.getElem_inj (h₀ := by simpa using h1) (h₁ := by simpa using hltr) hnd).1 h6
            omega
      have bb := bbS.trans (hb1.mono (fun q hq => Or.inr ⟨(rg, rc), hrm, hq⟩))
      clear hb hb1 hne bbS a0 a1 f0 hrS hrm1 bS HTW HST HRJ HA1 HGE
      go_wp2
      go_roundw
      case rel => exact ⟨j + 1, by omega, by go_num, by rw [HQ.out]; go_num, hT, bb⟩
      case measure => simp [intOf]; omega
    · have hje : j = n := by omega
      subst hje
      have HE : Hid ((tys bs).take j = tys bs) := List.take_of_length_le (by have := HN.out; simp [tys]; omega)
      have HC : Hid (curB k bs j = mB k bs) := by
        show curB k bs j = mB k bs
        unfold curB
        rw [List.take_of_length_le (by have := HN.out; rw [mB_length]; omega), List.drop_eq_nil_of_le (by have := HN.out; omega), List.append_nil]
      rw [HC.out] at htw
      clear hx
      go_wp2
      go_ret
      exact ⟨by rw [HE.out]; congr 1, htw, hb⟩

set_option maxHeartbeats 2000000 in
theorem heldBindR_any (bs : List (Int × List Nd)) (n : Nat) (HN : Hid (bs.length = n)) (g : Nat) (rs : List (Nat × Nat)) (cap k : Nat) (w : World) (hx : TwoR w g rs (mB k bs)) (ht : total (tys bs) ≤ 1048576) (hlx : n ≤ 1048576) (hk : k ≤ 1000) (hk0 : 0 < k) :
    Calls Try.prog 13 #[.slice (some ⟨g, 0, none⟩) n cap, .int .i64 k] w fun e w' => e = .returned (.int .i64 (k + n + 5 * total (tys bs) : Nat)) ∧ Below w.heap.size w w' := by
  have HR : Hid (rs.length = n) := by have h9 := hx.len; rw [mB_length] at h9; exact h9.trans HN.out
  go_enter Try.func13, Try.ntmps13
  go_wp2
  go_loopw [1, 5] (fun a i wr => ∃ (j : Nat), j ≤ n ∧ i = .int .i64 j ∧ a = .int .i64 (k + j + 5 * total ((tys bs).take j) : Nat) ∧ Below w.heap.size w wr) (fun _ i _ => n - (intOf i).toNat)
  case atStart => exact ⟨0, Nat.zero_le _, rfl, rfl, Below.refl _ _⟩
  case round =>
    obtain ⟨j, hj, rfl, rfl, hb⟩ := hrel
    by_cases hlt : j < n
    · have hltk : j < bs.length := by have := HN.out; omega
      have hltt : j < (tys bs).length := by simpa [tys] using hltk
      have hltr : j < rs.length := by have := HR.out; omega
      obtain ⟨a0, a1, hr⟩ := (hx.below hb).get j (by rw [mB_length]; exact hltk) hltr
      have hmg := mB_get k bs j hltk
      have hts := total_take_succ (tys bs) j hltt
      have htl := total_take_le (tys bs) (j + 1)
      rw [tys_get bs j hltk] at hts
      rw [hmg] at a0 a1 hr
      obtain ⟨q, hq⟩ : ∃ q, k + j + 5 * total ((tys bs).take j) = q := ⟨_, rfl⟩
      obtain ⟨l, hl⟩ : ∃ l, bs[j].2.length = l := ⟨_, rfl⟩
      have HQ : Hid (k + (j + 1) + 5 * total ((tys bs).take (j + 1)) = q + 1 + 5 * l) := by show k + (j + 1) + 5 * total ((tys bs).take (j + 1)) = q + 1 + 5 * l; omega
      have hq1 : q ≤ 20000000 := by omega
      have hl1 : l ≤ 1048576 := by omega
      rw [hq, hl] at a0 a1 hr
      simp only [marks_length] at a0 a1 hr
      obtain ⟨⟨rg, rc⟩, hrj⟩ : ∃ r, rs[j] = r := ⟨_, rfl⟩
      rw [hrj] at a1 hr
      simp only at a1 hr
      have hgl : g < wr.heap.size := lt_of_cell a0
      rw [hq]
      have tq : ((q : Int) != (q : Int)) = false := by simp
      clear hts htl hq hl hx hmg hrj
      go_wp2_with fail
      refine (heldNodeS_any l rg rc (q + 1) wr hr (by omega) (by omega) (by omega)).mono ?_
      rintro e w1 ⟨rfl, hb1⟩
      have hbb := Below.step hb hb1
      have tk : decide (((q + 1 + 5 * l : Nat) : Int) < 0) = false := decide_eq_false (by omega)
      clear hb hb1 a0 a1 hr
      go_wp2
      go_roundw
      case rel => exact ⟨j + 1, by omega, by go_num, by rw [HQ.out]; go_num, hbb⟩
      case measure => simp [intOf]; omega
    · have hje : j = n := by omega
      subst hje
      have HE : Hid ((tys bs).take j = tys bs) := List.take_of_length_le (by have := HN.out; simp [tys]; omega)
      clear hx
      go_wp2
      go_ret
      exact ⟨by rw [HE.out]; congr 1, hb⟩

/-- An answer: a slice of Binds that is empty, or rows of the call's own, from block B on. -/
def BAns (w : World) (B : Nat) (ao : Option Addr) (bs : List (Int × List Nd)) : Prop := bs = [] ∨ ∃ g rs, ao = some ⟨g, 0, none⟩ ∧ B ≤ g ∧ (∀ r ∈ rs, B ≤ r.1) ∧ TwoR w g rs bs

theorem BAns.binds {w : World} {B : Nat} {ao : Option Addr} {bs : List (Int × List Nd)} (h : BAns w B ao bs) : Binds w ao bs := by
  rcases h with rfl | ⟨g, rs, rfl, _, _, hr⟩
  · exact fun i hi => by simp at hi
  · exact hr.binds

theorem BAns.below {w w' : World} {B : Nat} {ao : Option Addr} {bs : List (Int × List Nd)} (h : BAns w B ao bs) (hb : Below w.heap.size w w') : BAns w' B ao bs := by
  rcases h with rfl | ⟨g, rs, rfl, h1, h2, hr⟩
  · exact Or.inl rfl
  · exact Or.inr ⟨g, rs, rfl, h1, h2, hr.below hb⟩

theorem BAns.but {S : Nat → Prop} {w w' : World} {B : Nat} {ao : Option Addr} {bs : List (Int × List Nd)} (h : BAns w B ao bs) (hb : But S w w') (hS : ∀ q, B ≤ q → ¬ S q) : BAns w' B ao bs := by
  rcases h with rfl | ⟨g, rs, rfl, h1, h2, hr⟩
  · exact Or.inl rfl
  · exact Or.inr ⟨g, rs, rfl, h1, h2, hr.but hb (hS g h1) (fun r hr => hS r.1 (h2 r hr))⟩

set_option maxHeartbeats 1000000 in
theorem markBindS_none (ao : Option Addr) (cap k : Nat) (w : World) :
    Calls Try.prog 12 #[.slice ao 0 cap, .int .i64 k] w fun e w' => e = .returned (.int .i64 (k : Nat)) ∧ w' = w := by
  go_enter Try.func12, Try.ntmps12
  go_wp2
  go_loopw [1, 5] (fun a i wr => a = .int .i64 k ∧ i = .int .i64 0 ∧ wr = w) (fun _ _ _ => 0)
  case atStart => exact ⟨rfl, rfl, rfl⟩
  case round =>
    obtain ⟨rfl, rfl, rfl⟩ := hrel
    go_wp2
    go_ret
    exact ⟨rfl, rfl⟩

set_option maxHeartbeats 1000000 in
theorem heldBindS_none (ao : Option Addr) (cap k : Nat) (w : World) :
    Calls Try.prog 13 #[.slice ao 0 cap, .int .i64 k] w fun e w' => e = .returned (.int .i64 (k : Nat)) ∧ w' = w := by
  go_enter Try.func13, Try.ntmps13
  go_wp2
  go_loopw [1, 5] (fun a i wr => a = .int .i64 k ∧ i = .int .i64 0 ∧ wr = w) (fun _ _ _ => 0)
  case atStart => exact ⟨rfl, rfl, rfl⟩
  case round =>
    obtain ⟨rfl, rfl, rfl⟩ := hrel
    go_wp2
    go_ret
    exact ⟨rfl, rfl⟩

theorem markBindS_ans (bs : List (Int × List Nd)) (n B : Nat) (ao : Option Addr) (cap k : Nat) (w : World) (HN : Hid (bs.length = n)) (ha : BAns w B ao bs) (ht : total (tys bs) ≤ 1048576) (hn : n ≤ 1048576) (hk : k ≤ 1000) (hk0 : 0 < k) :
    Calls Try.prog 12 #[.slice ao n cap, .int .i64 k] w fun e w' =>
      e = .returned (.int .i64 (k + n + 5 * total (tys bs) : Nat)) ∧ BAns w' B ao (mB k bs) ∧ But (B ≤ ·) w w' := by
  rcases ha with rfl | ⟨g, rs, rfl, h1, h2, hr⟩
  · have h0 : n = 0 := HN.out.symm
    subst h0
    exact (markBindS_none ao cap k w).mono (by rintro e w' ⟨rfl, rfl⟩; exact ⟨rfl, Or.inl rfl, But.refl _ _⟩)
  · refine (markBindR_any bs n HN g rs cap k w hr ht hn hk hk0).mono ?_
    rintro e w' ⟨rfl, hr', hb⟩
    refine ⟨rfl, Or.inr ⟨g, rs, rfl, h1, h2, hr'⟩, hb.mono (fun q hq => ?_)⟩
    rcases hq with rfl | ⟨r, hr, rfl⟩
    · exact h1
    · exact h2 r hr

theorem heldBindS_ans (bs : List (Int × List Nd)) (n B : Nat) (ao : Option Addr) (cap k : Nat) (w : World) (HN : Hid (bs.length = n)) (ha : BAns w B ao (mB k bs)) (ht : total (tys bs) ≤ 1048576) (hn : n ≤ 1048576) (hk : k ≤ 1000) (hk0 : 0 < k) :
    Calls Try.prog 13 #[.slice ao n cap, .int .i64 k] w fun e w' => e = .returned (.int .i64 (k + n + 5 * total (tys bs) : Nat)) ∧ Below w.heap.size w w' := by
  rcases ha with h | ⟨g, rs, rfl, h1, h2, hr⟩
  · have h0 : n = 0 := by have := mB_length k bs; rw [h] at this; exact HN.out.symm.trans this.symm
    subst h0
    have hb0 : bs = [] := List.eq_nil_of_length_eq_zero HN.out
    subst hb0
    exact (heldBindS_none ao cap k w).mono (by rintro e w' ⟨rfl, rfl⟩; exact ⟨rfl, Below.refl _ _⟩)
  · exact heldBindR_any bs n HN g rs cap k w hr ht hn hk hk0

end Go.Proofs.Ytngomcicdcgldab

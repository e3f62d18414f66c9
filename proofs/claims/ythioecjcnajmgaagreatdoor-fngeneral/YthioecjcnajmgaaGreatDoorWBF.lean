import Derived.Test.YthioecjcnajmgaaGreatDoorWBE
import Derived.Test.YthioecjcnajmgaaGreatDoorWAN
import Derived.Lib.Strings
import Derived.Test.YthioecjcnajmgaaGreatDoorWAG
import Derived.Test.YthioecjcnajmgaaGreatDoorWBD
import Derived.Test.YthioecjcnajmgaaGreatDoorWAE
namespace Go.Proofs.YthioecjcnajmgaaGreatDoor
open Go.RowKit Go.Shelf

attribute [local go_sem] Oper.semAt_some

def lastOf (xs : List Sp) : Sp := xs.getLast?.getD ⟨0, 0, 0⟩

theorem lastOf_snoc (xs : List Sp) (s : Sp) : lastOf (xs ++ [s]) = s := by simp [lastOf]

/-- How deep the list is, however great and deep; 0 where it is no term. -/
def rawDeep (t : List Nd) : Nat :=
  match after t t.length with
  | none => 0
  | some (_, ys) => match ys.getLast? with
    | none => 0
    | some s => if s.fr = 0 then s.dp else 0

theorem deepOf_raw (t : List Nd) : deepOf t = if 6000 < t.length ∨ 300 < rawDeep t then 0 else rawDeep t := by
  unfold deepOf rawDeep
  by_cases h : 6000 < t.length
  · rw [if_pos h, if_pos (.inl h)]
  · rw [if_neg h]
    cases after t t.length with
    | none => simp
    | some p =>
      obtain ⟨S, ys⟩ := p
      simp only
      cases ys.getLast? with
      | none => simp
      | some s =>
        simp only
        by_cases h1 : s.fr = 0
        · by_cases h2 : s.dp ≤ 300
          · rw [if_pos ⟨h1, h2⟩, if_pos h1, if_neg (by omega)]
          · rw [if_neg (by omega), if_pos h1, if_pos (by omega)]
        · rw [if_neg (by omega), if_neg h1]; simp

theorem deep_came {t : List Nd} {xs : List Sp} (h : Came t xs) :
    rawDeep t = if (lastOf xs).fr ≠ 0 ∨ ((lastOf xs).rt : Int) ≠ (t.length : Int) - 1 then 0 else (lastOf xs).dp := by
  obtain ⟨k, S, ha, hk⟩ := h
  have hf := after_fine ha
  have hle := after_le ha
  unfold rawDeep
  by_cases hkl : k = t.length
  · subst hkl
    rw [ha]
    simp only
    cases hx : xs.getLast? with
    | none =>
      have hx0 : xs = [] := List.getLast?_eq_none_iff.1 hx
      subst hx0
      have h0 : t.length = 0 := by have := hf.len; simpa using this.symm
      simp [lastOf, h0]
    | some s =>
      have hls : lastOf xs = s := by simp [lastOf, hx]
      rw [hls]
      have hne : xs ≠ [] := by intro e; rw [e] at hx; simp at hx
      have hlen : 0 < xs.length := List.length_pos_iff.2 hne
      have hs : xs[xs.length - 1]'(by omega) = s := by
        rw [List.getLast?_eq_getElem?, List.getElem?_eq_getElem (by omega)] at hx
        simpa using hx
      have hr := (hf.root (xs.length - 1) (by omega)).1
      rw [hs] at hr
      have hl2 := hf.len
      have hrt : ¬ ((s.rt : Int) ≠ (t.length : Int) - 1) := by omega
      simp only
      by_cases h1 : s.fr = 0
      · rw [if_pos h1, if_neg (by omega)]
      · rw [if_neg h1, if_pos (by omega)]
  · have hk : after t (k + 1) = none := by
      rcases hk with h | h
      · exact absurd h hkl
      · exact h
    have hn := after_none hk t.length
    rw [hn (by omega)]
    simp only
    by_cases hk0 : k = 0
    · subst hk0
      have hx0 : xs = [] := List.eq_nil_of_length_eq_zero hf.len
      subst hx0
      simp [lastOf]
    · have hlen := hf.len
      have hx : xs.getLast? = some (xs[xs.length - 1]'(by omega)) := by
        rw [List.getLast?_eq_getElem?, List.getElem?_eq_getElem (by omega)]
      have hls : lastOf xs = xs[xs.length - 1]'(by omega) := by simp [lastOf, hx]
      have hr := (hf.root (xs.length - 1) (by omega)).1
      rw [← hls] at hr
      rw [if_pos (by right; omega)]

set_option maxRecDepth 100000 in
set_option maxHeartbeats 2000000 in
theorem implDeepOf_any (t : List Nd) (m : Nat) (HM : Hid (t.length = m)) (hm : m ≤ 60000) (ao : Option Addr) (cap : Nat) (w : World) (hx : Nodes w ao t) :
    Calls Tryz.prog 92 #[.slice ao m cap] w fun e w' => e = .returned (.int .i64 (rawDeep t : Int)) ∧ Below w.heap.size w w' := by
  obtain ⟨n, hn⟩ : ∃ n : Nat, 6 ≤ n := ⟨6, Nat.le_refl _⟩
  refine (callsIn_wide (n := n)).1 ?_
  refine callsIn_of_wp_marks Tryz.func92 rfl trivial ?_
  simp only [Tryz.ntmps92, List.size_toArray, List.length_cons, List.length_nil, Nat.reduceAdd, Nat.reduceSub, Array.replicate_succ, Array.replicate_zero, List.push_toArray, List.append_toArray, List.nil_append, List.cons_append]
  gi_wp2_with fail
  refine ⟨trivial, fun h => (by cases h), callsIn_wide.2 ((spans_any ao m cap _).mono ?_)⟩
  rintro e w1 ⟨rfl, rfl⟩
  gi_wp2
  obtain ⟨W1, hW1⟩ : ∃ W1, ((w.alloc (Obj.cells #[Value.int IntKind.i64 0, Value.int IntKind.i64 0, Value.int IntKind.i64 0] 190)).alloc (.cells #[.slice ao m cap] 27)) = W1 := ⟨_, rfl⟩
  have hB1 : Below w.heap.size w W1 := by rw [← hW1]; exact ((Below.refl _ w).alloc (Nat.le_refl _) _).alloc (by simp) _
  have hs1 : W1.heap.size = w.heap.size + 2 := by rw [← hW1]; simp
  have bL : Box3 W1 w.heap.size (.int .i64 0) (.int .i64 0) (.int .i64 0) := by rw [← hW1]; exact (Box3.new w _ _ _).alloc _
  have bT : W1.cell? ⟨w.heap.size + 1, 0, none⟩ = some (.slice ao m cap) := by
    rw [← hW1]
    have := cell_of_row ((w.alloc (Obj.cells #[Value.int IntKind.i64 0, Value.int IntKind.i64 0, Value.int IntKind.i64 0] 190)).alloc (.cells #[.slice ao m cap] 27)) (w.heap.size + 1) 0 #[.slice ao m cap] 27 (0, 0) (by have := heap_alloc_new (w.alloc (Obj.cells #[Value.int IntKind.i64 0, Value.int IntKind.i64 0, Value.int IntKind.i64 0] 190)) (.cells #[.slice ao m cap] 27); rw [World.size_alloc] at this; exact this)
    rw [this]; rfl
  try rw [hW1]
  clear hW1
  refine wpIn_range (α := Sp) rfl (by omega) (gf := 106) (lb := #[.pointer (some ⟨w.heap.size + 1, 0, none⟩)]) rfl trivial (enters_of Tryz.func106 (by kernel_rfl) rfl)
    (encs := encSp) w.heap.size hB1.size (spans1_any t m HM hm ao cap (w.heap.size + 1) w.heap.size (n - 1) W1 hB1.size (by omega) bT w rfl hx hB1) (fun _ => rfl)
    (fun pre W => Box3 W w.heap.size (.int .i64 ((lastOf pre).fr : Int)) (.int .i64 ((lastOf pre).rt : Int)) (.int .i64 ((lastOf pre).dp : Int)) ∧ Below w.heap.size w W)
    (fun _ _ _ => False) ?hI (fun _ _ _ _ h _ => h) (fun _ _ _ => trivial) ⟨bL, hB1⟩ ?round ?done (fun _ _ _ _ h _ => h.elim)
  case hI =>
    rintro s A C ⟨h1, h2⟩ hb
    exact ⟨(hb.block _ (by omega)).trans h1, h2.trans (hb.mono (by omega))⟩
  case round =>
    rintro pre s W ⟨hbx, hb⟩ hlen _ hsz
    simp only [encSp]
    gi_wp2
    refine ⟨But.ofBelow ((Below.refl _ W).alloc (Nat.le_refl _) _), ?_⟩
    intro Wb hWb
    have bs : Box3 Wb W.heap.size (.int .i64 (s.fr : Int)) (.int .i64 (s.rt : Int)) (.int .i64 (s.dp : Int)) := (hWb.block W.heap.size (by simp) (by omega)).trans (Box3.new W _ _ _)
    have bl := (hWb.block w.heap.size (by have := hbx.lt; simp; omega) (by omega)).trans (hbx.alloc (Obj.cells #[Value.int IntKind.i64 ↑s.fr, Value.int IntKind.i64 ↑s.rt, Value.int IntKind.i64 ↑s.dp] 190))
    have hbb : Below w.heap.size w Wb := (hb.alloc hb.size _).trans (hWb.below (by have := hb.size; simp; omega) (fun k hk => by omega))
    have bl' : Box3 Wb w.heap.size _ _ _ := bl
    obtain ⟨p0, p1, p2⟩ := bs.cells
    obtain ⟨q0, q1, q2⟩ := bl'.cells
    have f0 := bl'.frozen 0
    have f1 := bl'.frozen 1
    have f2 := bl'.frozen 2
    have hfin : Box3 (((Wb.setCell ⟨w.heap.size, 0, none⟩ (.int .i64 (s.fr : Int))).setCell ⟨w.heap.size, 1, none⟩ (.int .i64 (s.rt : Int))).setCell ⟨w.heap.size, 2, none⟩ (.int .i64 (s.dp : Int))) w.heap.size (.int .i64 (s.fr : Int)) (.int .i64 (s.rt : Int)) (.int .i64 (s.dp : Int)) := ((bl'.set0 _).set1 _).set2 _
    have hmine : Mine w.heap.size W1.heap.size w.heap.size := ⟨Nat.le_refl _, by omega⟩
    have hbut : But (Mine w.heap.size W1.heap.size) Wb (((Wb.setCell ⟨w.heap.size, 0, none⟩ (.int .i64 (s.fr : Int))).setCell ⟨w.heap.size, 1, none⟩ (.int .i64 (s.rt : Int))).setCell ⟨w.heap.size, 2, none⟩ (.int .i64 (s.dp : Int))) :=
      (((But.refl _ Wb).setCell (p := ⟨w.heap.size, 0, none⟩) hmine _).setCell (p := ⟨w.heap.size, 1, none⟩) hmine _).setCell (p := ⟨w.heap.size, 2, none⟩) hmine _
    have hbel : Below w.heap.size w (((Wb.setCell ⟨w.heap.size, 0, none⟩ (.int .i64 (s.fr : Int))).setCell ⟨w.heap.size, 1, none⟩ (.int .i64 (s.rt : Int))).setCell ⟨w.heap.size, 2, none⟩ (.int .i64 (s.dp : Int))) :=
      ((hbb.setCell (p := ⟨w.heap.size, 0, none⟩) (Nat.le_refl _) _).setCell (p := ⟨w.heap.size, 1, none⟩) (Nat.le_refl _) _).setCell (p := ⟨w.heap.size, 2, none⟩) (Nat.le_refl _) _
    clear hbx hb bl bl' bs hbb hmine hWb
    gi_wp2
    exact ⟨hbut, by rw [lastOf_snoc]; exact hfin, hbel⟩
  case done =>
    rintro xs W hcame ⟨hbx, hb⟩ hK
    have HD := deep_came hcame
    obtain ⟨L, hL⟩ : ∃ L, lastOf xs = L := ⟨_, rfl⟩
    rw [hL] at hbx HD
    rw [HM.out] at HD
    have HDD : Hid (rawDeep t = if L.fr ≠ 0 ∨ (L.rt : Int) ≠ (m : Int) - 1 then 0 else L.dp) := HD
    obtain ⟨q0, q1, q2⟩ := hbx.cells
    clear HD hcame hL
    have hput : Below w.heap.size w (W.putObj W1.heap.size (.deferred none)) := hb.trans ((But.putObj (S := (· = W1.heap.size)) W _ _ rfl).below hb.size (fun k hk => by omega))
    clear hs1 hB1 bL bT
    by_cases h1 : L.fr = 0
    · by_cases h2 : (L.rt : Int) = (m : Int) - 1
      · have HV : Hid (rawDeep t = L.dp) := by rw [HDD.out, if_neg (by omega)]; rfl
        clear hbx hb
        gi_wp2
        refine ⟨by simp, .inl ⟨_, _, rfl, run_takeDeferred hK, ?_⟩⟩
        exact ⟨_, results_tmp rfl _ _ _, by rw [HV.out]; rfl, hput⟩
      · have HV : Hid (rawDeep t = 0) := by rw [HDD.out, if_pos (by omega)]; rfl
        clear hbx hb
        gi_wp2
        refine ⟨by simp, .inl ⟨_, _, rfl, run_takeDeferred hK, ?_⟩⟩
        exact ⟨_, results_tmp rfl _ _ _, by rw [HV.out]; rfl, hput⟩
    · have HV : Hid (rawDeep t = 0) := by rw [HDD.out, if_pos (by omega)]; rfl
      have h1' : ¬ ((L.fr : Int) = 0) := by omega
      clear hbx hb
      gi_wp2
      refine ⟨by simp, .inl ⟨_, _, rfl, run_takeDeferred hK, ?_⟩⟩
      exact ⟨_, results_tmp rfl _ _ _, by rw [HV.out]; rfl, hput⟩

set_option maxHeartbeats 400000 in
theorem implDeep_any (t : List Nd) (m : Nat) (HM : Hid (t.length = m)) (hm : m ≤ 1048576) (ao : Option Addr) (cap : Nat) (w : World) (hx : Nodes w ao t) :
    Calls Tryz.prog 69 #[.slice ao m cap] w fun e w' => e = .returned (.int .i64 (deepOf t : Int)) ∧ Below w.heap.size w w' := by
  by_cases h : m ≤ 6000
  · have HV : Hid (deepOf t = if 300 < rawDeep t then 0 else rawDeep t) := by
      show deepOf t = _
      rw [deepOf_raw]
      have := HM.out
      by_cases h3 : 300 < rawDeep t
      · rw [if_pos (.inr h3), if_pos h3]
      · rw [if_neg (by omega), if_neg h3]
    go_enter Tryz.func69, Tryz.ntmps69
    go_wp2_with fail
    refine (implDeepOf_any t m HM (by omega) ao cap w hx).mono ?_
    rintro e w1 ⟨rfl, hb⟩
    obtain ⟨d, hd⟩ : ∃ d, rawDeep t = d := ⟨_, rfl⟩
    rw [hd] at HV ⊢
    clear hx hd
    by_cases h3 : 300 < d
    · rw [if_pos h3] at HV
      go_wp2
      go_ret
      exact ⟨by rw [HV.out]; rfl, hb⟩
    · rw [if_neg h3] at HV
      go_wp2
      go_ret
      exact ⟨by rw [HV.out]; rfl, hb⟩
  · have HV : Hid (deepOf t = 0) := by
      show deepOf t = 0
      unfold deepOf
      rw [if_pos (by have := HM.out; omega)]
    clear hx
    go_enter Tryz.func69, Tryz.ntmps69
    go_wp2
    go_ret
    exact ⟨by rw [HV.out]; rfl, Below.refl _ _⟩

set_option maxHeartbeats 400000 in
theorem implGood_any (t : List Nd) (m : Nat) (HM : Hid (t.length = m)) (hm : m ≤ 1048576) (ao : Option Addr) (cap : Nat) (w : World) (hx : Nodes w ao t) :
    Calls Tryz.prog 44 #[.slice ao m cap] w fun e w' => e = .returned (.bool (decide (0 < deepOf t))) ∧ Below w.heap.size w w' := by
  go_enter Tryz.func44, Tryz.ntmps44
  go_wp2_with fail
  refine (implDeep_any t m HM hm ao cap w hx).mono ?_
  rintro e w1 ⟨rfl, hb⟩
  obtain ⟨d, hd⟩ : ∃ d, deepOf t = d := ⟨_, rfl⟩
  rw [hd]
  have HD : Hid (deepOf t = d) := hd
  clear hx hd
  go_wp2
  go_ret
  exact ⟨by rw [HD.out]; simp, hb⟩

end Go.Proofs.YthioecjcnajmgaaGreatDoor

namespace Go.Proofs.YthioecjcnajmgaaGreatDoor

open Go.RowKit

theorem text_empty (tx : ByteArray) : tx.toList.isEmpty = (tx.size == 0) := by
  rw [Lib.toList_data]
  cases h : tx.data.toList with
  | nil =>
    have h9 : tx.data = #[] := by simpa using h
    simp [ByteArray.size, h9]
  | cons a l =>
    have h9 : tx.data.size = l.length + 1 := by rw [← Array.length_toList, h]; rfl
    simp [ByteArray.size, h9]

set_option maxHeartbeats 1000000 in
theorem isBare_any (x : Nd) (w : World) :
    Calls Tryz.prog 68 #[.agg #[.int .i64 x.kind, .int .i64 x.num, .string x.text, .int .i64 x.kids, .int .i64 x.place]] w fun e w' =>
      e = .returned (.bool (x.num == 0 && x.text.size == 0)) ∧ Below w.heap.size w w' := by
  obtain ⟨kd, nm, tx, ks, pl⟩ := x
  simp only
  have ht := text_empty tx
  by_cases hn : nm = 0
  · subst hn
    go_enter Tryz.func68, Tryz.ntmps68
    go_wp2
    go_ret
    exact ⟨by rw [← ht]; rfl, (Below.refl _ _).alloc (Nat.le_refl _) _⟩
  · have t1 : (nm == 0) = false := by simpa using hn
    rw [t1]
    go_enter Tryz.func68, Tryz.ntmps68
    go_wp2
    go_ret
    exact ⟨rfl, (Below.refl _ _).alloc (Nat.le_refl _) _⟩

set_option maxHeartbeats 1000000 in
theorem iIsPlain_any (x : Nd) (w : World) :
    Calls Tryz.prog 43 #[.agg #[.int .i64 x.kind, .int .i64 x.num, .string x.text, .int .i64 x.kids, .int .i64 x.place]] w fun e w' =>
      e = .returned (.bool x.plainb) ∧ Below w.heap.size w w' := by
  obtain ⟨kd, nm, tx, ks, pl⟩ := x
  have hb0 : Below w.heap.size w (w.alloc (Obj.cells #[.int .i64 kd, .int .i64 nm, .string tx, .int .i64 ks, .int .i64 pl] 40)) := (Below.refl _ _).alloc (Nat.le_refl _) _
  have ht := text_empty tx
  by_cases hp : pl = 0
  · subst hp
    by_cases h12 : kd = 12
    · subst h12
      go_enter Tryz.func43, Tryz.ntmps43
      go_wp2
      go_ret
      exact ⟨by simp [Nd.plainb], hb0⟩
    · have t12 : ((kd : Int) == 12) = false := by simpa using h12
      by_cases h13 : kd = 13
      · subst h13
        have HV : Hid (Nd.plainb ⟨13, nm, tx, ks, 0⟩ = ((nm == 0 && tx.size == 0) && ks == 2)) := by
          simp only [Hid, Nd.plainb, bne]
          cases ks == 2 <;> cases ks == 1 <;> cases nm == 0 <;> cases tx.size == 0 <;> simp
        obtain ⟨z, hz⟩ : ∃ z, (nm == 0 && tx.size == 0) = z := ⟨_, rfl⟩
        have HB := isBare_any ⟨13, nm, tx, ks, 0⟩
        simp only [hz] at HB HV
        clear hz ht
        go_enter Tryz.func43, Tryz.ntmps43
        go_wp2_with fail
        refine (HB _).mono ?_
        rintro e w1 ⟨rfl, hb1⟩
        have hblk : w1.heap[w.heap.size]? = some (.cells #[.int .i64 13, .int .i64 nm, .string tx, .int .i64 ks, .int .i64 0] 40 (0, 0)) := (hb1.block _ (by simp)).trans (heap_alloc_new _ _)
        have q3 : w1.cell? ⟨w.heap.size, 3, none⟩ = some (.int .i64 ks) := by rw [cell_of_row _ _ _ _ _ _ hblk]; rfl
        have hb2 := Below.step hb0 hb1
        clear HB hb0 hb1 hblk
        cases z
        · go_wp2
          go_ret
          exact ⟨by rw [HV.out]; rfl, hb2⟩
        · go_wp2
          go_ret
          exact ⟨by rw [HV.out]; rfl, hb2⟩
      · have t13 : ((kd : Int) == 13) = false := by simpa using h13
        by_cases h14 : kd = 14
        · subst h14
          have HV : Hid (Nd.plainb ⟨14, nm, tx, ks, 0⟩ = ((nm == 0 && tx.size == 0) && ks != 1)) := by
            simp only [Hid, Nd.plainb, bne]
            cases ks == 2 <;> cases ks == 1 <;> cases nm == 0 <;> cases tx.size == 0 <;> simp
          obtain ⟨z, hz⟩ : ∃ z, (nm == 0 && tx.size == 0) = z := ⟨_, rfl⟩
          have HB := isBare_any ⟨14, nm, tx, ks, 0⟩
          simp only [hz] at HB HV
          clear hz ht
          go_enter Tryz.func43, Tryz.ntmps43
          go_wp2_with fail
          refine (HB _).mono ?_
          rintro e w1 ⟨rfl, hb1⟩
          have hblk : w1.heap[w.heap.size]? = some (.cells #[.int .i64 14, .int .i64 nm, .string tx, .int .i64 ks, .int .i64 0] 40 (0, 0)) := (hb1.block _ (by simp)).trans (heap_alloc_new _ _)
          have q3 : w1.cell? ⟨w.heap.size, 3, none⟩ = some (.int .i64 ks) := by rw [cell_of_row _ _ _ _ _ _ hblk]; rfl
          have hb2 := Below.step hb0 hb1
          clear HB hb0 hb1 hblk
          cases z
          · go_wp2
            go_ret
            exact ⟨by rw [HV.out]; rfl, hb2⟩
          · go_wp2
            go_ret
            exact ⟨by rw [HV.out]; rfl, hb2⟩
        · have t14 : ((kd : Int) == 14) = false := by simpa using h14
          by_cases h60 : kd = 60 ∨ kd = 61
          · have HV : Hid (Nd.plainb ⟨kd, nm, tx, ks, 0⟩ = ((decide (nm > 0) && tx.size == 0) && ks == 0)) := by
              have h9 : (kd == 60 || kd == 61) = true := by simpa using h60
              have h8 : decide (1 ≤ nm) = decide (nm > 0) := by rw [decide_eq_decide]; omega
              simp only [Hid, Nd.plainb, h9, t12, t13, t14, h8]
              cases ks == 0 <;> cases decide (nm > 0) <;> cases tx.size == 0 <;> simp
            rw [← ht] at HV
            clear ht
            by_cases hn : nm > 0
            · have tn : decide (nm > 0) = true := decide_eq_true hn
              rw [tn] at HV
              cases he : tx.toList.isEmpty
              · rw [he] at HV
                have HW : Hid (Nd.plainb ⟨kd, nm, tx, ks, 0⟩ = false) := HV.out
                clear HV
                rcases h60 with rfl | rfl
                all_goals
                  go_enter Tryz.func43, Tryz.ntmps43
                  go_wp2
                  go_ret
                  exact ⟨by rw [HW.out]; rfl, hb0⟩
              · rw [he] at HV
                rcases h60 with rfl | rfl
                all_goals
                  go_enter Tryz.func43, Tryz.ntmps43
                  go_wp2
                  go_ret
                  exact ⟨by rw [HV.out]; rfl, hb0⟩
            · have tn : decide (nm > 0) = false := decide_eq_false hn
              rw [tn] at HV
              have HW : Hid (Nd.plainb ⟨kd, nm, tx, ks, 0⟩ = false) := HV.out
              clear HV
              rcases h60 with rfl | rfl
              all_goals
                go_enter Tryz.func43, Tryz.ntmps43
                go_wp2
                go_ret
                exact ⟨by rw [HW.out]; rfl, hb0⟩
          · have t60 : ((kd : Int) == 60) = false := by simp; omega
            have t61 : ((kd : Int) == 61) = false := by simp; omega
            go_enter Tryz.func43, Tryz.ntmps43
            go_wp2
            go_ret
            exact ⟨by simp [Nd.plainb, t12, t13, t14, t60, t61], hb0⟩
  · have tp : ((pl : Int) != 0) = true := by simpa using hp
    go_enter Tryz.func43, Tryz.ntmps43
    go_wp2
    go_ret
    exact ⟨by simp [Nd.plainb, hp], hb0⟩

set_option maxHeartbeats 1000000 in
theorem unfit_any (x : Nd) (w : World) :
    Calls Tryz.prog 42 #[.agg #[.int .i64 x.kind, .int .i64 x.num, .string x.text, .int .i64 x.kids, .int .i64 x.place]] w fun e w' =>
      e = .returned (.bool (!x.plainb)) ∧ Below w.heap.size w w' := by
  have HP := iIsPlain_any x
  obtain ⟨p, hp⟩ : ∃ p, x.plainb = p := ⟨_, rfl⟩
  rw [hp] at HP ⊢
  clear hp
  obtain ⟨kd, nm, tx, ks, pl⟩ := x
  have hb0 : Below w.heap.size w (w.alloc (Obj.cells #[.int .i64 kd, .int .i64 nm, .string tx, .int .i64 ks, .int .i64 pl] 40)) := (Below.refl _ _).alloc (Nat.le_refl _) _
  simp only at HP
  go_enter Tryz.func42, Tryz.ntmps42
  go_wp2_with fail
  refine (HP _).mono ?_
  rintro e w1 ⟨rfl, hb1⟩
  have hb2 := Below.step hb0 hb1
  clear HP hb0 hb1
  go_wp2
  go_ret
  exact ⟨rfl, hb2⟩

theorem any_true {α : Type} {p : α → Bool} {xs : List α} (k : Nat) (h : k < xs.length) (hf : p xs[k] = true) : xs.any p = true :=
  List.any_eq_true.2 ⟨_, List.getElem_mem h, hf⟩

theorem takeL_any {α : Type} {p : α → Bool} {xs : List α} (k : Nat) (h : k < xs.length) (ht : p xs[k] = false) (ha : (xs.take k).any p = false) : (xs.take (k + 1)).any p = false := by
  rw [List.take_succ_eq_append_getElem h, List.any_append, ha]
  simp [ht]

set_option maxHeartbeats 2000000 in
theorem indexFunc_unfit (xs : List Nd) (n : Nat) (HX : Hid (xs.length = n)) (ao : Option Addr) (cap : Nat) (w : World) (hx : Nodes w ao xs) (hlx : n ≤ 1048576) :
    Calls Tryz.prog 70 #[.slice ao n cap, .func (.func 42) #[] #[]] w fun e w' =>
      (∃ r : Int, e = .returned (.int .i64 r) ∧ decide (r ≥ 0) = xs.any (fun n => !n.plainb)) ∧ Below w.heap.size w w' := by
  go_enter Tryz.func70, Tryz.ntmps70
  go_wp2
  go_loopw [8] (fun i wr => ∃ (k : Nat), k ≤ n ∧ i = .int .i64 k ∧ (xs.take k).any (fun n => !n.plainb) = false ∧ Below w.heap.size w wr) (fun i _ => n - (intOf i).toNat)
  case atStart => exact ⟨0, Nat.zero_le _, rfl, by simp, Below.refl _ _⟩
  case round =>
    obtain ⟨k, hk, rfl, hall, hb⟩ := hrel
    by_cases hlt : k < n
    · have hltx : k < xs.length := by have := HX.out; omega
      obtain ⟨x, hxk⟩ : ∃ x, xs[k] = x := ⟨_, rfl⟩
      obtain ⟨b, o, rfl, hcx⟩ := hx.below hb k hltx
      rw [hxk] at hcx
      obtain ⟨c0, c1, c2, c3, c4⟩ := hcx
      have hlb : b < wr.heap.size := lt_of_cell c0
      have HXK : Hid (xs[k] = x) := hxk
      clear hx hxk
      cases hq : (!x.plainb)
      · have HA : Hid ((xs.take (k + 1)).any (fun n => !n.plainb) = false) := takeL_any k hltx (by rw [HXK.out]; exact hq) hall
        clear hall
        go_wp2_with fail
        refine (unfit_any x _).mono ?_
        rintro e w1 ⟨rfl, hb1⟩
        rw [hq]
        have hbb := Below.step hb hb1
        clear hb hb1 c0 c1 c2 c3 c4
        go_wp2
        go_roundw
        case rel => exact ⟨k + 1, by omega, by go_num, HA.out, hbb⟩
        case measure => simp [intOf]; omega
      · have HA : Hid (xs.any (fun n => !n.plainb) = true) := any_true k hltx (by rw [HXK.out]; exact hq)
        clear hall
        go_wp2_with fail
        refine (unfit_any x _).mono ?_
        rintro e w1 ⟨rfl, hb1⟩
        rw [hq]
        have hbb := Below.step hb hb1
        clear hb hb1 c0 c1 c2 c3 c4
        go_wp2
        go_ret
        exact ⟨⟨(k : Int), rfl, by rw [HA.out]; simp⟩, hbb⟩
    · have HA : Hid (xs.any (fun n => !n.plainb) = false) := by
        have h9 := hall
        rw [List.take_of_length_le (by have := HX.out; omega)] at h9
        exact h9
      clear hall hx
      go_wp2
      go_ret
      exact ⟨⟨-1, rfl, by rw [HA.out]; rfl⟩, hb⟩

set_option maxHeartbeats 400000 in
theorem containsFunc_unfit (xs : List Nd) (n : Nat) (HX : Hid (xs.length = n)) (ao : Option Addr) (cap : Nat) (w : World) (hx : Nodes w ao xs) (hlx : n ≤ 1048576) :
    Calls Tryz.prog 45 #[.slice ao n cap, .func (.func 42) #[] #[]] w fun e w' =>
      e = .returned (.bool (xs.any (fun n => !n.plainb))) ∧ Below w.heap.size w w' := by
  go_enter Tryz.func45, Tryz.ntmps45
  go_wp2_with fail
  refine (indexFunc_unfit xs n HX ao cap w hx hlx).mono ?_
  rintro e w1 ⟨⟨r, rfl, hr⟩, hb⟩
  have HR : Hid (decide (r ≥ 0) = xs.any (fun n => !n.plainb)) := hr
  clear hr hx
  go_wp2
  go_ret
  exact ⟨by rw [← HR.out]; rfl, hb⟩

theorem unfit_none (xs : List Nd) : xs.all Nd.plainb = !xs.any (fun n => !n.plainb) := by
  induction xs with
  | nil => rfl
  | cons x xs ih => simp only [List.all_cons, List.any_cons, Bool.not_or, ← ih, Bool.not_not]

set_option maxHeartbeats 1000000 in
theorem iIsType_any (t : List Nd) (m : Nat) (HM : Hid (t.length = m)) (hm : m ≤ 1048576) (ao : Option Addr) (cap : Nat) (w : World) (hx : Nodes w ao t) :
    Calls Tryz.prog 25 #[.slice ao m cap] w fun e w' => e = .returned (.bool (typeb t)) ∧ Below w.heap.size w w' := by
  obtain ⟨d, hd⟩ : ∃ d, decide (0 < deepOf t) = d := ⟨_, rfl⟩
  have HV : Hid (typeb t = (decide ((m : Int) ≤ 300) && d && !t.any (fun n => !n.plainb))) := by
    have h9 : decide (t.length ≤ 300) = decide ((m : Int) ≤ 300) := by rw [decide_eq_decide]; have := HM.out; omega
    simp only [Hid, typeb, hd, h9, unfit_none]
  have HG := implGood_any t m HM hm ao cap w hx
  rw [hd] at HG
  clear hd
  by_cases h3 : m ≤ 300
  · have t3 : decide ((m : Int) ≤ 300) = true := decide_eq_true (by omega)
    rw [t3] at HV
    go_enter Tryz.func25, Tryz.ntmps25
    go_wp2_with fail
    refine HG.mono ?_
    rintro e w1 ⟨rfl, hb1⟩
    have HC := containsFunc_unfit t m HM ao cap w1 (hx.below hb1) hm
    clear HG hx
    cases d
    · go_wp2
      go_ret
      exact ⟨by rw [HV.out]; rfl, hb1⟩
    · go_wp2_with fail
      refine HC.mono ?_
      rintro e w2 ⟨rfl, hb2⟩
      have hb := Below.step hb1 hb2
      clear HC
      go_wp2
      go_ret
      exact ⟨by rw [HV.out]; rfl, hb⟩
  · have t3 : decide ((m : Int) ≤ 300) = false := decide_eq_false (by omega)
    rw [t3] at HV
    clear HG hx
    go_enter Tryz.func25, Tryz.ntmps25
    go_wp2
    go_ret
    exact ⟨by rw [HV.out]; rfl, Below.refl _ _⟩

theorem nodes_news {w : World} {ad : Addr} {xs : List Nd} (h : Nodes w (some ad) xs) : ∀ j u, (flat xs)[j]? = some u → w.cell? (ad.add j) = some u := by
  intro j u hj
  have hl : j < (flat xs).length := (List.getElem?_eq_some_iff.1 hj).1
  rw [flat_length] at hl
  have hq : j / 5 < xs.length := by omega
  obtain ⟨b, o, e, hn⟩ := h (j / 5) hq
  simp only [Option.some.injEq] at e
  subst e
  have ej : j = (j / 5) * 5 + j % 5 := by omega
  have hr : j % 5 < 5 := by omega
  have hg := flat_get xs (j / 5) (j % 5) hq hr
  rw [← ej] at hg
  rw [hg] at hj
  have ad1 : ∀ k, Addr.add ⟨b, o, none⟩ k = ⟨b, o + k, none⟩ := by
    intro k
    unfold Addr.add
    split
    · rename_i h0; rw [h0]; rfl
    · rfl
  obtain ⟨c0, c1, c2, c3, c4⟩ := hn
  have ad2 : Addr.add ⟨b, o, none⟩ j = ⟨b, o + j / 5 * 5 + j % 5, none⟩ := by
    rw [ad1]
    congr 1
    omega
  rw [ad2]
  generalize j % 5 = r at hj hr ⊢
  match r, hr with
  | 0, _ => simp [Nd.row] at hj; subst hj; exact c0
  | 1, _ => simp [Nd.row] at hj; subst hj; exact c1
  | 2, _ => simp [Nd.row] at hj; subst hj; exact c2
  | 3, _ => simp [Nd.row] at hj; subst hj; exact c3
  | 4, _ => simp [Nd.row] at hj; subst hj; exact c4

set_option maxHeartbeats 400000 in
theorem clone_any (xs : List Nd) (m : Nat) (HM : Hid (xs.length = m)) (hm : m ≤ 1048576) (ad : Addr) (cap : Nat) (w : World) (hx : Nodes w (some ad) xs) :
    Calls Tryz.prog 57 #[.slice (some ad) m cap] w fun e w' => ∃ g c, e = .returned (.slice (some ⟨g, 0, none⟩) m c) ∧ w.heap.size ≤ g ∧ Row w' g xs ∧ Below w.heap.size w w' := by
  obtain ⟨i0, hi, hz0, hz1, hz2⟩ := info_parts Tryz.infoN
  have hO := OwnN.empty (w := w) (B := w.heap.size) (Nat.le_refl _)
  have hnil : ∀ (w : World), (binOp .eql 27 (.slice (some ad) m cap) (.slice none 0 0)).run Tryz.prog w = .ok (.bool false) w := fun w => Lib.run_eql_slice_nil w _ _ (some ad) m cap 0 0 Tryz.underlying27
  have hn := nodes_news (hx.below ((Below.refl _ w).alloc (Nat.le_refl _) (.cells #[] 40)))
  go_enter Tryz.func57, Tryz.ntmps57
  clear hx
  go_wp2_with (at_builtin; refine wpList_append2 _ rfl (.tmp 5) (.tmp 6) 27 rfl w.heap.size 40 i0 _ 5 48 Tryz.underlying27 hi hz0 hz1 hz2 rfl (by decide) w.heap.size 0 0 _ rfl hO.2 ad m cap (flat xs) rfl ?a1 hn (nd_flat_one xs) ?a3 ?a4 ?a5 ?_)
  case a1 => rw [flat_length, HM.out]
  case a3 => unfold maxLen; omega
  case a4 => omega
  case a5 => simp
  intro g2 c2 w2 hown2 hgrow2 hwh
  have hF : OwnN w2 w.heap.size g2 c2 m xs := ⟨HM.out, by simpa [flat] using hown2⟩
  obtain ⟨hg, hr⟩ := hF.row
  have hbb : Below w.heap.size w w2 := ((Below.refl _ w).alloc (Nat.le_refl _) _).grown hgrow2 (by simp) (fun q hq => by cases hq; exact Nat.le_refl _)
  clear hown2 hgrow2 hwh hF hO hn
  go_wp2
  go_ret
  exact ⟨_, _, rfl, hg, hr, hbb⟩

/-- An answer: a slice of nodes that is empty, or a row of the call's own, from block B on. -/
def Ans (w : World) (B : Nat) (ao : Option Addr) (zs : List Nd) : Prop := zs = [] ∨ ∃ g, ao = some ⟨g, 0, none⟩ ∧ B ≤ g ∧ Row w g zs

theorem Ans.nodes {w : World} {B : Nat} {ao : Option Addr} {zs : List Nd} (h : Ans w B ao zs) : Nodes w ao zs := by
  rcases h with rfl | ⟨g, rfl, _, hr⟩
  · exact fun i hi => by simp at hi
  · exact hr.nodes

theorem Ans.below {w w' : World} {B : Nat} {ao : Option Addr} {zs : List Nd} (h : Ans w B ao zs) (hb : Below w.heap.size w w') : Ans w' B ao zs := by
  rcases h with rfl | ⟨g, rfl, hB, hr⟩
  · exact Or.inl rfl
  · exact Or.inr ⟨g, rfl, hB, hr.below hb⟩

theorem Ans.but {S : Nat → Prop} {w w' : World} {B : Nat} {ao : Option Addr} {zs : List Nd} (h : Ans w B ao zs) (hb : But S w w') (hS : ∀ g, ao = some ⟨g, 0, none⟩ → B ≤ g → Row w g zs → ¬ S g) : Ans w' B ao zs := by
  rcases h with rfl | ⟨g, rfl, hB, hr⟩
  · exact Or.inl rfl
  · exact Or.inr ⟨g, rfl, hB, hb.row hr (hS g rfl hB hr)⟩

theorem Ans.mono {w : World} {B B' : Nat} {ao : Option Addr} {zs : List Nd} (h : Ans w B ao zs) (hB : B' ≤ B) : Ans w B' ao zs := by
  rcases h with rfl | ⟨g, rfl, h1, hr⟩
  · exact Or.inl rfl
  · exact Or.inr ⟨g, rfl, by omega, hr⟩

end Go.Proofs.YthioecjcnajmgaaGreatDoor

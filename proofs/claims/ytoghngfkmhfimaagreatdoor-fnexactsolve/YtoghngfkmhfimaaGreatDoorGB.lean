import Derived.Test.YtoghngfkmhfimaaGreatDoorGA
import Derived.Laws.BytesArg
import Derived.Deep.RegionWith
import Derived.Deep.OwnRows
namespace Go.Proofs.YtoghngfkmhfimaaGreatDoor
open Go.RowKit

/-- The decimal digits, as the loop lays them. -/
def digs : Nat → Nat → ByteArray → ByteArray
  | 0, _, out => out
  | f + 1, q, out => if q = 0 then out else digs f (q / 10) (strOfNums [48 + (q : Int) % 10] ++ out)

def mtext (k : Nat) : ByteArray := ⟨#[109]⟩ ++ digs 20 k ⟨#[]⟩

theorem digs_zero (f : Nat) (out : ByteArray) : digs f 0 out = out := by
  cases f <;> simp [digs]

theorem conv_byte (w : World) (v : Int) : (convert 173 9 (.slice (some ⟨w.heap.size, 0, none⟩) 1 1)).run Tryz.prog (w.alloc (.cells #[.int .u8 v] 5)) = .ok (.string (strOfNums [v])) (w.alloc (.cells #[.int .u8 v] 5)) := by
  refine run_convert_bytes_arg (P := Tryz.prog) _ 173 5 Tryz.underlying173 Tryz.underlying5 w.heap.size 0 1 1 [v] rfl ?_ 9 Tryz.underlying9
  intro i hi
  have : i = 0 := by omega
  subst this
  simp

set_option maxHeartbeats 400000 in
theorem markText_any (k : Nat) (hk : k ≤ 1000000000) (h0 : 0 < k) (w : World) :
    Calls Tryz.prog 59 #[.int .i64 k] w fun e w' => e = .returned (.string (mtext k)) ∧ Below w.heap.size w w' := by
  have hcv := conv_byte
  have hss : ∀ v, (strOfNums [v]).size = 1 := fun v => strOfNums_size [v]
  go_enter Tryz.func59, Tryz.ntmps59
  go_wp2
  go_loopw [0, 3] (fun a b wr => ∃ (f q : Nat) (out : ByteArray), q ≤ 1000000000 ∧ q < 10 ^ f ∧ a = .int .i64 q ∧ b = .string out ∧ out.size + f ≤ 20 ∧ digs f q out = digs 20 k ⟨#[]⟩ ∧ Below w.heap.size w wr) (fun a _ _ => (intOf a).toNat)
  case atStart => exact ⟨20, k, _, hk, by omega, rfl, rfl, Nat.le_refl _, rfl, Below.refl _ _⟩
  case round =>
    obtain ⟨f, q, out, hq, hf, rfl, rfl, hsz, hd, hb⟩ := hrel
    have HF : Hid (q < 10 ^ f) := hf
    have HD : Hid (digs f q out = digs 20 k ⟨#[]⟩) := hd
    clear hf hd
    by_cases hq0 : 0 < q
    · have hfp : 0 < f := by
        rcases Nat.eq_zero_or_pos f with h | h
        · subst h; have := HF.out; simp at this; omega
        · exact h
      have HF2 : Hid (q / 10 < 10 ^ (f - 1)) := by
        have h1 := HF.out
        have e : 10 ^ f = 10 ^ (f - 1) * 10 := by rw [← Nat.pow_succ]; congr 1; omega
        rw [e] at h1
        show q / 10 < 10 ^ (f - 1)
        omega
      have HD2 : Hid (digs (f - 1) (q / 10) (strOfNums [48 + (q : Int) % 10] ++ out) = digs 20 k ⟨#[]⟩) := by
        have h1 := HD.out
        obtain ⟨f', rfl⟩ : ∃ f', f = f' + 1 := ⟨f - 1, by omega⟩
        rw [digs, if_neg (by omega)] at h1
        exact h1
      go_wp2
      go_roundw
      case rel => exact ⟨f - 1, q / 10, _, by omega, HF2.out, by go_num, rfl, by rw [ByteArray.size_append, hss]; omega, HD2.out, hb.alloc hb.size _⟩
      case measure => simp [intOf]; omega
    · have hqz : q = 0 := by omega
      subst hqz
      have HE : Hid (out = digs 20 k ⟨#[]⟩) := by have := HD.out; rw [digs_zero] at this; exact this
      have hsd : (ByteArray.mk #[109]).size = 1 := rfl
      go_wp2
      go_ret
      exact ⟨by rw [HE.out]; rfl, hb⟩

end Go.Proofs.YtoghngfkmhfimaaGreatDoor

namespace Go.Proofs.YtoghngfkmhfimaaGreatDoor
open Go.RowKit

/-- The node that bears the marks from j on. -/
def mk (j : Nat) : Nd := ⟨(j : Int), (j : Int) + 1, mtext (j + 2), (j : Int) + 1 + 1 + 1, (j : Int) + 1 + 1 + 1 + 1⟩

def marks (k n : Nat) : List Nd := (List.range n).map fun i => mk (k + 5 * i)

theorem marks_length (k n : Nat) : (marks k n).length = n := by simp [marks]

theorem marks_get (k n i : Nat) (h : i < (marks k n).length) : (marks k n)[i] = mk (k + 5 * i) := by simp [marks]

theorem mark_step (k : Nat) (ys : List Nd) (j : Nat) (h : j < ys.length) : (marks k j ++ ys.drop j).set j (mk (k + 5 * j)) = marks k (j + 1) ++ ys.drop (j + 1) := by
  rw [List.set_append_right _ _ (by rw [marks_length]; omega)]
  have e : j - (marks k j).length = 0 := by rw [marks_length]; omega
  rw [e, List.drop_eq_getElem_cons h, List.set_cons_zero]
  have e2 : marks k (j + 1) = marks k j ++ [mk (k + 5 * j)] := by simp [marks, List.range_succ]
  rw [e2, List.append_assoc]
  rfl

theorem markText_int (z : Int) (k : Nat) (hz : z = (k : Int)) (hk : k ≤ 1000000000) (h0 : 0 < k) (w : World) :
    Calls Tryz.prog 59 #[.int .i64 z] w fun e w' => e = .returned (.string (mtext k)) ∧ Below w.heap.size w w' := by
  subst hz
  exact markText_any k hk h0 w

set_option maxHeartbeats 1000000 in
theorem markNodeS_any (ys : List Nd) (n g cap k : Nat) (w : World) (HN : Hid (ys.length = n)) (hr : Row w g ys) (hn : n ≤ 1048577) (hk : k ≤ 100000000) (hk0 : 0 < k) :
    Calls Tryz.prog 27 #[.slice (some ⟨g, 0, none⟩) n cap, .int .i64 k] w fun e w' =>
      e = .returned (.int .i64 (k + 5 * n : Nat)) ∧ Row w' g (marks k n) ∧ But (· = g) w w' := by
  go_enter Tryz.func27, Tryz.ntmps27
  go_wp2
  go_loopw [1, 5] (fun a i wr => ∃ (j : Nat), j ≤ n ∧ i = .int .i64 j ∧ a = .int .i64 (k + 5 * j : Nat) ∧ Row wr g (marks k j ++ ys.drop j) ∧ But (· = g) w wr) (fun _ i _ => n - (intOf i).toNat)
  case atStart => exact ⟨0, Nat.zero_le _, rfl, rfl, hr, But.refl _ _⟩
  case round =>
    obtain ⟨j, hj, rfl, rfl, hrow, hb⟩ := hrel
    clear hr
    by_cases hlt : j < n
    · have hl : (marks k j ++ ys.drop j).length = n := by have := HN.out; simp [marks_length]; omega
      have hl5 : (flat (marks k j ++ ys.drop j)).length = n * 5 := by rw [flat_length, hl]
      have HL : Hid (j < ys.length) := by have := HN.out; show j < ys.length; omega
      obtain ⟨v0, c0⟩ := Own.has hrow (j * 5) (by rw [hl5]; omega)
      obtain ⟨v1, c1⟩ := Own.has hrow (j * 5 + 1) (by rw [hl5]; omega)
      have f0 := Own.frozen hrow (j * 5)
      have f1 := Own.frozen hrow (j * 5 + 1)
      obtain ⟨q, hq⟩ : ∃ q : Nat, k + 5 * j = q := ⟨_, rfl⟩
      have HQ : Hid (k + 5 * j = q) := hq
      have hq1 : q ≤ 200000000 := by omega
      rw [hq]
      clear hl hq
      have O2 := (Own.set hrow (j * 5) (.int .i64 (q : Int)) (by rw [hl5]; omega)).set (j * 5 + 1) (.int .i64 ((q : Int) + 1)) (by simp only [List.length_set]; rw [hl5]; omega)
      have B2 := (hb.setCell (p := ⟨g, j * 5, none⟩) rfl (.int .i64 (q : Int))).setCell (p := ⟨g, j * 5 + 1, none⟩) rfl (.int .i64 ((q : Int) + 1))
      have HF : Hid (flat ((marks k j ++ ys.drop j).set j (mk q)) = flat (marks k (j + 1) ++ ys.drop (j + 1))) := by
        have := mark_step k ys j HL.out
        rw [HQ.out] at this
        exact congrArg flat this
      have HLL : Hid ((marks k j ++ ys.drop j).length = n) := by have := HN.out; show (marks k j ++ ys.drop j).length = n; simp [marks_length]; omega
      clear hb hrow hl5
      go_wp2_with fail
      refine (markText_int ((q : Int) + 1 + 1) (q + 2) (by omega) (by omega) (by omega) _).mono ?_
      rintro e w1 ⟨rfl, hb1⟩
      have O3 := O2.below hb1
      have B3 := B2.trans (But.ofBelow hb1)
      have hl5 : (flat (marks k j ++ ys.drop j)).length = n * 5 := by rw [flat_length, HLL.out]
      obtain ⟨v2, c2⟩ := O3.has (j * 5 + 2) (by simp only [List.length_set]; rw [hl5]; omega)
      obtain ⟨v3, c3⟩ := O3.has (j * 5 + 3) (by simp only [List.length_set]; rw [hl5]; omega)
      obtain ⟨v4, c4⟩ := O3.has (j * 5 + 4) (by simp only [List.length_set]; rw [hl5]; omega)
      have f2 := O3.frozen (j * 5 + 2)
      have f3 := O3.frozen (j * 5 + 3)
      have f4 := O3.frozen (j * 5 + 4)
      have O4 := ((O3.set (j * 5 + 2) (.string (mtext (q + 2))) (by simp only [List.length_set]; rw [hl5]; omega)).set (j * 5 + 3) (.int .i64 ((q : Int) + 1 + 1 + 1)) (by simp only [List.length_set]; rw [hl5]; omega)).set (j * 5 + 4) (.int .i64 ((q : Int) + 1 + 1 + 1 + 1)) (by simp only [List.length_set]; rw [hl5]; omega)
      have HS := flat_set (marks k j ++ ys.drop j) j (by rw [HLL.out]; exact hlt) (mk q)
      have R5 := O4.row (HS.trans HF.out)
      have B4 := ((B3.setCell (p := ⟨g, j * 5 + 2, none⟩) rfl (.string (mtext (q + 2)))).setCell (p := ⟨g, j * 5 + 3, none⟩) rfl (.int .i64 ((q : Int) + 1 + 1 + 1))).setCell (p := ⟨g, j * 5 + 4, none⟩) rfl (.int .i64 ((q : Int) + 1 + 1 + 1 + 1))
      clear O2 B2 O3 B3 O4 HS c0 c1 f0 f1 hb1 hl5
      go_wp2
      go_roundw
      case rel => exact ⟨j + 1, by omega, by go_num, by have := HQ.out; congr 1; omega, R5, B4⟩
      case measure => simp [intOf]; omega
    · have hje : j = n := by omega
      subst hje
      have R5 : Row wr g (marks k j) := by
        have e : ys.drop j = [] := List.drop_eq_nil_of_le (by have := HN.out; omega)
        rw [e, List.append_nil] at hrow
        exact hrow
      clear hrow
      go_wp2
      go_ret
      exact ⟨rfl, R5, hb⟩

end Go.Proofs.YtoghngfkmhfimaaGreatDoor

namespace Go.Proofs.YtoghngfkmhfimaaGreatDoor
open Go.RowKit

set_option maxHeartbeats 1000000 in
theorem heldNodeS_any (n g cap k : Nat) (w : World) (hr : Row w g (marks k n)) (hn : n ≤ 1048577) (hk : k ≤ 100000000) (hk0 : 0 < k) :
    Calls Tryz.prog 60 #[.slice (some ⟨g, 0, none⟩) n cap, .int .i64 k] w fun e w' =>
      e = .returned (.int .i64 (k + 5 * n : Nat)) ∧ Below w.heap.size w w' := by
  go_enter Tryz.func60, Tryz.ntmps60
  go_wp2
  go_loopw [1, 5] (fun a i wr => ∃ (j : Nat), j ≤ n ∧ i = .int .i64 j ∧ a = .int .i64 (k + 5 * j : Nat) ∧ Below w.heap.size w wr) (fun _ i _ => n - (intOf i).toNat)
  case atStart => exact ⟨0, Nat.zero_le _, rfl, rfl, Below.refl _ _⟩
  case round =>
    obtain ⟨j, hj, rfl, rfl, hb⟩ := hrel
    by_cases hlt : j < n
    · have hrow := hr.below hb
      have hl : j < (marks k n).length := by rw [marks_length]; exact hlt
      obtain ⟨q, hq⟩ : ∃ q : Nat, k + 5 * j = q := ⟨_, rfl⟩
      have HQ : Hid (k + 5 * j = q) := hq
      have hq1 : q ≤ 200000000 := by omega
      obtain ⟨c0, c1, c2, c3, c4⟩ := hrow.node j hl
      rw [marks_get, hq] at c0 c1 c2 c3 c4
      simp only [mk] at c0 c1 c2 c3 c4
      have hlb : g < wr.heap.size := hrow.lt
      rw [hq]
      clear hl hq hr hrow
      go_wp2_with fail
      go_region_with (go_at_call 59; refine (markText_int ((q : Int) + 1 + 1) (q + 2) (by omega) (by omega) (by omega) _).mono ?_; rintro e w1 ⟨rfl, hb1⟩; have hc1 := bcell_drew hb1)
      all_goals
        have hbb := Below.step hb (undrew hb1)
        clear hb hb1
        go_wp2
        go_roundw
        case rel => exact ⟨j + 1, by omega, by go_num, by have := HQ.out; congr 1; omega, hbb⟩
        case measure => simp [intOf]; omega
    · have hje : j = n := by omega
      subst hje
      clear hr
      go_wp2
      go_ret
      exact ⟨rfl, hb⟩

end Go.Proofs.YtoghngfkmhfimaaGreatDoor

namespace Go.Proofs.YtoghngfkmhfimaaGreatDoor
open Go.RowKit

/-- Cells two by two. -/
def cells2 (ps : List (Value × Value)) : List Value := ps.flatMap fun p => [p.1, p.2]

theorem cells2_length (ps : List (Value × Value)) : (cells2 ps).length = ps.length * 2 := by
  induction ps with
  | nil => rfl
  | cons m ms ih => simp only [cells2, List.flatMap_cons, List.length_append, List.length_cons, List.length_nil] at *; omega

theorem cells2_append (a b : List (Value × Value)) : cells2 (a ++ b) = cells2 a ++ cells2 b := by simp [cells2]

theorem cells2_get (ps : List (Value × Value)) (i : Nat) (h : i < ps.length) : (cells2 ps)[i * 2]? = some ps[i].1 ∧ (cells2 ps)[i * 2 + 1]? = some ps[i].2 := by
  induction ps generalizing i with
  | nil => simp at h
  | cons m ms ih =>
    cases i with
    | zero => simp [cells2]
    | succ i =>
      have e1 : (i + 1) * 2 = i * 2 + 1 + 1 := by omega
      have h9 := ih i (by simpa using h)
      rw [e1]
      simpa [cells2] using h9

theorem cells2_set (ps : List (Value × Value)) (j : Nat) (p : Value × Value) : ((cells2 ps).set (j * 2) p.1).set (j * 2 + 1) p.2 = cells2 (ps.set j p) := by
  induction ps generalizing j with
  | nil => simp [cells2]
  | cons m ms ih =>
    cases j with
    | zero => simp [cells2]
    | succ j =>
      have e1 : (j + 1) * 2 = j * 2 + 1 + 1 := by omega
      have h9 := ih j
      rw [e1]
      simp only [cells2, List.flatMap_cons, List.cons_append, List.nil_append, List.set_cons_succ] at h9 ⊢
      rw [h9]

/-- A slice of Binds. -/
def Binds (w : World) (ao : Option Addr) (bs : List (Int × List Nd)) : Prop :=
  ∀ i (h : i < bs.length), ∃ b o ai ci, ao = some ⟨b, o, none⟩ ∧ w.cell? ⟨b, o + i * 2, none⟩ = some (.int .i64 bs[i].1) ∧ w.cell? ⟨b, o + i * 2 + 1, none⟩ = some (.slice ai bs[i].2.length ci) ∧ Nodes w ai bs[i].2

theorem Binds.below {w w' : World} {ao : Option Addr} {bs : List (Int × List Nd)} (h : Binds w ao bs) (hb : Below w.heap.size w w') : Binds w' ao bs := by
  intro i hi
  obtain ⟨b, o, ai, ci, e, h0, hc, hn⟩ := h i hi
  exact ⟨b, o, ai, ci, e, (hb.cell (p := ⟨b, o + i * 2, none⟩) (lt_of_cell h0)).trans h0, (hb.cell (p := ⟨b, o + i * 2 + 1, none⟩) (lt_of_cell hc)).trans hc, hn.below hb⟩

/-- The types of Binds. -/
def tys (bs : List (Int × List Nd)) : List (List Nd) := bs.map Prod.snd

set_option maxHeartbeats 400000 in
theorem eqBind_same (x : Int) (ks : List Nd) (l : Nat) (HL : Hid (ks.length = l)) (ai bi : Option Addr) (ci di : Nat) (w : World) (hn : Nodes w ai ks) (hn' : Nodes w bi ks) (hlen : l ≤ 1048576) :
    Calls Tryz.prog 57 #[.agg #[.int .i64 x, .slice ai l ci], .agg #[.int .i64 x, .slice bi l di]] w fun e w' => e = .returned (.bool true) ∧ Below w.heap.size w w' := by
  have tx : (x != x) = false := by simp
  go_enter Tryz.func57, Tryz.ntmps57
  go_wp2_with fail
  have hA : Below w.heap.size w (w.alloc (.cells #[.int .i64 x, .slice ai l ci] 91)) := (Below.refl _ w).alloc (Nat.le_refl _) _
  have hB := hA.alloc hA.size (.cells #[.int .i64 x, .slice bi l di] 91)
  refine (eqNodeS_any ks ks l l HL HL ai bi ci di _ (hn.below hB) (hn'.below hB) (by omega) (by omega)).mono ?_
  rintro e w1 ⟨⟨r, rfl, hr⟩, hb1⟩
  have hr1 : r = true := hr.2 ⟨rfl, fun _ _ _ => Nd.eqb_refl _⟩
  subst hr1
  have hbb := Below.step hB hb1
  clear hA hB hb1 hn hn' hr
  go_wp2
  go_ret
  exact ⟨rfl, hbb⟩

end Go.Proofs.YtoghngfkmhfimaaGreatDoor

namespace Go.Proofs.YtoghngfkmhfimaaGreatDoor
open Go.RowKit

theorem tys_get (bs : List (Int × List Nd)) (k : Nat) (h : k < bs.length) : (tys bs)[k]'(by simpa [tys] using h) = bs[k].2 := by simp [tys]

theorem Tryz.infoB : (Tryz.prog.info? 91).map (fun i => (i.zero, i.size, i.bytes)) = some (some (.agg #[.int .i64 0, .slice none 0 0]), 2, 32) := by kernel_rfl

/-- The Binds that lead to the rows gs. -/
def leadP (gs : List Nat) (bs : List (Int × List Nd)) : List (Value × Value) := List.zipWith (fun h b => (.int .i64 b.1, .slice (some ⟨h, 0, none⟩) b.2.length b.2.length)) gs bs

/-- Block g is a row of Binds of the call's own. -/
def OwnB (w : World) (g : Nat) (ps : List (Value × Value)) : Prop := OwnT 91 w g (cells2 ps)

theorem OwnB.ne {w : World} {g h : Nat} {ps : List (Value × Value)} {ds : List Value} (a : OwnB w g ps) (b : Own w h ds) : h ≠ g := by
  rintro rfl
  obtain ⟨cur, _, hg, _⟩ := a
  obtain ⟨cur', _, hg', _⟩ := b
  rw [hg] at hg'
  simp at hg'

theorem OwnB.at {w : World} {g : Nat} {ps : List (Value × Value)} (h : OwnB w g ps) (i : Nat) (hi : i < ps.length) : w.cell? ⟨g, i * 2, none⟩ = some ps[i].1 ∧ w.cell? ⟨g, i * 2 + 1, none⟩ = some ps[i].2 := by
  have hl := cells2_length ps
  obtain ⟨h1, h2⟩ := cells2_get ps i hi
  exact ⟨(OwnT.at h _ (by omega)).trans h1, (OwnT.at h _ (by omega)).trans h2⟩

theorem OwnB.put {w : World} {g : Nat} {ps : List (Value × Value)} (h : OwnB w g ps) (j : Nat) (hj : j < ps.length) (a b : Value) : OwnB ((w.setCell ⟨g, j * 2, none⟩ a).setCell ⟨g, j * 2 + 1, none⟩ b) g (ps.set j (a, b)) := by
  have hl := cells2_length ps
  have h9 := OwnT.set (OwnT.set h (j * 2) a (by omega)) (j * 2 + 1) b (by simp; omega)
  rw [cells2_set ps j (a, b)] at h9
  exact h9

/-- All of it: the row g of Binds, the rows gs of nodes, no two of them one. -/
structure TwoB (w : World) (g : Nat) (gs : List Nat) (bs : List (Int × List Nd)) : Prop where
  lead : OwnB w g (leadP gs bs)
  rows : RowsAt w gs (tys bs)
  nodup : gs.Nodup

theorem TwoB.below {w w' : World} {g : Nat} {gs : List Nat} {bs : List (Int × List Nd)} (h : TwoB w g gs bs) (hb : Below w.heap.size w w') : TwoB w' g gs bs :=
  ⟨OwnT.below h.lead hb, h.rows.below hb, h.nodup⟩

theorem TwoB.get {w : World} {g : Nat} {gs : List Nat} {bs : List (Int × List Nd)} (h : TwoB w g gs bs) (i : Nat) (hi : i < bs.length) (hi' : i < gs.length) :
    w.cell? ⟨g, i * 2, none⟩ = some (.int .i64 bs[i].1) ∧ w.cell? ⟨g, i * 2 + 1, none⟩ = some (.slice (some ⟨gs[i], 0, none⟩) bs[i].2.length bs[i].2.length) ∧ Row w gs[i] bs[i].2 := by
  obtain ⟨h1, h2⟩ := h.lead.at i (by simp [leadP]; omega)
  have hr := h.rows.2 i hi' (by simpa [tys] using hi)
  rw [tys_get bs i hi] at hr
  refine ⟨?_, ?_, hr⟩
  · rw [h1]; simp [leadP]
  · rw [h2]; simp [leadP]

theorem TwoB.binds {w : World} {g : Nat} {gs : List Nat} {bs : List (Int × List Nd)} (h : TwoB w g gs bs) : Binds w (some ⟨g, 0, none⟩) bs := by
  intro i hi
  have hi' : i < gs.length := by have h9 := h.rows.1; simp [tys] at h9; omega
  obtain ⟨h0, hc, hr⟩ := h.get i hi hi'
  exact ⟨g, 0, _, _, rfl, by rw [Nat.zero_add]; exact h0, by rw [Nat.zero_add]; exact hc, hr.nodes⟩

end Go.Proofs.YtoghngfkmhfimaaGreatDoor

namespace Go.Proofs.YtoghngfkmhfimaaGreatDoor
open Go.RowKit

set_option maxHeartbeats 1000000 in
theorem eqBindS_same (bs : List (Int × List Nd)) (n : Nat) (HN : Hid (bs.length = n)) (ao bo : Option Addr) (cap cbp : Nat) (w : World) (hx : Binds w ao bs) (hy : Binds w bo bs) (hm : ∀ b ∈ bs, b.2.length ≤ 1048576) (hlx : n ≤ 1048576) :
    Calls Tryz.prog 25 #[.slice ao n cap, .slice bo n cbp] w fun e w' => e = .returned (.bool true) ∧ Below w.heap.size w w' := by
  go_enter Tryz.func25, Tryz.ntmps25
  go_wp2
  go_loopw [5] (fun i wr => ∃ (k : Nat), k ≤ n ∧ i = .int .i64 k ∧ Below w.heap.size w wr) (fun i _ => n - (intOf i).toNat)
  case atStart => exact ⟨0, Nat.zero_le _, rfl, Below.refl _ _⟩
  case round =>
    obtain ⟨k, hk, rfl, hb⟩ := hrel
    by_cases hlt : k < n
    · have hltk : k < bs.length := by have := HN.out; omega
      obtain ⟨b, o, ai, ci, rfl, hc0, hc, hn⟩ := hx.below hb k hltk
      obtain ⟨b', o', ai', ci', rfl, hc0', hc', hn'⟩ := hy.below hb k hltk
      have hmk := hm bs[k] (List.getElem_mem hltk)
      obtain ⟨⟨bn, ks⟩, hks⟩ : ∃ p, bs[k] = p := ⟨_, rfl⟩
      rw [hks] at hc hc' hn hn' hmk hc0 hc0'
      simp only at hc hc' hn hn' hmk hc0 hc0'
      obtain ⟨l, hl⟩ : ∃ l, ks.length = l := ⟨_, rfl⟩
      have HL : Hid (ks.length = l) := hl
      rw [hl] at hc hc' hmk
      have hlb : b < wr.heap.size := lt_of_cell hc
      have hlb' : b' < wr.heap.size := lt_of_cell hc'
      have hB : Below wr.heap.size wr wr.drew := (Below.refl _ _).drew
      have hnd := hn.below hB
      have hnd' := hn'.below hB
      clear hx hy hm hks hl hn hn'
      go_wp2_with fail
      go_region_with (go_at_call 57; refine (eqBind_same bn ks l HL ai ai' ci ci' _ hnd hnd' (by omega)).mono ?_; rintro e w1 ⟨rfl, hb1⟩)
      all_goals
        have hbb := Below.step hb (undrew hb1)
        clear hb hb1 hc hc' hc0 hc0' hB hnd hnd'
        go_wp2
        go_roundw
        case rel => exact ⟨k + 1, by omega, by go_num, hbb⟩
        case measure => simp [intOf]; omega
    · clear hx hy hm
      go_wp2
      go_ret
      exact ⟨rfl, hb⟩

theorem set_same {α : Type} {xs : List α} {i : Nat} {v : α} (h : xs[i]? = some v) : xs.set i v = xs := by
  apply List.ext_getElem?
  intro j
  by_cases e : i = j
  · subst e
    have hl := (List.getElem?_eq_some_iff.1 h).1
    rw [List.getElem?_set_self hl, h]
  · rw [List.getElem?_set_ne e]

end Go.Proofs.YtoghngfkmhfimaaGreatDoor

namespace Go.Proofs.YtoghngfkmhfimaaGreatDoor
open Go.RowKit

/-- The Binds that lead to rows with capacities. -/
def leadR (rs : List (Nat × Nat)) (bs : List (Int × List Nd)) : List (Value × Value) := List.zipWith (fun r b => (.int .i64 b.1, .slice (some ⟨r.1, 0, none⟩) b.2.length r.2)) rs bs

/-- A row of Binds, the rows of nodes to which they lead, no two of them one. -/
structure TwoR (w : World) (g : Nat) (rs : List (Nat × Nat)) (bs : List (Int × List Nd)) : Prop where
  len : rs.length = bs.length
  lead : OwnB w g (leadR rs bs)
  rows : ∀ i (h : i < rs.length) (h' : i < bs.length), Row w rs[i].1 bs[i].2
  nodup : (rs.map Prod.fst).Nodup

theorem TwoR.below {w w' : World} {g : Nat} {rs : List (Nat × Nat)} {bs : List (Int × List Nd)} (h : TwoR w g rs bs) (hb : Below w.heap.size w w') : TwoR w' g rs bs :=
  ⟨h.len, OwnT.below h.lead hb, fun i hi hi' => (h.rows i hi hi').below hb, h.nodup⟩

theorem TwoR.but {S : Nat → Prop} {w w' : World} {g : Nat} {rs : List (Nat × Nat)} {bs : List (Int × List Nd)} (h : TwoR w g rs bs) (hb : But S w w') (hg : ¬ S g) (hr : ∀ r ∈ rs, ¬ S r.1) : TwoR w' g rs bs :=
  ⟨h.len, OwnT.but h.lead hb hg, fun i hi hi' => hb.row (h.rows i hi hi') (hr _ (List.getElem_mem hi)), h.nodup⟩

theorem TwoR.lt {w : World} {g : Nat} {rs : List (Nat × Nat)} {bs : List (Int × List Nd)} (h : TwoR w g rs bs) : g < w.heap.size := OwnT.lt h.lead

theorem TwoR.mem_lt {w : World} {g : Nat} {rs : List (Nat × Nat)} {bs : List (Int × List Nd)} (h : TwoR w g rs bs) : ∀ r ∈ rs, r.1 < w.heap.size ∧ r.1 ≠ g := by
  intro r hr
  obtain ⟨i, hi, rfl⟩ := List.getElem_of_mem hr
  have hrow := h.rows i hi (by have := h.len; omega)
  exact ⟨hrow.lt, OwnB.ne h.lead hrow⟩

theorem leadR_get (rs : List (Nat × Nat)) (bs : List (Int × List Nd)) (i : Nat) (hr : i < rs.length) (hb : i < bs.length) : (leadR rs bs)[i]'(by simp [leadR]; omega) = (.int .i64 bs[i].1, .slice (some ⟨rs[i].1, 0, none⟩) bs[i].2.length rs[i].2) := by simp [leadR]

theorem leadR_length (rs : List (Nat × Nat)) (bs : List (Int × List Nd)) (h : rs.length = bs.length) : (leadR rs bs).length = bs.length := by simp [leadR, h]

theorem TwoR.get {w : World} {g : Nat} {rs : List (Nat × Nat)} {bs : List (Int × List Nd)} (h : TwoR w g rs bs) (i : Nat) (hi : i < bs.length) (hi' : i < rs.length) :
    w.cell? ⟨g, i * 2, none⟩ = some (.int .i64 bs[i].1) ∧ w.cell? ⟨g, i * 2 + 1, none⟩ = some (.slice (some ⟨rs[i].1, 0, none⟩) bs[i].2.length rs[i].2) ∧ Row w rs[i].1 bs[i].2 := by
  obtain ⟨h1, h2⟩ := h.lead.at i (by rw [leadR_length rs bs h.len]; exact hi)
  rw [leadR_get rs bs i hi' hi] at h1 h2
  exact ⟨h1, h2, h.rows i hi' hi⟩

theorem TwoR.binds {w : World} {g : Nat} {rs : List (Nat × Nat)} {bs : List (Int × List Nd)} (h : TwoR w g rs bs) : Binds w (some ⟨g, 0, none⟩) bs := by
  intro i hi
  obtain ⟨h0, hc, hr⟩ := h.get i hi (by have := h.len; omega)
  exact ⟨g, 0, _, _, rfl, by rw [Nat.zero_add]; exact h0, by rw [Nat.zero_add]; exact hc, hr.nodes⟩

/-- What stands there when Binds have been marked from k on. -/
def mB : Nat → List (Int × List Nd) → List (Int × List Nd)
  | _, [] => []
  | k, b :: bs => ((k : Int), marks (k + 1) b.2.length) :: mB (k + 1 + 5 * b.2.length) bs

theorem mB_length (k : Nat) (bs : List (Int × List Nd)) : (mB k bs).length = bs.length := by
  induction bs generalizing k with
  | nil => rfl
  | cons b bs ih => simp [mB, ih]

theorem mB_get (k : Nat) (bs : List (Int × List Nd)) (j : Nat) (h : j < bs.length) : (mB k bs)[j]'(by rw [mB_length]; exact h) = (((k + j + 5 * total ((tys bs).take j) : Nat) : Int), marks (k + j + 5 * total ((tys bs).take j) + 1) bs[j].2.length) := by
  induction bs generalizing k j with
  | nil => simp at h
  | cons b bs ih =>
    cases j with
    | zero => simp [mB, total]
    | succ j =>
      have h9 := ih (k + 1 + 5 * b.2.length) j (by simpa using h)
      have e9 : total ((tys (b :: bs)).take (j + 1)) = b.2.length + total ((tys bs).take j) := by simp [tys, total]
      simp only [mB, List.getElem_cons_succ]
      rw [h9, e9]
      have e8 : k + 1 + 5 * b.2.length + j + 5 * total ((tys bs).take j) = k + (j + 1) + 5 * (b.2.length + total ((tys bs).take j)) := by omega
      rw [e8]

/-- As far as j they are marked. -/
def curB (k : Nat) (bs : List (Int × List Nd)) (j : Nat) : List (Int × List Nd) := (mB k bs).take j ++ bs.drop j

theorem curB_length (k : Nat) (bs : List (Int × List Nd)) (j : Nat) (h : j ≤ bs.length) : (curB k bs j).length = bs.length := by
  simp [curB, mB_length]
  omega

theorem curB_ge (k : Nat) (bs : List (Int × List Nd)) (j i : Nat) (hj : j ≤ i) (h : i < bs.length) : (curB k bs j)[i]'(by rw [curB_length k bs j (by omega)]; exact h) = bs[i] := by
  unfold curB
  rw [List.getElem_append_right (by simp [mB_length]; omega)]
  simp [mB_length]
  congr 1
  omega

theorem curB_step (k : Nat) (bs : List (Int × List Nd)) (j : Nat) (h : j < bs.length) : (curB k bs j).set j ((mB k bs)[j]'(by rw [mB_length]; exact h)) = curB k bs (j + 1) := by
  have hm : j < (mB k bs).length := by rw [mB_length]; exact h
  have e2 : bs.drop j = bs[j] :: bs.drop (j + 1) := List.drop_eq_getElem_cons h
  have hl : ((mB k bs).take j).length = j := by simp; omega
  unfold curB
  rw [e2, List.set_append_right _ _ (by omega), hl, Nat.sub_self, List.set_cons_zero, List.take_succ_eq_append_getElem hm, List.append_assoc]
  rfl

set_option maxHeartbeats 2000000 in
theorem markBindR_any (bs : List (Int × List Nd)) (n : Nat) (HN : Hid (bs.length = n)) (g : Nat) (rs : List (Nat × Nat)) (cap k : Nat) (w : World) (hx : TwoR w g rs bs) (ht : total (tys bs) ≤ 8000000) (HMB : Hid (∀ b ∈ bs, b.2.length ≤ 1048576)) (hlx : n ≤ 1048576) (hk : k ≤ 1000) (hk0 : 0 < k) :
    Calls Tryz.prog 28 #[.slice (some ⟨g, 0, none⟩) n cap, .int .i64 k] w fun e w' => e = .returned (.int .i64 (k + n + 5 * total (tys bs) : Nat)) ∧ TwoR w' g rs (mB k bs) ∧ But (fun q => q = g ∨ ∃ r ∈ rs, q = r.1) w w' := by
  have HR : Hid (rs.length = n) := hx.len.trans HN.out
  go_enter Tryz.func28, Tryz.ntmps28
  go_wp2
  go_loopw [1, 5] (fun a i wr => ∃ (j : Nat), j ≤ n ∧ i = .int .i64 j ∧ a = .int .i64 (k + j + 5 * total ((tys bs).take j) : Nat) ∧ TwoR wr g rs (curB k bs j) ∧ But (fun q => q = g ∨ ∃ r ∈ rs, q = r.1) w wr) (fun _ i _ => n - (intOf i).toNat)
  case atStart => exact ⟨0, Nat.zero_le _, rfl, rfl, by simpa [curB] using hx, But.refl _ _⟩
  case round =>
    obtain ⟨j, hj, rfl, rfl, htw, hb⟩ := hrel
    by_cases hlt : j < n
    · have hltk : j < bs.length := by have := HN.out; omega
      have hltt : j < (tys bs).length := by simpa [tys] using hltk
      have hltr : j < rs.length := by have := HR.out; omega
      have hlc : j < (curB k bs j).length := by rw [curB_length k bs j (by omega)]; exact hltk
      obtain ⟨a0, a1, hr⟩ := htw.get j hlc hltr
      have hge := curB_ge k bs j j (Nat.le_refl _) hltk
      have hmg := mB_get k bs j hltk
      have hst := curB_step k bs j hltk
      have hts := total_take_succ (tys bs) j hltt
      have htl := total_take_le (tys bs) (j + 1)
      rw [tys_get bs j hltk] at hts
      rw [hge] at a0 a1 hr
      obtain ⟨q, hq⟩ : ∃ q, k + j + 5 * total ((tys bs).take j) = q := ⟨_, rfl⟩
      obtain ⟨⟨bn, ks⟩, hbk⟩ : ∃ p, bs[j] = p := ⟨_, rfl⟩
      rw [hbk] at a0 a1 hr hts hmg
      simp only at a0 a1 hr hts hmg
      obtain ⟨l, hl⟩ : ∃ l, ks.length = l := ⟨_, rfl⟩
      have HQ : Hid (k + (j + 1) + 5 * total ((tys bs).take (j + 1)) = q + 1 + 5 * l) := by show k + (j + 1) + 5 * total ((tys bs).take (j + 1)) = q + 1 + 5 * l; omega
      have hq1 : q ≤ 60000000 := by omega
      have hl1 : l ≤ 1048576 := by
        have h9 := HMB.out bs[j] (List.getElem_mem hltk)
        rw [hbk] at h9
        simp only at h9
        omega
      have hq0 : 0 < q := by omega
      have HL : Hid (ks.length = l) := hl
      rw [hq, hl] at hmg
      rw [hmg] at hst
      have hne := OwnB.ne htw.lead hr
      have f0 := OwnT.frozen htw.lead (j * 2)
      have hgl := OwnT.lt htw.lead
      rw [hq]
      rw [hl] at a1
      obtain ⟨⟨rg, rc⟩, hrj⟩ : ∃ r, rs[j] = r := ⟨_, rfl⟩
      have hrm : (rg, rc) ∈ rs := by rw [← hrj]; exact List.getElem_mem hltr
      rw [hrj] at a1 hr hne
      simp only at a1 hr hne
      have bS : But (· = g) wr (wr.setCell ⟨g, j * 2, none⟩ (.int .i64 (q : Int))) := (But.refl (· = g) wr).setCell (p := ⟨g, j * 2, none⟩) rfl _
      have hrS := bS.row hr hne
      have HTW : Hid (TwoR wr g rs (curB k bs j)) := htw
      have HST : Hid ((curB k bs j).set j ((q : Int), marks (q + 1) l) = curB k bs (j + 1)) := hst
      have HRJ : Hid (rs[j] = (rg, rc)) := hrj
      have HA1 : Hid (wr.cell? ⟨g, j * 2 + 1, none⟩ = some (.slice (some ⟨rg, 0, none⟩) l rc)) := a1
      have HGE : Hid ((curB k bs j)[j] = (bn, ks)) := hge.trans hbk
      have bbS : But (fun q => q = g ∨ ∃ r ∈ rs, q = r.1) w (wr.setCell ⟨g, j * 2, none⟩ (.int .i64 (q : Int))) := hb.trans (bS.mono (fun q hq => Or.inl hq))
      clear hts htl hq hl hx htw hst hmg hge hbk hrj hr
      go_wp2_with fail
      refine (markNodeS_any ks l rg rc (q + 1) _ HL hrS (by omega) (by omega) (by omega)).mono ?_
      rintro e w1 ⟨rfl, hrm1, hb1⟩
      have hT : TwoR w1 g rs (curB k bs (j + 1)) := by
        have hln := HTW.out.len
        have hls : rs.length = ((curB k bs j).set j ((q : Int), marks (q + 1) l)).length := by simpa using hln
        rw [← HST.out]
        refine ⟨hls, ?_, ?_, HTW.out.nodup⟩
        · have h9 := OwnT.set HTW.out.lead (j * 2) (.int .i64 (q : Int)) (by rw [cells2_length, leadR_length _ _ hln]; omega)
          have e9 : (cells2 (leadR rs (curB k bs j))).set (j * 2) (.int .i64 (q : Int)) = cells2 (leadR rs ((curB k bs j).set j ((q : Int), marks (q + 1) l))) := by
            have e8 : leadR rs ((curB k bs j).set j ((q : Int), marks (q + 1) l)) = (leadR rs (curB k bs j)).set j (.int .i64 (q : Int), .slice (some ⟨rg, 0, none⟩) l rc) := by
              apply List.ext_getElem
              · simp [leadR]
              · intro i h1 h2
                by_cases e : i = j
                · subst e
                  rw [List.getElem_set_self, leadR_get _ _ i hltr (by simpa using hlc)]
                  simp [HRJ.out, marks_length]
                · have hi1 : i < rs.length := by simp [leadR] at h1; omega
                  have hi2 : i < (curB k bs j).length := by omega
                  rw [List.getElem_set_ne (by omega), leadR_get _ _ i hi1 (by simpa using hi2), leadR_get _ _ i hi1 hi2]
                  rw [List.getElem_set_ne (by omega)]
            rw [e8, ← cells2_set (leadR rs (curB k bs j)) j (.int .i64 (q : Int), .slice (some ⟨rg, 0, none⟩) l rc)]
            have h8 := (cells2_get (leadR rs (curB k bs j)) j (by rw [leadR_length _ _ hln]; exact hlc)).2
            rw [leadR_get _ _ j hltr hlc, HRJ.out, HGE.out] at h8
            simp only [HL.out] at h8
            have h7 : ((cells2 (leadR rs (curB k bs j))).set (j * 2) (.int .i64 (q : Int)))[j * 2 + 1]? = some (.slice (some ⟨rg, 0, none⟩) l rc) := by
              rw [List.getElem?_set_ne (by omega)]; exact h8
            exact (set_same h7).symm
          rw [e9] at h9
          exact OwnT.but h9 hb1 (fun e => hne e.symm)
        · intro i h1 h2
          by_cases e : i = j
          · subst e
            rw [List.getElem_set_self, HRJ.out]
            exact hrm1
          · rw [List.getElem_set_ne (by omega)]
            have h5 := HTW.out.rows i h1 (by simpa using h2)
            refine hb1.row (bS.row h5 (OwnB.ne HTW.out.lead h5)) ?_
            intro e5
            have hnd := HTW.out.nodup
            have h6 : (rs.map Prod.fst)[i]'(by simpa using h1) = (rs.map Prod.fst)[j]'(by simpa using hltr) := by
              rw [List.getElem_map, List.getElem_map, HRJ.out]
              exact e5
            have := (List.getElem_inj (h₀ := by simpa using h1) (h₁ := by simpa using hltr) hnd).1 h6
            omega
      have bb := bbS.trans (hb1.mono (fun q hq => Or.inr ⟨(rg, rc), hrm, hq⟩))
      clear hb hb1 hne bbS a0 a1 f0 hrS hrm1 bS HTW HST HRJ HA1 HGE
      go_wp2
      go_roundw
      case rel => exact ⟨j + 1, by omega, by go_num, by rw [HQ.out]; go_num, hT, bb⟩
      case measure => simp [intOf]; omega
    · have hje : j = n := by omega
      subst hje
      have HE : Hid ((tys bs).take j = tys bs) := List.take_of_length_le (by have := HN.out; simp [tys]; omega)
      have HC : Hid (curB k bs j = mB k bs) := by
        show curB k bs j = mB k bs
        unfold curB
        rw [List.take_of_length_le (by have := HN.out; rw [mB_length]; omega), List.drop_eq_nil_of_le (by have := HN.out; omega), List.append_nil]
      rw [HC.out] at htw
      clear hx
      go_wp2
      go_ret
      exact ⟨by rw [HE.out]; congr 1, htw, hb⟩

set_option maxHeartbeats 2000000 in
theorem heldBindR_any (bs : List (Int × List Nd)) (n : Nat) (HN : Hid (bs.length = n)) (g : Nat) (rs : List (Nat × Nat)) (cap k : Nat) (w : World) (hx : TwoR w g rs (mB k bs)) (ht : total (tys bs) ≤ 8000000) (HMB : Hid (∀ b ∈ bs, b.2.length ≤ 1048576)) (hlx : n ≤ 1048576) (hk : k ≤ 1000) (hk0 : 0 < k) :
    Calls Tryz.prog 29 #[.slice (some ⟨g, 0, none⟩) n cap, .int .i64 k] w fun e w' => e = .returned (.int .i64 (k + n + 5 * total (tys bs) : Nat)) ∧ Below w.heap.size w w' := by
  have HR : Hid (rs.length = n) := by have h9 := hx.len; rw [mB_length] at h9; exact h9.trans HN.out
  go_enter Tryz.func29, Tryz.ntmps29
  go_wp2
  go_loopw [1, 5] (fun a i wr => ∃ (j : Nat), j ≤ n ∧ i = .int .i64 j ∧ a = .int .i64 (k + j + 5 * total ((tys bs).take j) : Nat) ∧ Below w.heap.size w wr) (fun _ i _ => n - (intOf i).toNat)
  case atStart => exact ⟨0, Nat.zero_le _, rfl, rfl, Below.refl _ _⟩
  case round =>
    obtain ⟨j, hj, rfl, rfl, hb⟩ := hrel
    by_cases hlt : j < n
    · have hltk : j < bs.length := by have := HN.out; omega
      have hltt : j < (tys bs).length := by simpa [tys] using hltk
      have hltr : j < rs.length := by have := HR.out; omega
      obtain ⟨a0, a1, hr⟩ := (hx.below hb).get j (by rw [mB_length]; exact hltk) hltr
      have hmg := mB_get k bs j hltk
      have hts := total_take_succ (tys bs) j hltt
      have htl := total_take_le (tys bs) (j + 1)
      rw [tys_get bs j hltk] at hts
      rw [hmg] at a0 a1 hr
      obtain ⟨q, hq⟩ : ∃ q, k + j + 5 * total ((tys bs).take j) = q := ⟨_, rfl⟩
      obtain ⟨l, hl⟩ : ∃ l, bs[j].2.length = l := ⟨_, rfl⟩
      have HQ : Hid (k + (j + 1) + 5 * total ((tys bs).take (j + 1)) = q + 1 + 5 * l) := by show k + (j + 1) + 5 * total ((tys bs).take (j + 1)) = q + 1 + 5 * l; omega
      have hq1 : q ≤ 60000000 := by omega
      have hl1 : l ≤ 1048576 := by
        have h9 := HMB.out bs[j] (List.getElem_mem hltk)
        omega
      rw [hq, hl] at a0 a1 hr
      simp only [marks_length] at a0 a1 hr
      obtain ⟨⟨rg, rc⟩, hrj⟩ : ∃ r, rs[j] = r := ⟨_, rfl⟩
      rw [hrj] at a1 hr
      simp only at a1 hr
      have hgl : g < wr.heap.size := lt_of_cell a0
      rw [hq]
      have tq : ((q : Int) != (q : Int)) = false := by simp
      clear hts htl hq hl hx hmg hrj
      go_wp2_with fail
      refine (heldNodeS_any l rg rc (q + 1) wr hr (by omega) (by omega) (by omega)).mono ?_
      rintro e w1 ⟨rfl, hb1⟩
      have hbb := Below.step hb hb1
      have tk : decide (((q + 1 + 5 * l : Nat) : Int) < 0) = false := decide_eq_false (by omega)
      clear hb hb1 a0 a1 hr
      go_wp2
      go_roundw
      case rel => exact ⟨j + 1, by omega, by go_num, by rw [HQ.out]; go_num, hbb⟩
      case measure => simp [intOf]; omega
    · have hje : j = n := by omega
      subst hje
      have HE : Hid ((tys bs).take j = tys bs) := List.take_of_length_le (by have := HN.out; simp [tys]; omega)
      clear hx
      go_wp2
      go_ret
      exact ⟨by rw [HE.out]; congr 1, hb⟩

/-- An answer: a slice of Binds that is empty, or rows of the call's own, from block B on. -/
def BAns (w : World) (B : Nat) (ao : Option Addr) (bs : List (Int × List Nd)) : Prop := bs = [] ∨ ∃ g rs, ao = some ⟨g, 0, none⟩ ∧ B ≤ g ∧ (∀ r ∈ rs, B ≤ r.1) ∧ TwoR w g rs bs

theorem BAns.binds {w : World} {B : Nat} {ao : Option Addr} {bs : List (Int × List Nd)} (h : BAns w B ao bs) : Binds w ao bs := by
  rcases h with rfl | ⟨g, rs, rfl, _, _, hr⟩
  · exact fun i hi => by simp at hi
  · exact hr.binds

theorem BAns.below {w w' : World} {B : Nat} {ao : Option Addr} {bs : List (Int × List Nd)} (h : BAns w B ao bs) (hb : Below w.heap.size w w') : BAns w' B ao bs := by
  rcases h with rfl | ⟨g, rs, rfl, h1, h2, hr⟩
  · exact Or.inl rfl
  · exact Or.inr ⟨g, rs, rfl, h1, h2, hr.below hb⟩

theorem BAns.but {S : Nat → Prop} {w w' : World} {B : Nat} {ao : Option Addr} {bs : List (Int × List Nd)} (h : BAns w B ao bs) (hb : But S w w') (hS : ∀ q, B ≤ q → ¬ S q) : BAns w' B ao bs := by
  rcases h with rfl | ⟨g, rs, rfl, h1, h2, hr⟩
  · exact Or.inl rfl
  · exact Or.inr ⟨g, rs, rfl, h1, h2, hr.but hb (hS g h1) (fun r hr => hS r.1 (h2 r hr))⟩

set_option maxHeartbeats 1000000 in
theorem markBindS_none (ao : Option Addr) (cap k : Nat) (w : World) :
    Calls Tryz.prog 28 #[.slice ao 0 cap, .int .i64 k] w fun e w' => e = .returned (.int .i64 (k : Nat)) ∧ w' = w := by
  go_enter Tryz.func28, Tryz.ntmps28
  go_wp2
  go_loopw [1, 5] (fun a i wr => a = .int .i64 k ∧ i = .int .i64 0 ∧ wr = w) (fun _ _ _ => 0)
  case atStart => exact ⟨rfl, rfl, rfl⟩
  case round =>
    obtain ⟨rfl, rfl, rfl⟩ := hrel
    go_wp2
    go_ret
    exact ⟨rfl, rfl⟩

set_option maxHeartbeats 1000000 in
theorem heldBindS_none (ao : Option Addr) (cap k : Nat) (w : World) :
    Calls Tryz.prog 29 #[.slice ao 0 cap, .int .i64 k] w fun e w' => e = .returned (.int .i64 (k : Nat)) ∧ w' = w := by
  go_enter Tryz.func29, Tryz.ntmps29
  go_wp2
  go_loopw [1, 5] (fun a i wr => a = .int .i64 k ∧ i = .int .i64 0 ∧ wr = w) (fun _ _ _ => 0)
  case atStart => exact ⟨rfl, rfl, rfl⟩
  case round =>
    obtain ⟨rfl, rfl, rfl⟩ := hrel
    go_wp2
    go_ret
    exact ⟨rfl, rfl⟩

theorem heldBindS_gen (bs : List (Int × List Nd)) (n B : Nat) (ao : Option Addr) (cap k : Nat) (w : World) (HN : Hid (bs.length = n)) (ha : BAns w B ao (mB k bs)) (ht : total (tys bs) ≤ 8000000) (HMB : Hid (∀ b ∈ bs, b.2.length ≤ 1048576)) (hn : n ≤ 1048576) (hk : k ≤ 1000) (hk0 : 0 < k) :
    Calls Tryz.prog 29 #[.slice ao n cap, .int .i64 k] w fun e w' => e = .returned (.int .i64 (k + n + 5 * total (tys bs) : Nat)) ∧ Below w.heap.size w w' := by
  rcases ha with h | ⟨g, rs, rfl, h1, h2, hr⟩
  · have h0 : n = 0 := by have := mB_length k bs; rw [h] at this; exact HN.out.symm.trans this.symm
    subst h0
    have hb0 : bs = [] := List.eq_nil_of_length_eq_zero HN.out
    subst hb0
    exact (heldBindS_none ao cap k w).mono (by rintro e w' ⟨rfl, rfl⟩; exact ⟨rfl, Below.refl _ _⟩)
  · exact heldBindR_any bs n HN g rs cap k w hr ht HMB hn hk hk0

end Go.Proofs.YtoghngfkmhfimaaGreatDoor

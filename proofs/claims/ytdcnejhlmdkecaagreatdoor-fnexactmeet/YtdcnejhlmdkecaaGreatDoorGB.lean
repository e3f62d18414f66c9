import Derived.Test.YtdcnejhlmdkecaaGreatDoorGA
import Derived.Laws.BytesArg
import Derived.Deep.RegionWith
import Derived.Deep.OwnRows
namespace Go.Proofs.YtdcnejhlmdkecaaGreatDoor
open Go.RowKit

/-- The decimal digits, as the loop lays them. -/
def digs : Nat → Nat → ByteArray → ByteArray
  | 0, _, out => out
  | f + 1, q, out => if q = 0 then out else digs f (q / 10) (strOfNums [48 + (q : Int) % 10] ++ out)

def mtext (k : Nat) : ByteArray := ⟨#[109]⟩ ++ digs 20 k ⟨#[]⟩

theorem digs_zero (f : Nat) (out : ByteArray) : digs f 0 out = out := by
  cases f <;> simp [digs]

theorem conv_byte (w : World) (v : Int) : (convert 85 9 (.slice (some ⟨w.heap.size, 0, none⟩) 1 1)).run Tryz.prog (w.alloc (.cells #[.int .u8 v] 5)) = .ok (.string (strOfNums [v])) (w.alloc (.cells #[.int .u8 v] 5)) := by
  refine run_convert_bytes_arg (P := Tryz.prog) _ 85 5 Tryz.underlying85 Tryz.underlying5 w.heap.size 0 1 1 [v] rfl ?_ 9 Tryz.underlying9
  intro i hi
  have : i = 0 := by omega
  subst this
  simp

set_option maxHeartbeats 400000 in
theorem markText_any (k : Nat) (hk : k ≤ 1000000000) (h0 : 0 < k) (w : World) :
    Calls Tryz.prog 22 #[.int .i64 k] w fun e w' => e = .returned (.string (mtext k)) ∧ Below w.heap.size w w' := by
  have hcv := conv_byte
  have hss : ∀ v, (strOfNums [v]).size = 1 := fun v => strOfNums_size [v]
  go_enter Tryz.func22, Tryz.ntmps22
  go_wp2
  go_loopw [0, 3] (fun a b wr => ∃ (f q : Nat) (out : ByteArray), q ≤ 1000000000 ∧ q < 10 ^ f ∧ a = .int .i64 q ∧ b = .string out ∧ out.size + f ≤ 20 ∧ digs f q out = digs 20 k ⟨#[]⟩ ∧ Below w.heap.size w wr) (fun a _ _ => (intOf a).toNat)
  case atStart => exact ⟨20, k, _, hk, by omega, rfl, rfl, Nat.le_refl _, rfl, Below.refl _ _⟩
  case round =>
    obtain ⟨f, q, out, hq, hf, rfl, rfl, hsz, hd, hb⟩ := hrel
    have HF : Hid (q < 10 ^ f) := hf
    have HD : Hid (digs f q out = digs 20 k ⟨#[]⟩) := hd
    clear hf hd
    by_cases hq0 : 0 < q
    · have hfp : 0 < f := by
        rcases Nat.eq_zero_or_pos f with h | h
        · subst h; have := HF.out; simp at this; omega
        · exact h
      have HF2 : Hid (q / 10 < 10 ^ (f - 1)) := by
        have h1 := HF.out
        have e : 10 ^ f = 10 ^ (f - 1) * 10 := by rw [← Nat.pow_succ]; congr 1; omega
        rw [e] at h1
        show q / 10 < 10 ^ (f - 1)
        omega
      have HD2 : Hid (digs (f - 1) (q / 10) (strOfNums [48 + (q : Int) % 10] ++ out) = digs 20 k ⟨#[]⟩) := by
        have h1 := HD.out
        obtain ⟨f', rfl⟩ : ∃ f', f = f' + 1 := ⟨f - 1, by omega⟩
        rw [digs, if_neg (by omega)] at h1
        exact h1
      go_wp2
      go_roundw
      case rel => exact ⟨f - 1, q / 10, _, by omega, HF2.out, by go_num, rfl, by rw [ByteArray.size_append, hss]; omega, HD2.out, hb.alloc hb.size _⟩
      case measure => simp [intOf]; omega
    · have hqz : q = 0 := by omega
      subst hqz
      have HE : Hid (out = digs 20 k ⟨#[]⟩) := by have := HD.out; rw [digs_zero] at this; exact this
      have hsd : (ByteArray.mk #[109]).size = 1 := rfl
      go_wp2
      go_ret
      exact ⟨by rw [HE.out]; rfl, hb⟩

end Go.Proofs.YtdcnejhlmdkecaaGreatDoor

namespace Go.Proofs.YtdcnejhlmdkecaaGreatDoor
open Go.RowKit

/-- The node that bears the marks from j on. -/
def mk (j : Nat) : Nd := ⟨(j : Int), (j : Int) + 1, mtext (j + 2), (j : Int) + 1 + 1 + 1, (j : Int) + 1 + 1 + 1 + 1⟩

def marks (k n : Nat) : List Nd := (List.range n).map fun i => mk (k + 5 * i)

theorem marks_length (k n : Nat) : (marks k n).length = n := by simp [marks]

theorem marks_get (k n i : Nat) (h : i < (marks k n).length) : (marks k n)[i] = mk (k + 5 * i) := by simp [marks]

theorem mark_step (k : Nat) (ys : List Nd) (j : Nat) (h : j < ys.length) : (marks k j ++ ys.drop j).set j (mk (k + 5 * j)) = marks k (j + 1) ++ ys.drop (j + 1) := by
  rw [List.set_append_right _ _ (by rw [marks_length]; omega)]
  have e : j - (marks k j).length = 0 := by rw [marks_length]; omega
  rw [e, List.drop_eq_getElem_cons h, List.set_cons_zero]
  have e2 : marks k (j + 1) = marks k j ++ [mk (k + 5 * j)] := by simp [marks, List.range_succ]
  rw [e2, List.append_assoc]
  rfl

theorem markText_int (z : Int) (k : Nat) (hz : z = (k : Int)) (hk : k ≤ 1000000000) (h0 : 0 < k) (w : World) :
    Calls Tryz.prog 22 #[.int .i64 z] w fun e w' => e = .returned (.string (mtext k)) ∧ Below w.heap.size w w' := by
  subst hz
  exact markText_any k hk h0 w

set_option maxHeartbeats 1000000 in
theorem markNodeS_any (ys : List Nd) (n g cap k : Nat) (w : World) (HN : Hid (ys.length = n)) (hr : Row w g ys) (hn : n ≤ 1048577) (hk : k ≤ 100000000) (hk0 : 0 < k) :
    Calls Tryz.prog 9 #[.slice (some ⟨g, 0, none⟩) n cap, .int .i64 k] w fun e w' =>
      e = .returned (.int .i64 (k + 5 * n : Nat)) ∧ Row w' g (marks k n) ∧ But (· = g) w w' := by
  go_enter Tryz.func9, Tryz.ntmps9
  go_wp2
  go_loopw [1, 5] (fun a i wr => ∃ (j : Nat), j ≤ n ∧ i = .int .i64 j ∧ a = .int .i64 (k + 5 * j : Nat) ∧ Row wr g (marks k j ++ ys.drop j) ∧ But (· = g) w wr) (fun _ i _ => n - (intOf i).toNat)
  case atStart => exact ⟨0, Nat.zero_le _, rfl, rfl, hr, But.refl _ _⟩
  case round =>
    obtain ⟨j, hj, rfl, rfl, hrow, hb⟩ := hrel
    clear hr
    by_cases hlt : j < n
    · have hl : (marks k j ++ ys.drop j).length = n := by have := HN.out; simp [marks_length]; omega
      have hl5 : (flat (marks k j ++ ys.drop j)).length = n * 5 := by rw [flat_length, hl]
      have HL : Hid (j < ys.length) := by have := HN.out; show j < ys.length; omega
      obtain ⟨v0, c0⟩ := Own.has hrow (j * 5) (by rw [hl5]; omega)
      obtain ⟨v1, c1⟩ := Own.has hrow (j * 5 + 1) (by rw [hl5]; omega)
      have f0 := Own.frozen hrow (j * 5)
      have f1 := Own.frozen hrow (j * 5 + 1)
      obtain ⟨q, hq⟩ : ∃ q : Nat, k + 5 * j = q := ⟨_, rfl⟩
      have HQ : Hid (k + 5 * j = q) := hq
      have hq1 : q ≤ 200000000 := by omega
      rw [hq]
      clear hl hq
      have O2 := (Own.set hrow (j * 5) (.int .i64 (q : Int)) (by rw [hl5]; omega)).set (j * 5 + 1) (.int .i64 ((q : Int) + 1)) (by simp only [List.length_set]; rw [hl5]; omega)
      have B2 := (hb.setCell (p := ⟨g, j * 5, none⟩) rfl (.int .i64 (q : Int))).setCell (p := ⟨g, j * 5 + 1, none⟩) rfl (.int .i64 ((q : Int) + 1))
      have HF : Hid (flat ((marks k j ++ ys.drop j).set j (mk q)) = flat (marks k (j + 1) ++ ys.drop (j + 1))) := by
        have := mark_step k ys j HL.out
        rw [HQ.out] at this
        exact congrArg flat this
      have HLL : Hid ((marks k j ++ ys.drop j).length = n) := by have := HN.out; show (marks k j ++ ys.drop j).length = n; simp [marks_length]; omega
      clear hb hrow hl5
      go_wp2_with fail
      refine (markText_int ((q : Int) + 1 + 1) (q + 2) (by omega) (by omega) (by omega) _).mono ?_
      rintro e w1 ⟨rfl, hb1⟩
      have O3 := O2.below hb1
      have B3 := B2.trans (But.ofBelow hb1)
      have hl5 : (flat (marks k j ++ ys.drop j)).length = n * 5 := by rw [flat_length, HLL.out]
      obtain ⟨v2, c2⟩ := O3.has (j * 5 + 2) (by simp only [List.length_set]; rw [hl5]; omega)
      obtain ⟨v3, c3⟩ := O3.has (j * 5 + 3) (by simp only [List.length_set]; rw [hl5]; omega)
      obtain ⟨v4, c4⟩ := O3.has (j * 5 + 4) (by simp only [List.length_set]; rw [hl5]; omega)
      have f2 := O3.frozen (j * 5 + 2)
      have f3 := O3.frozen (j * 5 + 3)
      have f4 := O3.frozen (j * 5 + 4)
      have O4 := ((O3.set (j * 5 + 2) (.string (mtext (q + 2))) (by simp only [List.length_set]; rw [hl5]; omega)).set (j * 5 + 3) (.int .i64 ((q : Int) + 1 + 1 + 1)) (by simp only [List.length_set]; rw [hl5]; omega)).set (j * 5 + 4) (.int .i64 ((q : Int) + 1 + 1 + 1 + 1)) (by simp only [List.length_set]; rw [hl5]; omega)
      have HS := flat_set (marks k j ++ ys.drop j) j (by rw [HLL.out]; exact hlt) (mk q)
      have R5 := O4.row (HS.trans HF.out)
      have B4 := ((B3.setCell (p := ⟨g, j * 5 + 2, none⟩) rfl (.string (mtext (q + 2)))).setCell (p := ⟨g, j * 5 + 3, none⟩) rfl (.int .i64 ((q : Int) + 1 + 1 + 1))).setCell (p := ⟨g, j * 5 + 4, none⟩) rfl (.int .i64 ((q : Int) + 1 + 1 + 1 + 1))
      clear O2 B2 O3 B3 O4 HS c0 c1 f0 f1 hb1 hl5
      go_wp2
      go_roundw
      case rel => exact ⟨j + 1, by omega, by go_num, by have := HQ.out; congr 1; omega, R5, B4⟩
      case measure => simp [intOf]; omega
    · have hje : j = n := by omega
      subst hje
      have R5 : Row wr g (marks k j) := by
        have e : ys.drop j = [] := List.drop_eq_nil_of_le (by have := HN.out; omega)
        rw [e, List.append_nil] at hrow
        exact hrow
      clear hrow
      go_wp2
      go_ret
      exact ⟨rfl, R5, hb⟩

end Go.Proofs.YtdcnejhlmdkecaaGreatDoor

namespace Go.Proofs.YtdcnejhlmdkecaaGreatDoor
open Go.RowKit

set_option maxHeartbeats 1000000 in
theorem heldNodeS_any (n g cap k : Nat) (w : World) (hr : Row w g (marks k n)) (hn : n ≤ 1048577) (hk : k ≤ 100000000) (hk0 : 0 < k) :
    Calls Tryz.prog 10 #[.slice (some ⟨g, 0, none⟩) n cap, .int .i64 k] w fun e w' =>
      e = .returned (.int .i64 (k + 5 * n : Nat)) ∧ Below w.heap.size w w' := by
  go_enter Tryz.func10, Tryz.ntmps10
  go_wp2
  go_loopw [1, 5] (fun a i wr => ∃ (j : Nat), j ≤ n ∧ i = .int .i64 j ∧ a = .int .i64 (k + 5 * j : Nat) ∧ Below w.heap.size w wr) (fun _ i _ => n - (intOf i).toNat)
  case atStart => exact ⟨0, Nat.zero_le _, rfl, rfl, Below.refl _ _⟩
  case round =>
    obtain ⟨j, hj, rfl, rfl, hb⟩ := hrel
    by_cases hlt : j < n
    · have hrow := hr.below hb
      have hl : j < (marks k n).length := by rw [marks_length]; exact hlt
      obtain ⟨q, hq⟩ : ∃ q : Nat, k + 5 * j = q := ⟨_, rfl⟩
      have HQ : Hid (k + 5 * j = q) := hq
      have hq1 : q ≤ 200000000 := by omega
      obtain ⟨c0, c1, c2, c3, c4⟩ := hrow.node j hl
      rw [marks_get, hq] at c0 c1 c2 c3 c4
      simp only [mk] at c0 c1 c2 c3 c4
      have hlb : g < wr.heap.size := hrow.lt
      rw [hq]
      clear hl hq hr hrow
      go_wp2_with fail
      go_region_with (go_at_call 22; refine (markText_int ((q : Int) + 1 + 1) (q + 2) (by omega) (by omega) (by omega) _).mono ?_; rintro e w1 ⟨rfl, hb1⟩; have hc1 := bcell_drew hb1)
      all_goals
        have hbb := Below.step hb (undrew hb1)
        clear hb hb1
        go_wp2
        go_roundw
        case rel => exact ⟨j + 1, by omega, by go_num, by have := HQ.out; congr 1; omega, hbb⟩
        case measure => simp [intOf]; omega
    · have hje : j = n := by omega
      subst hje
      clear hr
      go_wp2
      go_ret
      exact ⟨rfl, hb⟩

end Go.Proofs.YtdcnejhlmdkecaaGreatDoor

namespace Go.Proofs.YtdcnejhlmdkecaaGreatDoor
open Go.RowKit

/-- Cells two by two. -/
def cells2 (ps : List (Value × Value)) : List Value := ps.flatMap fun p => [p.1, p.2]

theorem cells2_length (ps : List (Value × Value)) : (cells2 ps).length = ps.length * 2 := by
  induction ps with
  | nil => rfl
  | cons m ms ih => simp only [cells2, List.flatMap_cons, List.length_append, List.length_cons, List.length_nil] at *; omega

theorem cells2_append (a b : List (Value × Value)) : cells2 (a ++ b) = cells2 a ++ cells2 b := by simp [cells2]

theorem cells2_get (ps : List (Value × Value)) (i : Nat) (h : i < ps.length) : (cells2 ps)[i * 2]? = some ps[i].1 ∧ (cells2 ps)[i * 2 + 1]? = some ps[i].2 := by
  induction ps generalizing i with
  | nil => simp at h
  | cons m ms ih =>
    cases i with
    | zero => simp [cells2]
    | succ i =>
      have e1 : (i + 1) * 2 = i * 2 + 1 + 1 := by omega
      have h9 := ih i (by simpa using h)
      rw [e1]
      simpa [cells2] using h9

theorem cells2_set (ps : List (Value × Value)) (j : Nat) (p : Value × Value) : ((cells2 ps).set (j * 2) p.1).set (j * 2 + 1) p.2 = cells2 (ps.set j p) := by
  induction ps generalizing j with
  | nil => simp [cells2]
  | cons m ms ih =>
    cases j with
    | zero => simp [cells2]
    | succ j =>
      have e1 : (j + 1) * 2 = j * 2 + 1 + 1 := by omega
      have h9 := ih j
      rw [e1]
      simp only [cells2, List.flatMap_cons, List.cons_append, List.nil_append, List.set_cons_succ] at h9 ⊢
      rw [h9]

/-- A slice of Binds. -/
def Binds (w : World) (ao : Option Addr) (bs : List (Int × List Nd)) : Prop :=
  ∀ i (h : i < bs.length), ∃ b o ai ci, ao = some ⟨b, o, none⟩ ∧ w.cell? ⟨b, o + i * 2, none⟩ = some (.int .i64 bs[i].1) ∧ w.cell? ⟨b, o + i * 2 + 1, none⟩ = some (.slice ai bs[i].2.length ci) ∧ Nodes w ai bs[i].2

theorem Binds.below {w w' : World} {ao : Option Addr} {bs : List (Int × List Nd)} (h : Binds w ao bs) (hb : Below w.heap.size w w') : Binds w' ao bs := by
  intro i hi
  obtain ⟨b, o, ai, ci, e, h0, hc, hn⟩ := h i hi
  exact ⟨b, o, ai, ci, e, (hb.cell (p := ⟨b, o + i * 2, none⟩) (lt_of_cell h0)).trans h0, (hb.cell (p := ⟨b, o + i * 2 + 1, none⟩) (lt_of_cell hc)).trans hc, hn.below hb⟩

/-- The types of Binds. -/
def tys (bs : List (Int × List Nd)) : List (List Nd) := bs.map Prod.snd

end Go.Proofs.YtdcnejhlmdkecaaGreatDoor

namespace Go.Proofs.YtdcnejhlmdkecaaGreatDoor
open Go.RowKit

theorem tys_get (bs : List (Int × List Nd)) (k : Nat) (h : k < bs.length) : (tys bs)[k]'(by simpa [tys] using h) = bs[k].2 := by simp [tys]

theorem Tryz.infoB : (Tryz.prog.info? 61).map (fun i => (i.zero, i.size, i.bytes)) = some (some (.agg #[.int .i64 0, .slice none 0 0]), 2, 32) := by kernel_rfl

/-- The Binds that lead to the rows gs. -/
def leadP (gs : List Nat) (bs : List (Int × List Nd)) : List (Value × Value) := List.zipWith (fun h b => (.int .i64 b.1, .slice (some ⟨h, 0, none⟩) b.2.length b.2.length)) gs bs

/-- Block g is a row of Binds of the call's own. -/
def OwnB (w : World) (g : Nat) (ps : List (Value × Value)) : Prop := OwnT 61 w g (cells2 ps)

theorem OwnB.ne {w : World} {g h : Nat} {ps : List (Value × Value)} {ds : List Value} (a : OwnB w g ps) (b : Own w h ds) : h ≠ g := by
  rintro rfl
  obtain ⟨cur, _, hg, _⟩ := a
  obtain ⟨cur', _, hg', _⟩ := b
  rw [hg] at hg'
  simp at hg'

theorem OwnB.at {w : World} {g : Nat} {ps : List (Value × Value)} (h : OwnB w g ps) (i : Nat) (hi : i < ps.length) : w.cell? ⟨g, i * 2, none⟩ = some ps[i].1 ∧ w.cell? ⟨g, i * 2 + 1, none⟩ = some ps[i].2 := by
  have hl := cells2_length ps
  obtain ⟨h1, h2⟩ := cells2_get ps i hi
  exact ⟨(OwnT.at h _ (by omega)).trans h1, (OwnT.at h _ (by omega)).trans h2⟩

theorem OwnB.put {w : World} {g : Nat} {ps : List (Value × Value)} (h : OwnB w g ps) (j : Nat) (hj : j < ps.length) (a b : Value) : OwnB ((w.setCell ⟨g, j * 2, none⟩ a).setCell ⟨g, j * 2 + 1, none⟩ b) g (ps.set j (a, b)) := by
  have hl := cells2_length ps
  have h9 := OwnT.set (OwnT.set h (j * 2) a (by omega)) (j * 2 + 1) b (by simp; omega)
  rw [cells2_set ps j (a, b)] at h9
  exact h9

/-- All of it: the row g of Binds, the rows gs of nodes, no two of them one. -/
structure TwoB (w : World) (g : Nat) (gs : List Nat) (bs : List (Int × List Nd)) : Prop where
  lead : OwnB w g (leadP gs bs)
  rows : RowsAt w gs (tys bs)
  nodup : gs.Nodup

theorem TwoB.below {w w' : World} {g : Nat} {gs : List Nat} {bs : List (Int × List Nd)} (h : TwoB w g gs bs) (hb : Below w.heap.size w w') : TwoB w' g gs bs :=
  ⟨OwnT.below h.lead hb, h.rows.below hb, h.nodup⟩

theorem TwoB.get {w : World} {g : Nat} {gs : List Nat} {bs : List (Int × List Nd)} (h : TwoB w g gs bs) (i : Nat) (hi : i < bs.length) (hi' : i < gs.length) :
    w.cell? ⟨g, i * 2, none⟩ = some (.int .i64 bs[i].1) ∧ w.cell? ⟨g, i * 2 + 1, none⟩ = some (.slice (some ⟨gs[i], 0, none⟩) bs[i].2.length bs[i].2.length) ∧ Row w gs[i] bs[i].2 := by
  obtain ⟨h1, h2⟩ := h.lead.at i (by simp [leadP]; omega)
  have hr := h.rows.2 i hi' (by simpa [tys] using hi)
  rw [tys_get bs i hi] at hr
  refine ⟨?_, ?_, hr⟩
  · rw [h1]; simp [leadP]
  · rw [h2]; simp [leadP]

theorem TwoB.binds {w : World} {g : Nat} {gs : List Nat} {bs : List (Int × List Nd)} (h : TwoB w g gs bs) : Binds w (some ⟨g, 0, none⟩) bs := by
  intro i hi
  have hi' : i < gs.length := by have h9 := h.rows.1; simp [tys] at h9; omega
  obtain ⟨h0, hc, hr⟩ := h.get i hi hi'
  exact ⟨g, 0, _, _, rfl, by rw [Nat.zero_add]; exact h0, by rw [Nat.zero_add]; exact hc, hr.nodes⟩

end Go.Proofs.YtdcnejhlmdkecaaGreatDoor

namespace Go.Proofs.YtdcnejhlmdkecaaGreatDoor
open Go.RowKit

end Go.Proofs.YtdcnejhlmdkecaaGreatDoor

namespace Go.Proofs.YtdcnejhlmdkecaaGreatDoor
open Go.RowKit

/-- The Binds that lead to rows with capacities. -/
def leadR (rs : List (Nat × Nat)) (bs : List (Int × List Nd)) : List (Value × Value) := List.zipWith (fun r b => (.int .i64 b.1, .slice (some ⟨r.1, 0, none⟩) b.2.length r.2)) rs bs

/-- A row of Binds, the rows of nodes to which they lead, no two of them one. -/
structure TwoR (w : World) (g : Nat) (rs : List (Nat × Nat)) (bs : List (Int × List Nd)) : Prop where
  len : rs.length = bs.length
  lead : OwnB w g (leadR rs bs)
  rows : ∀ i (h : i < rs.length) (h' : i < bs.length), Row w rs[i].1 bs[i].2
  nodup : (rs.map Prod.fst).Nodup

theorem TwoR.below {w w' : World} {g : Nat} {rs : List (Nat × Nat)} {bs : List (Int × List Nd)} (h : TwoR w g rs bs) (hb : Below w.heap.size w w') : TwoR w' g rs bs :=
  ⟨h.len, OwnT.below h.lead hb, fun i hi hi' => (h.rows i hi hi').below hb, h.nodup⟩

theorem TwoR.but {S : Nat → Prop} {w w' : World} {g : Nat} {rs : List (Nat × Nat)} {bs : List (Int × List Nd)} (h : TwoR w g rs bs) (hb : But S w w') (hg : ¬ S g) (hr : ∀ r ∈ rs, ¬ S r.1) : TwoR w' g rs bs :=
  ⟨h.len, OwnT.but h.lead hb hg, fun i hi hi' => hb.row (h.rows i hi hi') (hr _ (List.getElem_mem hi)), h.nodup⟩

theorem TwoR.lt {w : World} {g : Nat} {rs : List (Nat × Nat)} {bs : List (Int × List Nd)} (h : TwoR w g rs bs) : g < w.heap.size := OwnT.lt h.lead

theorem TwoR.mem_lt {w : World} {g : Nat} {rs : List (Nat × Nat)} {bs : List (Int × List Nd)} (h : TwoR w g rs bs) : ∀ r ∈ rs, r.1 < w.heap.size ∧ r.1 ≠ g := by
  intro r hr
  obtain ⟨i, hi, rfl⟩ := List.getElem_of_mem hr
  have hrow := h.rows i hi (by have := h.len; omega)
  exact ⟨hrow.lt, OwnB.ne h.lead hrow⟩

theorem leadR_get (rs : List (Nat × Nat)) (bs : List (Int × List Nd)) (i : Nat) (hr : i < rs.length) (hb : i < bs.length) : (leadR rs bs)[i]'(by simp [leadR]; omega) = (.int .i64 bs[i].1, .slice (some ⟨rs[i].1, 0, none⟩) bs[i].2.length rs[i].2) := by simp [leadR]

theorem leadR_length (rs : List (Nat × Nat)) (bs : List (Int × List Nd)) (h : rs.length = bs.length) : (leadR rs bs).length = bs.length := by simp [leadR, h]

theorem TwoR.get {w : World} {g : Nat} {rs : List (Nat × Nat)} {bs : List (Int × List Nd)} (h : TwoR w g rs bs) (i : Nat) (hi : i < bs.length) (hi' : i < rs.length) :
    w.cell? ⟨g, i * 2, none⟩ = some (.int .i64 bs[i].1) ∧ w.cell? ⟨g, i * 2 + 1, none⟩ = some (.slice (some ⟨rs[i].1, 0, none⟩) bs[i].2.length rs[i].2) ∧ Row w rs[i].1 bs[i].2 := by
  obtain ⟨h1, h2⟩ := h.lead.at i (by rw [leadR_length rs bs h.len]; exact hi)
  rw [leadR_get rs bs i hi' hi] at h1 h2
  exact ⟨h1, h2, h.rows i hi' hi⟩

theorem TwoR.binds {w : World} {g : Nat} {rs : List (Nat × Nat)} {bs : List (Int × List Nd)} (h : TwoR w g rs bs) : Binds w (some ⟨g, 0, none⟩) bs := by
  intro i hi
  obtain ⟨h0, hc, hr⟩ := h.get i hi (by have := h.len; omega)
  exact ⟨g, 0, _, _, rfl, by rw [Nat.zero_add]; exact h0, by rw [Nat.zero_add]; exact hc, hr.nodes⟩

/-- What stands there when Binds have been marked from k on. -/
def mB : Nat → List (Int × List Nd) → List (Int × List Nd)
  | _, [] => []
  | k, b :: bs => ((k : Int), marks (k + 1) b.2.length) :: mB (k + 1 + 5 * b.2.length) bs

/-- An answer: a slice of Binds that is empty, or rows of the call's own, from block B on. -/
def BAns (w : World) (B : Nat) (ao : Option Addr) (bs : List (Int × List Nd)) : Prop := bs = [] ∨ ∃ g rs, ao = some ⟨g, 0, none⟩ ∧ B ≤ g ∧ (∀ r ∈ rs, B ≤ r.1) ∧ TwoR w g rs bs

theorem BAns.binds {w : World} {B : Nat} {ao : Option Addr} {bs : List (Int × List Nd)} (h : BAns w B ao bs) : Binds w ao bs := by
  rcases h with rfl | ⟨g, rs, rfl, _, _, hr⟩
  · exact fun i hi => by simp at hi
  · exact hr.binds

theorem BAns.below {w w' : World} {B : Nat} {ao : Option Addr} {bs : List (Int × List Nd)} (h : BAns w B ao bs) (hb : Below w.heap.size w w') : BAns w' B ao bs := by
  rcases h with rfl | ⟨g, rs, rfl, h1, h2, hr⟩
  · exact Or.inl rfl
  · exact Or.inr ⟨g, rs, rfl, h1, h2, hr.below hb⟩

theorem BAns.but {S : Nat → Prop} {w w' : World} {B : Nat} {ao : Option Addr} {bs : List (Int × List Nd)} (h : BAns w B ao bs) (hb : But S w w') (hS : ∀ q, B ≤ q → ¬ S q) : BAns w' B ao bs := by
  rcases h with rfl | ⟨g, rs, rfl, h1, h2, hr⟩
  · exact Or.inl rfl
  · exact Or.inr ⟨g, rs, rfl, h1, h2, hr.but hb (hS g h1) (fun r hr => hS r.1 (h2 r hr))⟩

end Go.Proofs.YtdcnejhlmdkecaaGreatDoor

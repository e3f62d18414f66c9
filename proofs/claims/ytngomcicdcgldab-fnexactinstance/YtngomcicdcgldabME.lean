import Derived.Test.YtngomcicdcgldabLeaf
import Derived.Test.YtngomcicdcgldabOwn
import Derived.Laws.BytesArg
import Derived.Deep.RegionWith
import Derived.Test.YtngomcicdcgldabBut
import Derived.Test.YtngomcicdcgldabSS
import Derived.Test.YtngomcicdcgldabApp
import Derived.Test.YtngomcicdcgldabEq
namespace Go.Proofs.Ytngomcicdcgldab
open Go.RowKit

/-- The decimal digits, as the loop lays them. -/
def digs : Nat → Nat → ByteArray → ByteArray
  | 0, _, out => out
  | f + 1, q, out => if q = 0 then out else digs f (q / 10) (strOfNums [48 + (q : Int) % 10] ++ out)

def mtext (k : Nat) : ByteArray := ⟨#[109]⟩ ++ digs 20 k ⟨#[]⟩

theorem digs_zero (f : Nat) (out : ByteArray) : digs f 0 out = out := by
  cases f <;> simp [digs]

theorem conv_byte (w : World) (v : Int) : (convert 109 9 (.slice (some ⟨w.heap.size, 0, none⟩) 1 1)).run Try.prog (w.alloc (.cells #[.int .u8 v] 5)) = .ok (.string (strOfNums [v])) (w.alloc (.cells #[.int .u8 v] 5)) := by
  refine run_convert_bytes_arg (P := Try.prog) _ 109 5 Try.underlying109 Try.underlying5 w.heap.size 0 1 1 [v] rfl ?_ 9 Try.underlying9
  intro i hi
  have : i = 0 := by omega
  subst this
  simp

set_option maxHeartbeats 400000 in
theorem markText_any (k : Nat) (hk : k ≤ 1000000000) (h0 : 0 < k) (w : World) :
    Calls Try.prog 31 #[.int .i64 k] w fun e w' => e = .returned (.string (mtext k)) ∧ Below w.heap.size w w' := by
  have hcv := conv_byte
  have hss : ∀ v, (strOfNums [v]).size = 1 := fun v => strOfNums_size [v]
  go_enter Try.func31, Try.ntmps31
  go_wp2
  go_loopw [0, 3] (fun a b wr => ∃ (f q : Nat) (out : ByteArray), q ≤ 1000000000 ∧ q < 10 ^ f ∧ a = .int .i64 q ∧ b = .string out ∧ out.size + f ≤ 20 ∧ digs f q out = digs 20 k ⟨#[]⟩ ∧ Below w.heap.size w wr) (fun a _ _ => (intOf a).toNat)
  case atStart => exact ⟨20, k, _, hk, by omega, rfl, rfl, Nat.le_refl _, rfl, Below.refl _ _⟩
  case round =>
    obtain ⟨f, q, out, hq, hf, rfl, rfl, hsz, hd, hb⟩ := hrel
    have HF : Hid (q < 10 ^ f) := hf
    have HD : Hid (digs f q out = digs 20 k ⟨#[]⟩) := hd
    clear hf hd
    by_cases hq0 : 0 < q
    · have hfp : 0 < f := by
        rcases Nat.eq_zero_or_pos f with h | h
        · subst h; have := HF.out; simp at this; omega
        · exact h
      have HF2 : Hid (q / 10 < 10 ^ (f - 1)) := by
        have h1 := HF.out
        have e : 10 ^ f = 10 ^ (f - 1) * 10 := by rw [← Nat.pow_succ]; congr 1; omega
        rw [e] at h1
        show q / 10 < 10 ^ (f - 1)
        omega
      have HD2 : Hid (digs (f - 1) (q / 10) (strOfNums [48 + (q : Int) % 10] ++ out) = digs 20 k ⟨#[]⟩) := by
        have h1 := HD.out
        obtain ⟨f', rfl⟩ : ∃ f', f = f' + 1 := ⟨f - 1, by omega⟩
        rw [digs, if_neg (by omega)] at h1
        exact h1
      go_wp2
      go_roundw
      case rel => exact ⟨f - 1, q / 10, _, by omega, HF2.out, by go_num, rfl, by rw [ByteArray.size_append, hss]; omega, HD2.out, hb.alloc hb.size _⟩
      case measure => simp [intOf]; omega
    · have hqz : q = 0 := by omega
      subst hqz
      have HE : Hid (out = digs 20 k ⟨#[]⟩) := by have := HD.out; rw [digs_zero] at this; exact this
      have hsd : (ByteArray.mk #[109]).size = 1 := rfl
      go_wp2
      go_ret
      exact ⟨by rw [HE.out]; rfl, hb⟩

end Go.Proofs.Ytngomcicdcgldab

namespace Go.Proofs.Ytngomcicdcgldab
open Go.RowKit

/-- The node that bears the marks from j on. -/
def mk (j : Nat) : Nd := ⟨(j : Int), (j : Int) + 1, mtext (j + 2), (j : Int) + 1 + 1 + 1, (j : Int) + 1 + 1 + 1 + 1⟩

def marks (k n : Nat) : List Nd := (List.range n).map fun i => mk (k + 5 * i)

theorem marks_length (k n : Nat) : (marks k n).length = n := by simp [marks]

theorem marks_get (k n i : Nat) (h : i < (marks k n).length) : (marks k n)[i] = mk (k + 5 * i) := by simp [marks]

theorem mark_step (k : Nat) (ys : List Nd) (j : Nat) (h : j < ys.length) : (marks k j ++ ys.drop j).set j (mk (k + 5 * j)) = marks k (j + 1) ++ ys.drop (j + 1) := by
  rw [List.set_append_right _ _ (by rw [marks_length]; omega)]
  have e : j - (marks k j).length = 0 := by rw [marks_length]; omega
  rw [e, List.drop_eq_getElem_cons h, List.set_cons_zero]
  have e2 : marks k (j + 1) = marks k j ++ [mk (k + 5 * j)] := by simp [marks, List.range_succ]
  rw [e2, List.append_assoc]
  rfl

theorem markText_int (z : Int) (k : Nat) (hz : z = (k : Int)) (hk : k ≤ 1000000000) (h0 : 0 < k) (w : World) :
    Calls Try.prog 31 #[.int .i64 z] w fun e w' => e = .returned (.string (mtext k)) ∧ Below w.heap.size w w' := by
  subst hz
  exact markText_any k hk h0 w

set_option maxHeartbeats 1000000 in
theorem markNodeS_any (ys : List Nd) (n g cap k : Nat) (w : World) (HN : Hid (ys.length = n)) (hr : Row w g ys) (hn : n ≤ 1048577) (hk : k ≤ 100000000) (hk0 : 0 < k) :
    Calls Try.prog 11 #[.slice (some ⟨g, 0, none⟩) n cap, .int .i64 k] w fun e w' =>
      e = .returned (.int .i64 (k + 5 * n : Nat)) ∧ Row w' g (marks k n) ∧ But (· = g) w w' := by
  go_enter Try.func11, Try.ntmps11
  go_wp2
  go_loopw [1, 5] (fun a i wr => ∃ (j : Nat), j ≤ n ∧ i = .int .i64 j ∧ a = .int .i64 (k + 5 * j : Nat) ∧ Row wr g (marks k j ++ ys.drop j) ∧ But (· = g) w wr) (fun _ i _ => n - (intOf i).toNat)
  case atStart => exact ⟨0, Nat.zero_le _, rfl, rfl, hr, But.refl _ _⟩
  case round =>
    obtain ⟨j, hj, rfl, rfl, hrow, hb⟩ := hrel
    clear hr
    by_cases hlt : j < n
    · have hl : (marks k j ++ ys.drop j).length = n := by have := HN.out; simp [marks_length]; omega
      have hl5 : (flat (marks k j ++ ys.drop j)).length = n * 5 := by rw [flat_length, hl]
      have HL : Hid (j < ys.length) := by have := HN.out; show j < ys.length; omega
      obtain ⟨v0, c0⟩ := Own.has hrow (j * 5) (by rw [hl5]; omega)
      obtain ⟨v1, c1⟩ := Own.has hrow (j * 5 + 1) (by rw [hl5]; omega)
      have f0 := Own.frozen hrow (j * 5)
      have f1 := Own.frozen hrow (j * 5 + 1)
      obtain ⟨q, hq⟩ : ∃ q : Nat, k + 5 * j = q := ⟨_, rfl⟩
      have HQ : Hid (k + 5 * j = q) := hq
      have hq1 : q ≤ 200000000 := by omega
      rw [hq]
      clear hl hq
      have O2 := (Own.set hrow (j * 5) (.int .i64 (q : Int)) (by rw [hl5]; omega)).set (j * 5 + 1) (.int .i64 ((q : Int) + 1)) (by simp only [List.length_set]; rw [hl5]; omega)
      have B2 := (hb.setCell (p := ⟨g, j * 5, none⟩) rfl (.int .i64 (q : Int))).setCell (p := ⟨g, j * 5 + 1, none⟩) rfl (.int .i64 ((q : Int) + 1))
      have HF : Hid (flat ((marks k j ++ ys.drop j).set j (mk q)) = flat (marks k (j + 1) ++ ys.drop (j + 1))) := by
        have := mark_step k ys j HL.out
        rw [HQ.out] at this
        exact congrArg flat this
      have HLL : Hid ((marks k j ++ ys.drop j).length = n) := by have := HN.out; show (marks k j ++ ys.drop j).length = n; simp [marks_length]; omega
      clear hb hrow hl5
      go_wp2_with fail
      refine (markText_int ((q : Int) + 1 + 1) (q + 2) (by omega) (by omega) (by omega) _).mono ?_
      rintro e w1 ⟨rfl, hb1⟩
      have O3 := O2.below hb1
      have B3 := B2.trans (But.ofBelow hb1)
      have hl5 : (flat (marks k j ++ ys.drop j)).length = n * 5 := by rw [flat_length, HLL.out]
      obtain ⟨v2, c2⟩ := O3.has (j * 5 + 2) (by simp only [List.length_set]; rw [hl5]; omega)
      obtain ⟨v3, c3⟩ := O3.has (j * 5 + 3) (by simp only [List.length_set]; rw [hl5]; omega)
      obtain ⟨v4, c4⟩ := O3.has (j * 5 + 4) (by simp only [List.length_set]; rw [hl5]; omega)
      have f2 := O3.frozen (j * 5 + 2)
      have f3 := O3.frozen (j * 5 + 3)
      have f4 := O3.frozen (j * 5 + 4)
      have O4 := ((O3.set (j * 5 + 2) (.string (mtext (q + 2))) (by simp only [List.length_set]; rw [hl5]; omega)).set (j * 5 + 3) (.int .i64 ((q : Int) + 1 + 1 + 1)) (by simp only [List.length_set]; rw [hl5]; omega)).set (j * 5 + 4) (.int .i64 ((q : Int) + 1 + 1 + 1 + 1)) (by simp only [List.length_set]; rw [hl5]; omega)
      have HS := flat_set (marks k j ++ ys.drop j) j (by rw [HLL.out]; exact hlt) (mk q)
      have R5 := O4.row (HS.trans HF.out)
      have B4 := ((B3.setCell (p := ⟨g, j * 5 + 2, none⟩) rfl (.string (mtext (q + 2)))).setCell (p := ⟨g, j * 5 + 3, none⟩) rfl (.int .i64 ((q : Int) + 1 + 1 + 1))).setCell (p := ⟨g, j * 5 + 4, none⟩) rfl (.int .i64 ((q : Int) + 1 + 1 + 1 + 1))
      clear O2 B2 O3 B3 O4 HS c0 c1 f0 f1 hb1 hl5
      go_wp2
      go_roundw
      case rel => exact ⟨j + 1, by omega, by go_num, by have := HQ.out; congr 1; omega, R5, B4⟩
      case measure => simp [intOf]; omega
    · have hje : j = n := by omega
      subst hje
      have R5 : Row wr g (marks k j) := by
        have e : ys.drop j = [] := List.drop_eq_nil_of_le (by have := HN.out; omega)
        rw [e, List.append_nil] at hrow
        exact hrow
      clear hrow
      go_wp2
      go_ret
      exact ⟨rfl, R5, hb⟩

end Go.Proofs.Ytngomcicdcgldab

namespace Go.Proofs.Ytngomcicdcgldab
open Go.RowKit

set_option maxHeartbeats 1000000 in
theorem heldNodeS_any (n g cap k : Nat) (w : World) (hr : Row w g (marks k n)) (hn : n ≤ 1048577) (hk : k ≤ 100000000) (hk0 : 0 < k) :
    Calls Try.prog 32 #[.slice (some ⟨g, 0, none⟩) n cap, .int .i64 k] w fun e w' =>
      e = .returned (.int .i64 (k + 5 * n : Nat)) ∧ Below w.heap.size w w' := by
  go_enter Try.func32, Try.ntmps32
  go_wp2
  go_loopw [1, 5] (fun a i wr => ∃ (j : Nat), j ≤ n ∧ i = .int .i64 j ∧ a = .int .i64 (k + 5 * j : Nat) ∧ Below w.heap.size w wr) (fun _ i _ => n - (intOf i).toNat)
  case atStart => exact ⟨0, Nat.zero_le _, rfl, rfl, Below.refl _ _⟩
  case round =>
    obtain ⟨j, hj, rfl, rfl, hb⟩ := hrel
    by_cases hlt : j < n
    · have hrow := hr.below hb
      have hl : j < (marks k n).length := by rw [marks_length]; exact hlt
      obtain ⟨q, hq⟩ : ∃ q : Nat, k + 5 * j = q := ⟨_, rfl⟩
      have HQ : Hid (k + 5 * j = q) := hq
      have hq1 : q ≤ 200000000 := by omega
      obtain ⟨c0, c1, c2, c3, c4⟩ := hrow.node j hl
      rw [marks_get, hq] at c0 c1 c2 c3 c4
      simp only [mk] at c0 c1 c2 c3 c4
      have hlb : g < wr.heap.size := hrow.lt
      rw [hq]
      clear hl hq hr hrow
      go_wp2_with fail
      go_region_with (go_at_call 31; refine (markText_int ((q : Int) + 1 + 1) (q + 2) (by omega) (by omega) (by omega) _).mono ?_; rintro e w1 ⟨rfl, hb1⟩; have hc1 := bcell_drew hb1)
      all_goals
        have hbb := Below.step hb (undrew hb1)
        clear hb hb1
        go_wp2
        go_roundw
        case rel => exact ⟨j + 1, by omega, by go_num, by have := HQ.out; congr 1; omega, hbb⟩
        case measure => simp [intOf]; omega
    · have hje : j = n := by omega
      subst hje
      clear hr
      go_wp2
      go_ret
      exact ⟨rfl, hb⟩

end Go.Proofs.Ytngomcicdcgldab

namespace Go.Proofs.Ytngomcicdcgldab
open Go.RowKit

/-- The slices that lead to rows of nodes, each with its block and its capacity. -/
def leadsC (ps : List (Nat × Nat)) (kss : List (List Nd)) : List Value := List.zipWith (fun p ks => .slice (some ⟨p.1, 0, none⟩) ks.length p.2) ps kss

theorem leadsC_length {ps : List (Nat × Nat)} {kss : List (List Nd)} (h : ps.length = kss.length) : (leadsC ps kss).length = kss.length := by
  simp [leadsC, h]

theorem leadsC_get (ps : List (Nat × Nat)) (kss : List (List Nd)) (i : Nat) (h : i < ps.length) (h' : i < kss.length) : (leadsC ps kss)[i]? = some (.slice (some ⟨ps[i].1, 0, none⟩) kss[i].length ps[i].2) := by
  simp [leadsC, List.getElem?_zipWith, List.getElem?_eq_getElem h, List.getElem?_eq_getElem h']

theorem leadsC_snoc (ps : List (Nat × Nat)) (kss : List (List Nd)) (p : Nat × Nat) (ks : List Nd) (h : ps.length = kss.length) : leadsC (ps ++ [p]) (kss ++ [ks]) = leadsC ps kss ++ [.slice (some ⟨p.1, 0, none⟩) ks.length p.2] := by
  unfold leadsC
  rw [List.zipWith_append h]
  rfl

/-- A row of slices of the call's own, perhaps with room behind. -/
def OwnR (w : World) (g : Nat) (cs : List Value) : Prop := ∃ cur rest, w.heap[g]? = some (.cells cur 27 (0, 0)) ∧ cur.toList = cs ++ rest

theorem OwnR.lt {w : World} {g : Nat} {cs : List Value} (h : OwnR w g cs) : g < w.heap.size := by
  obtain ⟨cur, _, hg, _⟩ := h
  exact (Array.getElem?_eq_some_iff.1 hg).1

theorem OwnR.at {w : World} {g : Nat} {cs : List Value} (h : OwnR w g cs) (j : Nat) (hj : j < cs.length) : w.cell? ⟨g, j, none⟩ = cs[j]? := by
  obtain ⟨cur, rest, hg, hc⟩ := h
  rw [cell_of_row w g _ cur 27 (0, 0) hg, ← Array.getElem?_toList, hc, List.getElem?_append_left hj]

theorem OwnR.but {S : Nat → Prop} {w w' : World} {g : Nat} {cs : List Value} (h : OwnR w g cs) (hb : But S w w') (hs : ¬ S g) : OwnR w' g cs := by
  have hlt := h.lt
  obtain ⟨cur, rest, hg, hc⟩ := h
  exact ⟨cur, rest, (hb.block g hlt hs).trans hg, hc⟩

theorem OwnR.ne {w : World} {g h : Nat} {cs ds : List Value} (a : OwnR w g cs) (b : Own w h ds) : h ≠ g := by
  rintro rfl
  obtain ⟨cur, _, hg, _⟩ := a
  obtain ⟨cur', _, hg', _⟩ := b
  rw [hg] at hg'
  simp at hg'

/-- A slice of slices: the row g of slices, the rows ps of nodes, no two of them one, all from B on. -/
structure Rag (w : World) (B g : Nat) (ps : List (Nat × Nat)) (kss : List (List Nd)) : Prop where
  lead : OwnR w g (leadsC ps kss)
  base : B ≤ g
  len : ps.length = kss.length
  rows : ∀ i (h : i < ps.length) (h' : i < kss.length), Row w ps[i].1 kss[i]
  from_ : ∀ p ∈ ps, B ≤ p.1
  nodup : (ps.map (·.1)).Nodup

theorem Rag.but {S : Nat → Prop} {w w' : World} {B g : Nat} {ps : List (Nat × Nat)} {kss : List (List Nd)} (h : Rag w B g ps kss) (hb : But S w w') (hs : ∀ k, S k → k < B) : Rag w' B g ps kss :=
  ⟨h.lead.but hb (fun hk => by have := hs _ hk; have := h.base; omega), h.base, h.len,
    fun i hi hi' => hb.row (h.rows i hi hi') (fun hk => by have := hs _ hk; have := h.from_ _ (List.getElem_mem hi); omega), h.from_, h.nodup⟩

theorem Rag.below {w w' : World} {B g : Nat} {ps : List (Nat × Nat)} {kss : List (List Nd)} (h : Rag w B g ps kss) (hb : Below w.heap.size w w') : Rag w' B g ps kss :=
  h.but (S := fun _ => False) (But.ofBelow hb) (fun _ h => h.elim)

theorem Rag.lists {w : World} {B g : Nat} {ps : List (Nat × Nat)} {kss : List (List Nd)} (h : Rag w B g ps kss) : Lists w (some ⟨g, 0, none⟩) kss := by
  intro i hi
  have hi' : i < ps.length := by rw [h.len]; exact hi
  refine ⟨g, 0, some ⟨ps[i].1, 0, none⟩, ps[i].2, rfl, ?_, (h.rows i hi' hi).nodes⟩
  rw [Nat.zero_add, h.lead.at i (by rw [leadsC_length h.len]; exact hi)]
  exact leadsC_get ps kss i hi' hi

/-- The same as it grows. -/
structure RagO (w : World) (B g c k : Nat) (ps : List (Nat × Nat)) (kss : List (List Nd)) : Prop where
  num : kss.length = k
  own : w.ownsRow B 27 1 (.slice (some ⟨g, 0, none⟩) k c) k (leadsC ps kss)
  len : ps.length = kss.length
  rows : ∀ i (h : i < ps.length) (h' : i < kss.length), Row w ps[i].1 kss[i]
  from_ : ∀ p ∈ ps, B ≤ p.1
  nodup : (ps.map (·.1)).Nodup

theorem owns_ownR {w : World} {B g c k : Nat} {xs : List Value} (h : w.ownsRow B 27 1 (.slice (some ⟨g, 0, none⟩) k c) k xs) : B ≤ g ∧ OwnR w g xs := by
  rcases h.2 with ⟨h', _⟩ | ⟨g2, cap2, cur, he, hb, hh, _, _, _, htake⟩
  · cases h'
  · simp only [Value.slice.injEq, Option.some.injEq, Addr.mk.injEq, and_true, true_and] at he
    obtain ⟨rfl, rfl⟩ := he
    exact ⟨hb, cur, cur.toList.drop (k * 1), hh, by rw [← htake, List.take_append_drop]⟩

theorem RagO.rag {w : World} {B g c k : Nat} {ps : List (Nat × Nat)} {kss : List (List Nd)} (h : RagO w B g c k ps kss) : Rag w B g ps kss :=
  ⟨(owns_ownR h.own).2, (owns_ownR h.own).1, h.len, h.rows, h.from_, h.nodup⟩

theorem RagO.lt {w : World} {B g c k : Nat} {ps : List (Nat × Nat)} {kss : List (List Nd)} (h : RagO w B g c k ps kss) : B ≤ g ∧ g < w.heap.size := owns_block h.own

theorem RagO.but {S : Nat → Prop} {w w' : World} {B g c k : Nat} {ps : List (Nat × Nat)} {kss : List (List Nd)} (h : RagO w B g c k ps kss) (hb : But S w w') (hs : ∀ k, S k → k < B) : RagO w' B g c k ps kss :=
  ⟨h.num, owns_but h.own hb (fun hk => by have := hs _ hk; have := h.lt; omega), h.len,
    fun i hi hi' => hb.row (h.rows i hi hi') (fun hk => by have := hs _ hk; have := h.from_ _ (List.getElem_mem hi); omega), h.from_, h.nodup⟩

theorem RagO.below {w w' : World} {B g c k : Nat} {ps : List (Nat × Nat)} {kss : List (List Nd)} (h : RagO w B g c k ps kss) (hb : Below w.heap.size w w') : RagO w' B g c k ps kss :=
  h.but (S := fun _ => False) (But.ofBelow hb) (fun _ h => h.elim)

/-- What lies neither at g nor among the rows may be turned. -/
theorem RagO.but' {S : Nat → Prop} {w w' : World} {B g c k : Nat} {ps : List (Nat × Nat)} {kss : List (List Nd)} (h : RagO w B g c k ps kss) (hb : But S w w') (hs : ¬ S g) (hr : ∀ p ∈ ps, ¬ S p.1) : RagO w' B g c k ps kss :=
  ⟨h.num, owns_but h.own hb hs, h.len, fun i hi hi' => hb.row (h.rows i hi hi') (hr _ (List.getElem_mem hi)), h.from_, h.nodup⟩

theorem RagO.empty {w : World} {B : Nat} (hB : B ≤ w.heap.size) : RagO (w.alloc (.cells #[] 27)) B w.heap.size 0 0 [] [] :=
  ⟨rfl, ⟨rfl, Or.inr ⟨_, 0, #[], rfl, hB, heap_alloc_new _ _, Nat.le_refl _, by simp [maxLen], rfl, rfl⟩⟩, rfl, fun i hi => by simp at hi, fun p hp => by simp at hp, by simp⟩

/-- After an append of a slice that leads to a new row. -/
theorem RagO.push {w0 w w' : World} {B g c k g' c' h ch : Nat} {ps : List (Nat × Nat)} {kss : List (List Nd)} {ks : List Nd} (hO : RagO w0 B g c k ps kss) (hw : But (fun _ => False) w0 w)
    (hr : Row w h ks) (hh : w0.heap.size ≤ h) (hB : B ≤ h)
    (hown : w'.ownsRow B 27 1 (.slice (some ⟨g', 0, none⟩) (k + 1) c') (k + 1) (leadsC ps kss ++ [.slice (some ⟨h, 0, none⟩) ks.length ch])) (hg : w.grownBy w' (some g)) : RagO w' B g' c' (k + 1) (ps ++ [(h, ch)]) (kss ++ [ks]) := by
  have hR : Rag w B g ps kss := hO.rag.but hw (fun _ h => h.elim)
  have hg2 : ∀ q ys, Row w q ys → q ≠ g → Row w' q ys := by
    intro q ys hq hne
    have hlt := hq.lt
    obtain ⟨cur, rest, hc, he⟩ := hq
    exact ⟨cur, rest, (hg.block q hlt (by simpa using hne)).trans hc, he⟩
  refine ⟨by simp [hO.num], by rw [leadsC_snoc _ _ _ _ hO.len]; exact hown, by simp [hO.len], ?_, ?_, ?_⟩
  · intro i hi hi'
    by_cases hik : i < ps.length
    · have h1 := hR.rows i hik (by rw [← hO.len]; exact hik)
      rw [List.getElem_append_left hik, List.getElem_append_left (by rw [← hO.len]; exact hik)]
      exact hg2 _ _ h1 (hR.lead.ne h1)
    · have e : i = ps.length := by simp at hi; omega
      subst e
      have e2 : (kss ++ [ks])[ps.length]'hi' = ks := by
        rw [List.getElem_append_right (by rw [hO.len]; exact Nat.le_refl _)]
        simp
      rw [e2, List.getElem_append_right (Nat.le_refl _)]
      simp only [Nat.sub_self, List.getElem_cons_zero]
      exact hg2 _ _ hr (hR.lead.ne hr)
  · intro p hp
    rcases List.mem_append.1 hp with h1 | h1
    · exact hO.from_ p h1
    · simp at h1; subst h1; exact hB
  · rw [List.map_append]
    refine List.nodup_append.2 ⟨hO.nodup, by simp, ?_⟩
    intro a ha b hb
    simp at hb
    subst hb
    obtain ⟨p, hp, rfl⟩ := List.mem_map.1 ha
    obtain ⟨i, hi, rfl⟩ := List.getElem_of_mem hp
    have h1 := (hO.rows i hi (by rw [← hO.len]; exact hi)).lt
    omega

theorem lists_alike (xs : List Nd) : Alike Nd.eqb xs xs := ⟨rfl, fun _ _ _ => Nd.eqb_refl _⟩

/-- What stands where all was marked: from k on. -/
def markedSS (k : Nat) : List (List Nd) → List (List Nd)
  | [] => []
  | ks :: kss => marks k ks.length :: markedSS (k + 5 * ks.length) kss

theorem markedSS_length (k : Nat) (kss : List (List Nd)) : (markedSS k kss).length = kss.length := by
  induction kss generalizing k with
  | nil => rfl
  | cons ks kss ih => simp [markedSS, ih]

theorem markedSS_get (k : Nat) (kss : List (List Nd)) (i : Nat) (h : i < kss.length) (h' : i < (markedSS k kss).length) : (markedSS k kss)[i] = marks (k + 5 * total (kss.take i)) kss[i].length := by
  induction kss generalizing k i with
  | nil => simp at h
  | cons ks kss ih =>
    match i with
    | 0 => simp [markedSS, total]
    | i + 1 =>
      simp only [markedSS, List.getElem_cons_succ]
      rw [ih (k + 5 * ks.length) i (by simpa using h) (by rw [markedSS_length]; simpa using h)]
      have e : total ((ks :: kss).take (i + 1)) = ks.length + total (kss.take i) := by simp [total]
      rw [e]
      congr 1
      omega

theorem leadsC_marked (ps : List (Nat × Nat)) (k : Nat) (kss : List (List Nd)) (hl : ps.length = kss.length) : leadsC ps (markedSS k kss) = leadsC ps kss := by
  refine List.ext_getElem? ?_
  intro i
  by_cases hi : i < kss.length
  · rw [leadsC_get ps kss i (by omega) hi, leadsC_get ps (markedSS k kss) i (by omega) (by rw [markedSS_length]; exact hi), markedSS_get k kss i hi (by rw [markedSS_length]; exact hi), marks_length]
  · rw [List.getElem?_eq_none (by simp [leadsC]; omega), List.getElem?_eq_none (by simp [leadsC]; omega)]

end Go.Proofs.Ytngomcicdcgldab

import Derived.Test.YtfkopelhaghdaaaDoorDown
import Derived.Test.YtfkopelhaghdaaaDoorShelf
namespace Go.Proofs.YtfkopelhaghdaaaDoor
open Go.RowKit Go.Lib Go.Sort

/-- A number as it is spelled: a tilde where it is below zero, then its digits. -/
def spelled (n : Int) : List UInt8 := if n < 0 then 126 :: decDigits n.natAbs else decDigits n.toNat

theorem digits_no (k : Nat) : (decDigits k).count 45 = 0 := by
  rw [List.count_eq_zero]
  intro h
  rw [decDigits_eq] at h
  simp only [List.mem_map, List.mem_range] at h
  obtain ⟨t, _, ht⟩ := h
  unfold dg at ht
  have : (48 + k / 10 ^ (nDigits k - 1 - t) % 10) < 256 := by omega
  have := congrArg UInt8.toNat ht
  simp at this
  omega

theorem replaced (n : Int) : Lib.replace (itoa n) [45] [126] 1 = spelled n := by
  unfold Lib.replace itoa spelled
  rw [if_neg (by decide)]
  by_cases h : n < 0
  · simp only [if_pos h]
    have hc : Lib.count (45 :: decDigits n.natAbs) [45] = 1 := by rw [count_cons_eq, count_one, digits_no]
    have hr : replaceNum (45 :: decDigits n.natAbs) [45] 1 = 1 := by unfold replaceNum; rw [hc]; rfl
    rw [hr, replaceK_hit [45] [126] 0 _ 0 (by rw [index]; simp [List.isPrefixOf])]
    simp [replaceK]
  · simp only [if_neg h]
    have hc : Lib.count (decDigits n.toNat) [45] = 0 := by rw [count_one, digits_no]
    have hr : replaceNum (decDigits n.toNat) [45] 1 = 0 := by unfold replaceNum; rw [hc]; rfl
    rw [hr, replaceK]

theorem tab_below {w w' : World} {zs : List Int} {name : String} {k : IntKind} (h : TabIs Tryd.prog w name k zs) (hb : Below w.heap.size w w') : TabIs Tryd.prog w' name k zs := by
  unfold TabIs World.var? at *
  cases hg : Tryd.prog.globalNamed name with
  | none => simp [hg] at h
  | some g =>
    simp only [hg, Option.bind_some] at h ⊢
    have hlt : g < w.heap.size := by
      rcases Nat.lt_or_ge g w.heap.size with h' | h'
      · exact h'
      · rw [Array.getElem?_eq_none h'] at h; simp at h
    rw [hb.block g hlt]
    exact h

theorem cell_lt {w : World} {a : Addr} {v : Value} (h : w.cell? a = some v) : a.block < w.heap.size := by
  rcases Nat.lt_or_ge a.block w.heap.size with h' | h'
  · exact h'
  · simp [World.cell?, Array.getElem?_eq_none h'] at h

theorem itoa_le (n : Int) (h0 : -9223372036854775808 ≤ n) (h1 : n ≤ 9223372036854775807) : (itoa n).length ≤ 21 := by
  unfold itoa
  split
  · have := digits_le n.natAbs (by omega)
    simp; omega
  · have := digits_le n.toNat (by omega)
    omega

set_option maxHeartbeats 1000000 in
theorem spellInt_any (n : Int) (h0 : -9223372036854775808 ≤ n) (h1 : n ≤ 9223372036854775807) (m : Int) (w : World)
    (htab : TabIs Tryd.prog w "internal/strconv.uint64pow10" .u64 pow10Tab) (hm : w.cell? ⟨0, 0, none⟩ = some (.int .i64 m)) :
    Calls Tryd.prog 10 #[.int .i64 n] w fun e w' => e = .returned (.string ⟨(spelled n).toArray⟩) ∧ Below w.heap.size w w' := by
  have HR := replaced n
  obtain ⟨S, hS⟩ : ∃ S : ByteArray, S = ⟨(itoa n).toArray⟩ := ⟨_, rfl⟩
  have hsz : S.size ≤ 21 := by rw [hS, size_mk]; exact itoa_le n h0 h1
  have hf := Tryd.strconv_FormatInt_10 n h0 h1 w htab
  rw [← hS] at hf
  have hd : S.data.toList = itoa n := by rw [hS]
  have hrep : ∀ w', Below w.heap.size w w' → Calls Tryd.prog 13 #[.string S, .string ⟨#[45]⟩, .string ⟨#[126]⟩, .int .i64 1] w' fun e w'' => e = .returned (.string ⟨(spelled n).toArray⟩) ∧ Below w'.heap.size w' w'' := by
    intro w' hb
    have hm' : w'.cell? ⟨0, 0, none⟩ = some (.int .i64 m) := (hb.cell (cell_lt hm)).trans hm
    have hc := countB_le ⟨#[45]⟩ (by decide) S.size S (Nat.le_refl _)
    have := Tryd.strings_Replace S ⟨#[45]⟩ ⟨#[126]⟩ 1 m w' (by omega) hm' (by decide) (by
      have e : (⟨#[126]⟩ : ByteArray).size = 1 := rfl
      rw [e]; omega)
    rw [hd, show (⟨#[45]⟩ : ByteArray).data.toList = [45] from rfl, show (⟨#[126]⟩ : ByteArray).data.toList = [126] from rfl, HR] at this
    exact this
  clear HR hS hd hsz
  go_enter Tryd.func10, Tryd.ntmps10
  go_wp2_with fail
  refine hf.mono ?_
  rintro e w1 ⟨rfl, k, os, hw1⟩
  have b1 : Below w.heap.size w w1 := by
    rw [hw1]
    exact ⟨rfl, rfl, rfl, by simp [grow], fun k hk => by simp [grow, Array.getElem?_append_left, hk]⟩
  clear hw1
  go_wp2_with fail
  refine (hrep _ b1).mono ?_
  rintro e w2 ⟨rfl, b2⟩
  have b3 := b1.trans (b2.mono b1.size)
  clear hf hrep b1 b2
  go_wp2
  go_ret
  exact ⟨rfl, b3⟩

set_option maxHeartbeats 1000000 in
theorem num_any (n : Int) (h0 : -9223372036854775808 ≤ n) (h1 : n ≤ 9223372036854775807) (w : World) :
    Calls Tryd.prog 8 #[.int .i64 n] w fun e w' => e = .returned (.string ⟨(spelled n).toArray⟩) ∧ Below w.heap.size w w' := by
  by_cases hn : n < 0
  · obtain ⟨k, rfl⟩ : ∃ k : Nat, n = -(k : Int) := ⟨n.natAbs, by omega⟩
    have hd := down_any k (by omega)
    obtain ⟨S, hS⟩ : ∃ S : ByteArray, S = ⟨(decDigits k).toArray⟩ := ⟨_, rfl⟩
    have HE : Hid ((⟨#[126]⟩ : ByteArray) ++ S = ⟨(spelled (-(k : Int))).toArray⟩) := by
      show (⟨#[126]⟩ : ByteArray) ++ S = _
      unfold spelled
      rw [hS, if_pos hn, show (-(k : Int)).natAbs = k by omega]
      exact cat_mk [126] _
    have hle : (⟨#[126]⟩ : ByteArray).size + S.size ≤ 9223372036854775807 := by
      have := digits_le k (by omega)
      rw [hS, size_mk]
      simp [ByteArray.size]
      omega
    rw [← hS] at hd
    clear hS
    go_enter Tryd.func8, Tryd.ntmps8
    go_wp2_with fail
    refine (hd w).mono ?_
    rintro e w1 ⟨rfl, b1⟩
    clear hd
    go_wp2
    go_ret
    exact ⟨by rw [HE.out]; rfl, b1⟩
  · obtain ⟨k, rfl⟩ : ∃ k : Nat, n = (k : Int) := ⟨n.toNat, by omega⟩
    have hd := down_any k (by omega)
    have HE : Hid (decDigits k = spelled (k : Int)) := by
      show decDigits k = _
      unfold spelled
      rw [if_neg hn, show (k : Int).toNat = k by omega]
    go_enter Tryd.func8, Tryd.ntmps8
    go_wp2_with fail
    refine (hd w).mono ?_
    rintro e w1 ⟨rfl, b1⟩
    clear hd
    rw [HE.out]
    go_wp2
    go_ret
    exact ⟨rfl, b1⟩

end Go.Proofs.YtfkopelhaghdaaaDoor

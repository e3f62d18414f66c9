
import Derived.Test.YthnhphaaecaefaaTake
import Derived.Test.YthnhphaaecaefaaCopy
namespace Go.Proofs.Ythnhphaaecaefaa
open Go.RowKit

/-- Places that are small. -/
def Near (xs : List Nd) : Prop := ∀ x ∈ xs, 0 ≤ x.place ∧ x.place ≤ 100

theorem Near.nil : Near [] := by intro x hx; simp at hx

theorem Near.snoc {xs : List Nd} {x : Nd} (h : Near xs) (h0 : 0 ≤ x.place) (h1 : x.place ≤ 100) : Near (xs ++ [x]) := by
  intro y hy
  rcases List.mem_append.1 hy with hy | hy
  · exact h y hy
  · simp at hy; subst hy; exact ⟨h0, h1⟩

/-- A drawn list: where it lies. -/
structure Lies (w : World) (B g c m : Nat) (xs : List Nd) : Prop where
  row : Row w g xs
  len : xs.length = m
  cap : m ≤ c
  from_ : B ≤ g

theorem OwnN.lies {w : World} {B g c l : Nat} {zs : List Nd} (h : OwnN w B g c l zs) : Lies w B g c l zs := by
  refine ⟨h.row.2, h.1, ?_, h.row.1⟩
  rcases h.2.2 with ⟨h', _⟩ | ⟨g2, cap2, cur, he, hb, hh, hnc, _, _, _⟩
  · cases h'
  · simp only [Value.slice.injEq, Option.some.injEq, Addr.mk.injEq, and_true, true_and] at he
    obtain ⟨rfl, rfl⟩ := he
    exact hnc

theorem flat_set3 (ys : List Nd) (i : Nat) (hi : i < ys.length) (v : Int) : (flat ys).set (i * 5 + 3) (.int .i64 v) = flat (ys.set i { ys[i] with kids := v }) := by
  apply List.ext_getElem?
  intro j
  by_cases hj : j < ys.length * 5
  · have e : j = (j / 5) * 5 + j % 5 := by omega
    have hq : j / 5 < ys.length := by omega
    have hr : j % 5 < 5 := by omega
    generalize j / 5 = q at *
    generalize j % 5 = r at *
    subst e
    rw [flat_get _ q r (by simpa using hq) hr]
    simp only [List.getElem?_set, flat_length]
    by_cases hqi : q = i
    · subst hqi
      match r, hr with
      | 0, _ => rw [if_neg (by omega), flat_get ys q 0 hq (by omega)]; simp [Nd.row]
      | 1, _ => rw [if_neg (by omega), flat_get ys q 1 hq (by omega)]; simp [Nd.row]
      | 2, _ => rw [if_neg (by omega), flat_get ys q 2 hq (by omega)]; simp [Nd.row]
      | 3, _ => simp [Nd.row]; omega
      | 4, _ => rw [if_neg (by omega), flat_get ys q 4 hq (by omega)]; simp [Nd.row]
    · rw [if_neg (by omega), flat_get ys q r hq hr]
      simp [Ne.symm hqi]
  · rw [List.getElem?_eq_none (by simp [flat_length]; omega), List.getElem?_eq_none (by simp [flat_length]; omega)]

theorem Lies.set3 {w : World} {B g c m : Nat} {xs : List Nd} (h : Lies w B g c m xs) (i : Nat) (hi : i < m) (v : Int) (hn : Near xs) : ∃ ys, Lies (w.setCell ⟨g, i * 5 + 3, none⟩ (.int .i64 v)) B g c m ys ∧ Near ys := by
  have hi' : i < xs.length := by rw [h.len]; exact hi
  refine ⟨xs.set i { xs[i] with kids := v }, ⟨(Own.set h.row (i * 5 + 3) _ (by rw [flat_length]; omega)).row (flat_set3 xs i hi' v), by simp [h.len], h.cap, h.from_⟩, ?_⟩
  intro x hx
  rcases List.mem_or_eq_of_mem_set hx with hx | rfl
  · exact hn x hx
  · exact hn xs[i] (List.getElem_mem hi')

/-- What l1Draw answers. -/
def Drew (w : World) (e : Ending) (w' : World) : Prop := ∃ (g m c p : Nat) (xs : List Nd), e = .returned (.tuple #[.slice (some ⟨g, 0, none⟩) m c, .int .i64 (p : Int)]) ∧ Lies w' w.heap.size g c m xs ∧ m ≤ 6001 ∧ Near xs ∧ Below w.heap.size w w'

set_option maxRecDepth 100000 in
set_option maxHeartbeats 2000000 in
theorem draw_any (n : Nat) (hn : n ≤ 1048576) (ao : Option Addr) (cap : Nat) (w : World) (hc : Code w ao n) :
    Calls Try.prog 13 #[.slice ao n cap, .int .i64 0] w fun e w' => Drew w e w' := by
  obtain ⟨i0, hi, hz0, hz1, hz2⟩ := info_parts Try.infoN
  go_enter Try.func13, Try.ntmps13
  go_wp2_with fail
  refine (takeB_any n hn ao cap w hc 0 40 (by omega) (by omega) (by omega)).mono ?_
  rintro e w1 ⟨⟨r, hr, rfl⟩, b1⟩
  have HC : Hid (Code w ao n) := hc
  have hc1 := hc.below (b1.alloc b1.size (.cells #[] 32))
  have hO := OwnN.empty (w := w1) (B := w.heap.size) b1.size
  have b1 := b1.alloc b1.size (.cells #[] 32)
  clear hc
  by_cases h39 : r = 39
  · subst h39
    go_wp2_with fail
    refine (takeB_any n hn ao cap _ hc1 1 2 (by omega) (by omega) (by omega)).mono ?_
    rintro e w2 ⟨⟨q, hq, rfl⟩, b2⟩
    have hO := hO.below b2
    have b2 := Below.step b1 b2
    clear hc1 b1
    go_wp2
    go_loopw [9, 11] (fun v p wr => ∃ (k g c : Nat) (xs : List Nd), k ≤ 300 + q ∧ p = .int .i64 k ∧ v = .slice (some ⟨g, 0, none⟩) k c ∧ OwnN wr w.heap.size g c k xs ∧ Near xs ∧ Below w.heap.size w wr) (fun _ p _ => 300 + q - (intOf p).toNat)
    case atStart => exact ⟨0, _, 0, [], Nat.zero_le _, rfl, rfl, hO, Near.nil, b2⟩
    case round =>
      clear hO b2
      obtain ⟨k, g, c, xs, hk, rfl, rfl, hown, hne, hb⟩ := hrel
      have hob := owns_block hown.2
      by_cases hlt : k < 300 + q
      · by_cases hk0 : k = 0
        · subst hk0
          go_wp2_with (at_builtin; refine wpList_append2 _ rfl (.tmp 63) (.tmp 66) 23 rfl w.heap.size 32 i0 _ 5 48 Try.underlying23 hi hz0 hz1 hz2 rfl (by decide) g 0 c _ rfl (hown.alloc _).2 ⟨_, 0, none⟩ 1 1 (Nd.row ⟨1, 0, ⟨#[]⟩, 0, 0⟩) rfl rfl (nd_new_cells _ ⟨1, 0, ⟨#[]⟩, 0, 0⟩) (nd_row_one _) ?a3 ?a4 ?a5 ?_)
          case a3 => unfold maxLen; omega
          case a4 => omega
          case a5 => have := hb.size; simp; omega
          intro g2 c2 w2 hown2 hgrow2 hwh
          have hO := OwnN.push (x := ⟨1, 0, ⟨#[]⟩, 0, 0⟩) hown2 hown.1 rfl
          have hbb : Below w.heap.size w w2 := (hb.alloc hb.size _).grown hgrow2 (by have := hb.size; simp; omega) (fun q hq => by cases hq; exact hob.1)
          have hne2 := hne.snoc (x := ⟨1, 0, ⟨#[]⟩, 0, 0⟩) (by simp) (by simp)
          clear hown2 hgrow2 hwh hown hb hne
          go_wp2
          go_roundw
          case rel => exact ⟨0 + 1, g2, c2, _, by omega, by go_num, rfl, hO, hne2, hbb⟩
          case measure => (simp [intOf]) <;> omega
        · go_wp2_with (at_builtin; refine wpList_append2 _ rfl (.tmp 63) (.tmp 66) 23 rfl w.heap.size 32 i0 _ 5 48 Try.underlying23 hi hz0 hz1 hz2 rfl (by decide) g k c _ rfl (hown.alloc _).2 ⟨_, 0, none⟩ 1 1 (Nd.row ⟨1, 0, ⟨#[]⟩, 1, 0⟩) rfl rfl (nd_new_cells _ ⟨1, 0, ⟨#[]⟩, 1, 0⟩) (nd_row_one _) ?a3 ?a4 ?a5 ?_)
          case a3 => unfold maxLen; omega
          case a4 => omega
          case a5 => have := hb.size; simp; omega
          intro g2 c2 w2 hown2 hgrow2 hwh
          have hO := OwnN.push (x := ⟨1, 0, ⟨#[]⟩, 1, 0⟩) hown2 hown.1 rfl
          have hbb : Below w.heap.size w w2 := (hb.alloc hb.size _).grown hgrow2 (by have := hb.size; simp; omega) (fun q hq => by cases hq; exact hob.1)
          have hne2 := hne.snoc (x := ⟨1, 0, ⟨#[]⟩, 1, 0⟩) (by simp) (by simp)
          clear hown2 hgrow2 hwh hown hb hne
          go_wp2
          go_roundw
          case rel => exact ⟨k + 1, g2, c2, _, by omega, by go_num, rfl, hO, hne2, hbb⟩
          case measure => (simp [intOf]) <;> omega
      · have hke : k = 300 + q := by omega
        clear hob
        go_wp2
        all_goals
          go_ret2
          exact ⟨g, k, c, 2, xs, rfl, hown.lies, by omega, hne, hb⟩
  by_cases h38 : r = 38
  · subst h38
    clear h39
    go_wp2_with fail
    refine (takeB_any n hn ao cap _ hc1 1 2 (by omega) (by omega) (by omega)).mono ?_
    rintro e w2 ⟨⟨q, hq, rfl⟩, b2⟩
    have hO := hO.below b2
    have b2 := Below.step b1 b2
    clear hc1 b1
    go_wp2
    go_loopw [9, 11] (fun v p wr => ∃ (k g c : Nat) (xs : List Nd), k ≤ 6000 + q ∧ p = .int .i64 k ∧ v = .slice (some ⟨g, 0, none⟩) k c ∧ OwnN wr w.heap.size g c k xs ∧ Near xs ∧ Below w.heap.size w wr) (fun _ p _ => 6000 + q - (intOf p).toNat)
    case atStart => exact ⟨0, _, 0, [], Nat.zero_le _, rfl, rfl, hO, Near.nil, b2⟩
    case round =>
      clear hO b2
      obtain ⟨k, g, c, xs, hk, rfl, rfl, hown, hne, hb⟩ := hrel
      have hob := owns_block hown.2
      by_cases hlt : k < 6000 + q
      · by_cases hk0 : k = 0
        · subst hk0
          have hkk : ¬ (0 : Int) = 6000 + (q : Int) - 1 := by omega
          go_wp2_with (at_builtin; refine wpList_append2 _ rfl (.tmp 63) (.tmp 66) 23 rfl w.heap.size 32 i0 _ 5 48 Try.underlying23 hi hz0 hz1 hz2 rfl (by decide) g 0 c _ rfl (hown.alloc _).2 ⟨_, 0, none⟩ 1 1 (Nd.row ⟨1, 0, ⟨#[]⟩, 0, 0⟩) rfl rfl (nd_new_cells _ ⟨1, 0, ⟨#[]⟩, 0, 0⟩) (nd_row_one _) ?a3 ?a4 ?a5 ?_)
          case a3 => unfold maxLen; omega
          case a4 => omega
          case a5 => have := hb.size; simp; omega
          intro g2 c2 w2 hown2 hgrow2 hwh
          have hO := OwnN.push (x := ⟨1, 0, ⟨#[]⟩, 0, 0⟩) hown2 hown.1 rfl
          have hbb : Below w.heap.size w w2 := (hb.alloc hb.size _).grown hgrow2 (by have := hb.size; simp; omega) (fun q hq => by cases hq; exact hob.1)
          have hne2 := hne.snoc (x := ⟨1, 0, ⟨#[]⟩, 0, 0⟩) (by simp) (by simp)
          clear hown2 hgrow2 hwh hown hb hne
          go_wp2
          go_roundw
          case rel => exact ⟨0 + 1, g2, c2, _, by omega, by go_num, rfl, hO, hne2, hbb⟩
          case measure => (simp [intOf]) <;> omega
        · by_cases hk1 : k + 1 = 6000 + q
          · have hkk : (k : Int) = 6000 + (q : Int) - 1 := by omega
            clear hk1
            go_wp2_with (at_builtin; refine wpList_append2 _ rfl (.tmp 63) (.tmp 66) 23 rfl w.heap.size 32 i0 _ 5 48 Try.underlying23 hi hz0 hz1 hz2 rfl (by decide) g k c _ rfl (hown.alloc _).2 ⟨_, 0, none⟩ 1 1 (Nd.row ⟨1, 0, ⟨#[]⟩, 6000 + (q : Int) - 1, 0⟩) rfl rfl (nd_new_cells _ ⟨1, 0, ⟨#[]⟩, 6000 + (q : Int) - 1, 0⟩) (nd_row_one _) ?a3 ?a4 ?a5 ?_)
            case a3 => unfold maxLen; omega
            case a4 => omega
            case a5 => have := hb.size; simp; omega
            intro g2 c2 w2 hown2 hgrow2 hwh
            have hO := OwnN.push (x := ⟨1, 0, ⟨#[]⟩, 6000 + (q : Int) - 1, 0⟩) hown2 hown.1 rfl
            have hbb : Below w.heap.size w w2 := (hb.alloc hb.size _).grown hgrow2 (by have := hb.size; simp; omega) (fun q hq => by cases hq; exact hob.1)
            have hne2 := hne.snoc (x := ⟨1, 0, ⟨#[]⟩, 6000 + (q : Int) - 1, 0⟩) (by simp) (by simp)
            clear hown2 hgrow2 hwh hown hb hne
            go_wp2
            go_roundw
            case rel => exact ⟨k + 1, g2, c2, _, by omega, by go_num, rfl, hO, hne2, hbb⟩
            case measure => (simp [intOf]) <;> omega
          · have hkk : ¬ (k : Int) = 6000 + (q : Int) - 1 := by omega
            go_wp2_with (at_builtin; refine wpList_append2 _ rfl (.tmp 63) (.tmp 66) 23 rfl w.heap.size 32 i0 _ 5 48 Try.underlying23 hi hz0 hz1 hz2 rfl (by decide) g k c _ rfl (hown.alloc _).2 ⟨_, 0, none⟩ 1 1 (Nd.row ⟨1, 0, ⟨#[]⟩, 0, 0⟩) rfl rfl (nd_new_cells _ ⟨1, 0, ⟨#[]⟩, 0, 0⟩) (nd_row_one _) ?a3 ?a4 ?a5 ?_)
            case a3 => unfold maxLen; omega
            case a4 => omega
            case a5 => have := hb.size; simp; omega
            intro g2 c2 w2 hown2 hgrow2 hwh
            have hO := OwnN.push (x := ⟨1, 0, ⟨#[]⟩, 0, 0⟩) hown2 hown.1 rfl
            have hbb : Below w.heap.size w w2 := (hb.alloc hb.size _).grown hgrow2 (by have := hb.size; simp; omega) (fun q hq => by cases hq; exact hob.1)
            have hne2 := hne.snoc (x := ⟨1, 0, ⟨#[]⟩, 0, 0⟩) (by simp) (by simp)
            clear hown2 hgrow2 hwh hown hb hne
            go_wp2
            go_roundw
            case rel => exact ⟨k + 1, g2, c2, _, by omega, by go_num, rfl, hO, hne2, hbb⟩
            case measure => (simp [intOf]) <;> omega
      · have hke : k = 6000 + q := by omega
        clear hob
        go_wp2
        all_goals
          go_ret2
          exact ⟨g, k, c, 2, xs, rfl, hown.lies, by omega, hne, hb⟩
  have h39' : ((r : Int) == 39) = false := by simp; omega
  have h38' : ((r : Int) == 38) = false := by simp; omega
  go_wp2_with fail
  refine (countB_any n hn ao cap _).mono ?_
  rintro e w2 ⟨⟨N, hN, rfl⟩, b2⟩
  have hO := hO.below b2
  have b2 := Below.step b1 b2
  clear hc1 b1
  go_wp2
  go_loopw [1, 7, 8, 9, 13, 15] (fun p a b v o i wr => ∃ (k g c aa bb oo : Nat) (xs : List Nd), k ≤ N ∧ i = .int .i64 k ∧ p = .int .i64 ((1 + 2 * k : Nat) : Int) ∧ a = .int .i64 aa ∧ b = .int .i64 bb ∧ bb < 4 ∧ o = .int .i64 oo ∧ oo ≤ k ∧ v = .slice (some ⟨g, 0, none⟩) k c ∧ OwnN wr w.heap.size g c k xs ∧ Near xs ∧ Below w.heap.size w wr) (fun _ _ _ _ _ p _ => N - (intOf p).toNat)
  case atStart => exact ⟨0, _, 0, 0, 0, 0, [], Nat.zero_le _, rfl, rfl, rfl, rfl, by omega, rfl, by omega, rfl, hO, Near.nil, b2⟩
  case round =>
    obtain ⟨k, g, c, aa, bb, oo, xs, hk, rfl, rfl, rfl, rfl, hbb, rfl, hoo, rfl, hown, hne, hb⟩ := hrel
    have hob := owns_block hown.2
    have hcr : Code wr ao n := HC.out.below hb
    by_cases hlt : k < N
    · go_wp2_with fail
      refine (takeB_any n hn ao cap _ hcr (1 + 2 * k) 64 (by omega) (by omega) (by omega)).mono ?_
      rintro e w3 ⟨⟨a3, ha3, rfl⟩, b3⟩
      have hown := hown.below b3
      have hcr := hcr.below b3
      have hb := Below.step hb b3
      go_wp2_with fail
      refine (takeB_any n hn ao cap _ hcr (1 + 2 * k + 1) 4 (by omega) (by omega) (by omega)).mono ?_
      rintro e w4 ⟨⟨b4, hb4, rfl⟩, bl4⟩
      have hown := hown.below bl4
      have hb := Below.step hb bl4
      clear b3 bl4 hcr
      by_cases hA : a3 % 2 = 1
      · have hA' : ((a3 : Int) % 2 == 1) = true := by simp; omega
        by_cases hB : 0 < oo
        · have hB' : (0 : Int) < (oo : Int) := by omega
          have hr4 := rem_in (x := (b4 : Int)) (k := oo) (by omega) hB
          obtain ⟨hr4a, hr4b⟩ := hr4
          have hnn : (((oo - b4 % oo : Nat)) : Int) = (oo : Int) - (1 + (b4 : Int) % (oo : Int)) + 1 := by
            have h9 := Nat.mod_lt b4 hB
            have h8 : ((b4 % oo : Nat) : Int) = (b4 : Int) % (oo : Int) := by simp
            omega
          go_wp2_with (at_builtin; refine wpList_append2 _ rfl (.tmp 100) (.tmp 108) 23 rfl w.heap.size 32 i0 _ 5 48 Try.underlying23 hi hz0 hz1 hz2 rfl (by decide) g k c _ rfl (hown.alloc _).2 ⟨_, 0, none⟩ 1 1 (Nd.row ⟨(a3 : Int), (b4 : Int), (⟨#[120, 121, 122]⟩ : ByteArray).extract 0 b4, 1 + (b4 : Int) % (oo : Int), (k : Int)⟩) rfl rfl (nd_new_cells _ ⟨(a3 : Int), (b4 : Int), (⟨#[120, 121, 122]⟩ : ByteArray).extract 0 b4, 1 + (b4 : Int) % (oo : Int), (k : Int)⟩) (nd_row_one _) ?a3 ?a4 ?a5 ?_)
          case a3 => unfold maxLen; omega
          case a4 => omega
          case a5 => have := hb.size; simp; omega
          intro g2 c2 w2 hown2 hgrow2 hwh
          have hO := OwnN.push (x := ⟨(a3 : Int), (b4 : Int), (⟨#[120, 121, 122]⟩ : ByteArray).extract 0 b4, 1 + (b4 : Int) % (oo : Int), (k : Int)⟩) hown2 hown.1 rfl
          have hbb : Below w.heap.size w w2 := (hb.alloc hb.size _).grown hgrow2 (by have := hb.size; simp; omega) (fun q hq => by cases hq; exact hob.1)
          have hne2 := hne.snoc (x := ⟨(a3 : Int), (b4 : Int), (⟨#[120, 121, 122]⟩ : ByteArray).extract 0 b4, 1 + (b4 : Int) % (oo : Int), (k : Int)⟩) (by show (0 : Int) ≤ (k : Int); omega) (by show (k : Int) ≤ 100; omega)
          clear hown2 hgrow2 hwh hown hb hne
          go_wp2
          go_roundw
          case rel => exact ⟨k + 1, g2, c2, a3, b4, oo - b4 % oo, _, by omega, by go_num, by go_num, rfl, rfl, hb4, by rw [hnn], by omega, rfl, hO, hne2, hbb⟩
          case measure => (simp [intOf]) <;> omega
        · have hB0 : oo = 0 := by omega
          subst hB0
          go_wp2_with (at_builtin; refine wpList_append2 _ rfl (.tmp 100) (.tmp 108) 23 rfl w.heap.size 32 i0 _ 5 48 Try.underlying23 hi hz0 hz1 hz2 rfl (by decide) g k c _ rfl (hown.alloc _).2 ⟨_, 0, none⟩ 1 1 (Nd.row ⟨(a3 : Int), (b4 : Int), (⟨#[120, 121, 122]⟩ : ByteArray).extract 0 b4, 0, (k : Int)⟩) rfl rfl (nd_new_cells _ ⟨(a3 : Int), (b4 : Int), (⟨#[120, 121, 122]⟩ : ByteArray).extract 0 b4, 0, (k : Int)⟩) (nd_row_one _) ?a3 ?a4 ?a5 ?_)
          case a3 => unfold maxLen; omega
          case a4 => omega
          case a5 => have := hb.size; simp; omega
          intro g2 c2 w2 hown2 hgrow2 hwh
          have hO := OwnN.push (x := ⟨(a3 : Int), (b4 : Int), (⟨#[120, 121, 122]⟩ : ByteArray).extract 0 b4, 0, (k : Int)⟩) hown2 hown.1 rfl
          have hbb : Below w.heap.size w w2 := (hb.alloc hb.size _).grown hgrow2 (by have := hb.size; simp; omega) (fun q hq => by cases hq; exact hob.1)
          have hne2 := hne.snoc (x := ⟨(a3 : Int), (b4 : Int), (⟨#[120, 121, 122]⟩ : ByteArray).extract 0 b4, 0, (k : Int)⟩) (by show (0 : Int) ≤ (k : Int); omega) (by show (k : Int) ≤ 100; omega)
          clear hown2 hgrow2 hwh hown hb hne
          go_wp2
          go_roundw
          case rel => exact ⟨k + 1, g2, c2, a3, b4, 1, _, by omega, by go_num, by go_num, rfl, rfl, hb4, by go_num, by omega, rfl, hO, hne2, hbb⟩
          case measure => (simp [intOf]) <;> omega
      · have hA' : ((a3 : Int) % 2 == 1) = false := by simp; omega
        go_wp2_with (at_builtin; refine wpList_append2 _ rfl (.tmp 100) (.tmp 108) 23 rfl w.heap.size 32 i0 _ 5 48 Try.underlying23 hi hz0 hz1 hz2 rfl (by decide) g k c _ rfl (hown.alloc _).2 ⟨_, 0, none⟩ 1 1 (Nd.row ⟨(a3 : Int), (b4 : Int), (⟨#[120, 121, 122]⟩ : ByteArray).extract 0 b4, 0, (k : Int)⟩) rfl rfl (nd_new_cells _ ⟨(a3 : Int), (b4 : Int), (⟨#[120, 121, 122]⟩ : ByteArray).extract 0 b4, 0, (k : Int)⟩) (nd_row_one _) ?a3 ?a4 ?a5 ?_)
        case a3 => unfold maxLen; omega
        case a4 => omega
        case a5 => have := hb.size; simp; omega
        intro g2 c2 w2 hown2 hgrow2 hwh
        have hO := OwnN.push (x := ⟨(a3 : Int), (b4 : Int), (⟨#[120, 121, 122]⟩ : ByteArray).extract 0 b4, 0, (k : Int)⟩) hown2 hown.1 rfl
        have hbb : Below w.heap.size w w2 := (hb.alloc hb.size _).grown hgrow2 (by have := hb.size; simp; omega) (fun q hq => by cases hq; exact hob.1)
        have hne2 := hne.snoc (x := ⟨(a3 : Int), (b4 : Int), (⟨#[120, 121, 122]⟩ : ByteArray).extract 0 b4, 0, (k : Int)⟩) (by show (0 : Int) ≤ (k : Int); omega) (by show (k : Int) ≤ 100; omega)
        clear hown2 hgrow2 hwh hown hb hne
        go_wp2
        go_roundw
        case rel => exact ⟨k + 1, g2, c2, a3, b4, oo + 1, _, by omega, by go_num, by go_num, rfl, rfl, hb4, by go_num, by omega, rfl, hO, hne2, hbb⟩
        case measure => (simp [intOf]) <;> omega
    · have hke : k = N := by omega
      subst hke
      by_cases h3 : r ≤ 3
      · have h3' : ¬ (3 : Int) < (r : Int) := by omega
        have h4' : ((r : Int) == 4) = false := by simp; omega
        clear hob
        go_wp2
        all_goals
          go_ret2
          exact ⟨g, k, c, 1 + 2 * k, xs, by simp, hown.lies, by omega, hne, hb⟩
      · have h3' : (3 : Int) < (r : Int) := by omega
        go_wp2_with (at_builtin; refine wpList_append2 _ rfl (.tmp 116) (.tmp 119) 23 rfl w.heap.size 32 i0 _ 5 48 Try.underlying23 hi hz0 hz1 hz2 rfl (by decide) g k c _ rfl (hown.alloc _).2 ⟨_, 0, none⟩ 1 1 (Nd.row ⟨5, 0, ⟨#[]⟩, (oo : Int), 0⟩) rfl rfl (nd_new_cells _ ⟨5, 0, ⟨#[]⟩, (oo : Int), 0⟩) (nd_row_one _) ?a3 ?a4 ?a5 ?_)
        case a3 => unfold maxLen; omega
        case a4 => omega
        case a5 => have := hb.size; simp; omega
        intro g2 c2 w2 hown2 hgrow2 hwh
        have hO := OwnN.push (x := ⟨5, 0, ⟨#[]⟩, (oo : Int), 0⟩) hown2 hown.1 rfl
        have hbb : Below w.heap.size w w2 := (hb.alloc hb.size _).grown hgrow2 (by have := hb.size; simp; omega) (fun q hq => by cases hq; exact hob.1)
        have hne2 := hne.snoc (x := ⟨5, 0, ⟨#[]⟩, (oo : Int), 0⟩) (by simp) (by simp)
        have hL := hO.lies
        clear hown2 hgrow2 hwh hown hb hne hO hob
        by_cases h4 : r = 4 ∧ 1 ≤ k
        · obtain ⟨rfl, hk1⟩ := h4
          obtain ⟨j, hj⟩ : ∃ j, (k + 1) / 2 = j := ⟨_, rfl⟩
          have hjm : j < k + 1 := by omega
          have hjI : ((k : Int) + 1) / 2 = (j : Int) := by omega
          obtain ⟨q0, q1, q2, q3, q4⟩ := hL.row.node j (by rw [hL.len]; exact hjm)
          have f3 := hL.row.frozen (j * 5 + 3)
          have hset := fun v => hL.set3 j hjm v hne2
          have hbs := fun v => hbb.setCell (p := ⟨g2, j * 5 + 3, none⟩) hL.from_ (.int .i64 v)
          have H : ∀ v, Drew w (.returned (.tuple #[.slice (some ⟨g2, 0, none⟩) (k + 1) c2, .int .i64 (1 + 2 * (k : Int))])) (w2.setCell ⟨g2, j * 5 + 3, none⟩ (.int .i64 v)) := by
            intro v
            obtain ⟨ys, hy, hny⟩ := hset v
            exact ⟨g2, k + 1, c2, 1 + 2 * k, ys, by simp, hy, by omega, hny, hbs v⟩
          clear hset hbs
          go_wp2
          go_ret2
          exact H _
        · by_cases h5 : r = 4
          · subst h5
            have hk0 : k = 0 := by omega
            subst hk0
            go_wp2
            all_goals
              go_ret2
              exact ⟨g2, 1, c2, 1, _, by simp, hL, by omega, hne2, hbb⟩
          · have h5' : ((r : Int) == 4) = false := by simp; omega
            go_wp2
            all_goals
              go_ret2
              exact ⟨g2, k + 1, c2, 1 + 2 * k, _, by simp, hL, by omega, hne2, hbb⟩

/-- What DrawKids answers. -/
def DrewK (w : World) (e : Ending) (w' : World) : Prop := ∃ (g m c : Nat) (xs : List Nd), e = .returned (.slice (some ⟨g, 0, none⟩) m c) ∧ Lies w' w.heap.size g c m xs ∧ m ≤ 6001 ∧ Near xs ∧ Below w.heap.size w w'

set_option maxHeartbeats 400000 in
theorem drawKids_any (n : Nat) (hn : n ≤ 1048576) (ao : Option Addr) (cap : Nat) (w : World) (hc : Code w ao n) :
    Calls Try.prog 4 #[.slice ao n cap] w fun e w' => DrewK w e w' := by
  go_enter Try.func4, Try.ntmps4
  go_wp2_with fail
  refine (draw_any n hn ao cap w hc).mono ?_
  rintro e w1 ⟨g, m, c, p, xs, rfl, hL, hm, hne, hb⟩
  go_wp2
  go_ret
  exact ⟨g, m, c, xs, rfl, hL, hm, hne, hb⟩

end Go.Proofs.Ythnhphaaecaefaa

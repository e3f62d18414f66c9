import Derived.Test.YtahdmflbdmlfhaaGreatDoorWAF
import Derived.BigQuiet
import Derived.Test.YtahdmflbdmlfhaaGreatDoorWAK
import Derived.Deep.RegionLaw
import Derived.Test.YtahdmflbdmlfhaaGreatDoorWAD
namespace Go.Proofs.YtahdmflbdmlfhaaGreatDoor

open Go.RowKit

/-- A node that may stand in a plain type. -/
def Nd.plainb (n : Nd) : Bool :=
  n.place == 0 &&
    (((n.kind == 60 || n.kind == 61) && n.kids == 0 && decide (1 ≤ n.num) && n.text.size == 0) || (n.kind == 12 && n.num == 0) ||
      (((n.kind == 13 && n.kids == 2) || (n.kind == 14 && n.kids != 1)) && n.num == 0 && n.text.size == 0))

theorem all_false {α : Type} {p : α → Bool} {xs : List α} (k : Nat) (h : k < xs.length) (hf : p xs[k] = false) : xs.all p = false := by
  cases h9 : xs.all p
  · rfl
  · exact absurd (List.all_eq_true.1 h9 _ (List.getElem_mem h)) (by simp [hf])

theorem take_all {α : Type} {p : α → Bool} {xs : List α} (k : Nat) (h : k < xs.length) (ht : p xs[k] = true) (ha : (xs.take k).all p = true) : (xs.take (k + 1)).all p = true := by
  rw [List.take_succ_eq_append_getElem h, List.all_append, ha]
  simp [ht]

set_option maxRecDepth 100000 in
set_option maxHeartbeats 2000000 in
theorem isPlain_any (t : List Nd) (m : Nat) (HM : Hid (t.length = m)) (hm : m ≤ 1048576) (ao : Option Addr) (cap : Nat) (w : World) (hx : Nodes w ao t) :
    Calls Tryz.prog 32 #[.slice ao m cap] w fun e w' => e = .returned (.bool (t.all Nd.plainb)) ∧ Below w.heap.size w w' := by
  go_enter Tryz.func32, Tryz.ntmps32
  go_wp2
  go_loopw [3] (fun i wr => ∃ (k : Nat), k ≤ m ∧ i = .int .i64 k ∧ (t.take k).all Nd.plainb = true ∧ Below w.heap.size w wr) (fun i _ => m - (intOf i).toNat)
  case atStart => exact ⟨0, Nat.zero_le _, rfl, by simp, Below.refl _ _⟩
  case round =>
    obtain ⟨k, hk, rfl, hall, hb⟩ := hrel
    by_cases hlt : k < m
    · have hltx : k < t.length := by have := HM.out; omega
      obtain ⟨⟨kd, nm, tx, ks, pl⟩, hxk⟩ : ∃ x, t[k] = x := ⟨_, rfl⟩
      obtain ⟨b, o, rfl, hcx⟩ := hx.below hb k hltx
      rw [hxk] at hcx
      obtain ⟨c0, c1, c2, c3, c4⟩ := hcx
      simp only at c0 c1 c2 c3 c4
      have hlb : b < wr.heap.size := lt_of_cell c0
      have HF : Hid (Nd.plainb ⟨kd, nm, tx, ks, pl⟩ = false → t.all Nd.plainb = false) := fun h => all_false k hltx (by rw [hxk]; exact h)
      have HT : Hid (Nd.plainb ⟨kd, nm, tx, ks, pl⟩ = true → (t.take (k + 1)).all Nd.plainb = true) := fun h => take_all k hltx (by rw [hxk]; exact h) hall
      clear hx hall hxk
      by_cases hp : pl = 0
      · subst hp
        by_cases h60 : kd = 60 ∨ kd = 61
        · have tk : ((kd : Int) == 60 || (kd : Int) == 61) = true := by simpa using h60
          rcases h60 with rfl | rfl
          all_goals
            by_cases hks : ks = 0
            · subst hks
              by_cases hnm : nm < 1
              · have tn : decide (nm < 1) = true := by simpa using hnm
                go_wp2
                go_ret
                exact ⟨by rw [HF.out (by simp [Nd.plainb]; omega)]; rfl, hb.alloc hb.size _⟩
              · have tn : decide (nm < 1) = false := by simpa using hnm
                by_cases htx : tx.size = 0
                · have tt : decide ((tx.size : Int) > 0) = false := decide_eq_false (by rw [htx]; decide)
                  go_wp2
                  go_roundw
                  case rel => exact ⟨k + 1, by omega, by go_num, HT.out (by simp [Nd.plainb, htx]; omega), hb.alloc hb.size _⟩
                  case measure => simp [intOf]; omega
                · have tt : decide ((tx.size : Int) > 0) = true := by simp; omega
                  go_wp2
                  go_ret
                  exact ⟨by rw [HF.out (by simp [Nd.plainb, htx])]; rfl, hb.alloc hb.size _⟩
            · have ts : ((ks : Int) != 0) = true := by simpa using hks
              go_wp2
              go_ret
              exact ⟨by rw [HF.out (by simp [Nd.plainb, hks])]; rfl, hb.alloc hb.size _⟩
        · have t60 : ((kd : Int) == 60) = false := by simp; omega
          have t61 : ((kd : Int) == 61) = false := by simp; omega
          by_cases h12 : kd = 12
          · subst h12
            by_cases hnm : nm = 0
            · subst hnm
              go_wp2
              go_roundw
              case rel => exact ⟨k + 1, by omega, by go_num, HT.out (by simp [Nd.plainb]), hb.alloc hb.size _⟩
              case measure => simp [intOf]; omega
            · have tn : ((nm : Int) != 0) = true := by simpa using hnm
              go_wp2
              go_ret
              exact ⟨by rw [HF.out (by simp [Nd.plainb, hnm])]; rfl, hb.alloc hb.size _⟩
          · have t12 : ((kd : Int) == 12) = false := by simpa using h12
            by_cases h13 : kd = 13
            · subst h13
              by_cases hks : ks = 2
              · subst hks
                by_cases hnm : nm = 0
                · subst hnm
                  by_cases htx : tx.size = 0
                  · have tt : decide ((tx.size : Int) > 0) = false := decide_eq_false (by rw [htx]; decide)
                    go_wp2
                    go_roundw
                    case rel => exact ⟨k + 1, by omega, by go_num, HT.out (by simp [Nd.plainb, *]), hb.alloc hb.size _⟩
                    case measure => simp [intOf]; omega
                  · have tt : decide ((tx.size : Int) > 0) = true := by simp; omega
                    go_wp2
                    go_ret
                    exact ⟨by rw [HF.out (by simp [Nd.plainb, *])]; rfl, hb.alloc hb.size _⟩
                · have tn : ((nm : Int) != 0) = true := by simpa using hnm
                  go_wp2
                  go_ret
                  exact ⟨by rw [HF.out (by simp [Nd.plainb, *])]; rfl, hb.alloc hb.size _⟩
              · have ts : ((ks : Int) == 2) = false := by simpa using hks
                go_wp2
                go_ret
                exact ⟨by rw [HF.out (by simp [Nd.plainb, hks])]; rfl, hb.alloc hb.size _⟩
            · have t13 : ((kd : Int) == 13) = false := by simpa using h13
              by_cases h14 : kd = 14
              · subst h14
                by_cases hks : ks = 1
                · subst hks
                  go_wp2
                  go_ret
                  exact ⟨by rw [HF.out (by simp [Nd.plainb])]; rfl, hb.alloc hb.size _⟩
                · have ts : ((ks : Int) != 1) = true := by simpa using hks
                  by_cases hnm : nm = 0
                  · subst hnm
                    by_cases htx : tx.size = 0
                    · have tt : decide ((tx.size : Int) > 0) = false := decide_eq_false (by rw [htx]; decide)
                      go_wp2
                      go_roundw
                      case rel => exact ⟨k + 1, by omega, by go_num, HT.out (by simp [Nd.plainb, *]), hb.alloc hb.size _⟩
                      case measure => simp [intOf]; omega
                    · have tt : decide ((tx.size : Int) > 0) = true := by simp; omega
                      go_wp2
                      go_ret
                      exact ⟨by rw [HF.out (by simp [Nd.plainb, *])]; rfl, hb.alloc hb.size _⟩
                  · have tn : ((nm : Int) != 0) = true := by simpa using hnm
                    go_wp2
                    go_ret
                    exact ⟨by rw [HF.out (by simp [Nd.plainb, *])]; rfl, hb.alloc hb.size _⟩
              · have t14 : ((kd : Int) == 14) = false := by simpa using h14
                go_wp2
                go_ret
                exact ⟨by rw [HF.out (by simp [Nd.plainb]; omega)]; rfl, hb.alloc hb.size _⟩
      · have tp : ((pl : Int) != 0) = true := by simpa using hp
        go_wp2
        go_ret
        exact ⟨by rw [HF.out (by simp [Nd.plainb, hp])]; rfl, hb.alloc hb.size _⟩
    · have HA : Hid (t.all Nd.plainb = true) := by
        have h9 := hall
        rw [List.take_of_length_le (by have := HM.out; omega)] at h9
        exact h9
      clear hall hx
      go_wp2
      go_ret
      exact ⟨by rw [HA.out]; rfl, hb⟩

/-- A type of chapter 8. -/
def typeb (t : List Nd) : Bool := decide (t.length ≤ 300) && decide (0 < deepOf t) && t.all Nd.plainb

set_option maxHeartbeats 1000000 in
theorem isType_any (t : List Nd) (m : Nat) (HM : Hid (t.length = m)) (hm : m ≤ 1048576) (ao : Option Addr) (cap : Nat) (w : World) (hx : Nodes w ao t) :
    Calls Tryz.prog 15 #[.slice ao m cap] w fun e w' => e = .returned (.bool (typeb t)) ∧ Below w.heap.size w w' := by
  by_cases h3 : m ≤ 300
  · have t3 : decide ((m : Int) ≤ 300) = true := decide_eq_true (by omega)
    have HV : Hid (typeb t = (decide (0 < deepOf t) && t.all Nd.plainb)) := by
      have h9 : decide (t.length ≤ 300) = true := decide_eq_true (by have := HM.out; omega)
      simp only [typeb, h9, Bool.true_and, Hid]
    go_enter Tryz.func15, Tryz.ntmps15
    go_wp2_with fail
    refine (specGood_any t m HM hm ao cap w hx).mono ?_
    rintro e w1 ⟨rfl, hb1⟩
    cases hg : decide (0 < deepOf t)
    · rw [hg] at HV
      have HW : Hid (typeb t = false) := HV.out
      clear HV hx
      go_wp2
      go_ret
      exact ⟨by rw [HW.out]; rfl, hb1⟩
    · rw [hg] at HV
      have hx1 := hx.below hb1
      go_wp2_with fail
      refine (isPlain_any t m HM hm ao cap w1 hx1).mono ?_
      rintro e w2 ⟨rfl, hb2⟩
      have hb := Below.step hb1 hb2
      have HW : Hid (typeb t = t.all Nd.plainb) := HV.out
      clear HV hx hx1 hb1 hb2
      go_wp2
      go_ret
      exact ⟨by rw [HW.out]; rfl, hb⟩
  · have t3 : decide ((m : Int) ≤ 300) = false := decide_eq_false (by omega)
    have HV : Hid (typeb t = false) := by
      have h9 : decide (t.length ≤ 300) = false := decide_eq_false (by have := HM.out; omega)
      simp only [typeb, h9, Bool.false_and, Hid]
    clear hx
    go_enter Tryz.func15, Tryz.ntmps15
    go_wp2
    go_ret
    exact ⟨by rw [HV.out]; rfl, Below.refl _ _⟩

/-- A slice of int64s of the call's own. -/
def Longs (w : World) (B g cap : Nat) (n : Nat) (xs : List Int) : Prop := xs.length = n ∧ w.ownsRow B 2 1 (.slice (some ⟨g, 0, none⟩) n cap) n (ints xs)

theorem Longs.at {w : World} {B g cap n : Nat} {xs : List Int} (h : Longs w B g cap n xs) (j : Nat) (hj : j < xs.length) : w.cell? ⟨g, j, none⟩ = some (.int .i64 xs[j]) := by
  rw [owns_at h.2 j (by have := h.1; omega)]
  simp [ints, List.getElem?_eq_getElem hj]

theorem Longs.alloc {w : World} {B g cap n : Nat} {xs : List Int} (h : Longs w B g cap n xs) (o : Obj) : Longs (w.alloc o) B g cap n xs := ⟨h.1, h.2.alloc o⟩

theorem Longs.but {S : Nat → Prop} {w w' : World} {B g cap n : Nat} {xs : List Int} (h : Longs w B g cap n xs) (hb : But S w w') (hn : ¬ S g) : Longs w' B g cap n xs := ⟨h.1, owns_but h.2 hb hn⟩

theorem Longs.below {w w' : World} {B g cap n : Nat} {xs : List Int} (h : Longs w B g cap n xs) (hb : Below w.heap.size w w') : Longs w' B g cap n xs := h.but (S := fun _ => False) (But.ofBelow hb) (fun h => h)

theorem Longs.kept {w w' : World} {B g cap n k : Nat} {xs : List Int} (h : Longs w B g cap n xs) (hg : w.grownBy w' (some k)) (hne : g ≠ k) : Longs w' B g cap n xs := ⟨h.1, owns_kept h.2 hg hne⟩

theorem Longs.block {w : World} {B g cap n : Nat} {xs : List Int} (h : Longs w B g cap n xs) : B ≤ g ∧ g < w.heap.size := owns_block h.2

theorem Longs.empty {w : World} {B : Nat} (hB : B ≤ w.heap.size) : Longs (w.alloc (.cells #[] 2)) B w.heap.size 0 0 [] :=
  ⟨rfl, rfl, Or.inr ⟨_, 0, #[], rfl, hB, heap_alloc_new _ _, Nat.le_refl _, by simp [maxLen], rfl, rfl⟩⟩

theorem Longs.push {w : World} {B g cap n m : Nat} {xs : List Int} {x : Int} (h : w.ownsRow B 2 1 (.slice (some ⟨g, 0, none⟩) m cap) m (ints xs ++ [.int .i64 x])) (hn : xs.length = n) (hm : m = n + 1) : Longs w B g cap (n + 1) (xs ++ [x]) := by
  subst hm
  refine ⟨by simp [hn], ?_⟩
  simpa [ints] using h

theorem OwnN.but {S : Nat → Prop} {w w' : World} {B g c l : Nat} {zs : List Nd} (h : OwnN w B g c l zs) (hb : But S w w') (hn : ¬ S g) : OwnN w' B g c l zs := ⟨h.1, owns_but h.2 hb hn⟩

theorem OwnN.kept {w w' : World} {B g c l k : Nat} {zs : List Nd} (h : OwnN w B g c l zs) (hg : w.grownBy w' (some k)) (hne : g ≠ k) : OwnN w' B g c l zs := ⟨h.1, owns_kept h.2 hg hne⟩

theorem OwnN.one {w : World} {B : Nat} (hB : B ≤ w.heap.size) (n : Nd) : OwnN (w.alloc (.cells #[.int .i64 n.kind, .int .i64 n.num, .string n.text, .int .i64 n.kids, .int .i64 n.place] 40)) B w.heap.size 1 1 [n] :=
  ⟨rfl, rfl, Or.inr ⟨_, 1, _, rfl, hB, heap_alloc_new _ _, Nat.le_refl _, by simp [maxLen], rfl, by simp [flat, Nd.row]⟩⟩

/-- The place of a number among those met, or how many there are. -/
def placeIn (met : List Int) (x : Int) : Nat := met.findIdx (· == x)

theorem placeIn_found {met : List Int} {x : Int} {j : Nat} (h : j < met.length) (he : met[j] = x) (hall : ∀ i (h : i < met.length), i < j → met[i] ≠ x) : placeIn met x = j := by
  unfold placeIn
  exact (List.findIdx_eq h).2 ⟨by simp [he], fun i hi => by simpa using hall i (by omega) hi⟩

theorem placeIn_none {met : List Int} {x : Int} (hall : ∀ i (h : i < met.length), met[i] ≠ x) : placeIn met x = met.length := by
  unfold placeIn
  refine List.findIdx_eq_length.2 ?_
  intro y hy
  obtain ⟨i, hi, rfl⟩ := List.getElem_of_mem hy
  simpa using hall i hi

theorem below_drewN (w : World) (n : Nat) : Below w.heap.size w (w.drewN n) := ⟨rfl, rfl, rfl, Nat.le_refl _, fun _ _ => rfl⟩

def flat2 (ms : List (Int × Int)) : List Value := ms.flatMap fun p => [.int .i64 p.1, .int .i64 p.2]

theorem flat2_length (ms : List (Int × Int)) : (flat2 ms).length = ms.length * 2 := by
  induction ms with
  | nil => rfl
  | cons m ms ih => simp only [flat2, List.flatMap_cons, List.length_append, List.length_cons, List.length_nil] at *; omega

theorem flat2_append (a b : List (Int × Int)) : flat2 (a ++ b) = flat2 a ++ flat2 b := by simp [flat2]

theorem flat2_get (ms : List (Int × Int)) (i : Nat) (h : i < ms.length) : (flat2 ms)[i * 2]? = some (.int .i64 ms[i].1) ∧ (flat2 ms)[i * 2 + 1]? = some (.int .i64 ms[i].2) := by
  induction ms generalizing i with
  | nil => simp at h
  | cons m ms ih =>
    cases i with
    | zero => simp [flat2]
    | succ i =>
      have e1 : (i + 1) * 2 = i * 2 + 1 + 1 := by omega
      have h9 := ih i (by simpa using h)
      rw [e1]
      simpa [flat2] using h9

/-- Block g is a row of l8Metas. -/
def MRow (w : World) (g : Nat) (ms : List (Int × Int)) : Prop := OwnT 85 w g (flat2 ms)

theorem MRow.at {w : World} {g : Nat} {ms : List (Int × Int)} (h : MRow w g ms) (i : Nat) (hi : i < ms.length) : w.cell? ⟨g, i * 2, none⟩ = some (.int .i64 ms[i].1) ∧ w.cell? ⟨g, i * 2 + 1, none⟩ = some (.int .i64 ms[i].2) := by
  have hl := flat2_length ms
  obtain ⟨h1, h2⟩ := flat2_get ms i hi
  exact ⟨(OwnT.at h _ (by omega)).trans h1, (OwnT.at h _ (by omega)).trans h2⟩

theorem MRow.below {w w' : World} {g : Nat} {ms : List (Int × Int)} (h : MRow w g ms) (hb : Below w.heap.size w w') : MRow w' g ms := OwnT.below h hb

theorem MRow.lt {w : World} {g : Nat} {ms : List (Int × Int)} (h : MRow w g ms) : g < w.heap.size := OwnT.lt h

theorem MRow.kept {w w' : World} {g k : Nat} {ms : List (Int × Int)} (h : MRow w g ms) (hg : w.grownBy w' (some k)) (hne : g ≠ k) : MRow w' g ms := by
  obtain ⟨cur, rest, hh, hc⟩ := h
  exact ⟨cur, rest, (hg.block g (Array.getElem?_eq_some_iff.1 hh).1 (by simpa using hne)).trans hh, hc⟩

/-- What l8Known answers. -/
def knownIn (ms : List (Int × Int)) (x : Int) : Int := if placeIn (ms.map Prod.fst) x < ms.length then (placeIn (ms.map Prod.fst) x : Int) else -1

set_option maxHeartbeats 1000000 in
theorem known_any (ms : List (Int × Int)) (n : Nat) (HM : Hid (ms.length = n)) (hn : n ≤ 1048576) (x : Int) (g cap : Nat) (w : World) (hr : MRow w g ms) :
    Calls Tryz.prog 33 #[.slice (some ⟨g, 0, none⟩) n cap, .int .i64 x] w fun e w' => e = .returned (.int .i64 (knownIn ms x)) ∧ Below w.heap.size w w' := by
  go_enter Tryz.func33, Tryz.ntmps33
  go_wp2
  go_loopw [5] (fun i wr => ∃ (k : Nat), k ≤ n ∧ i = .int .i64 k ∧ (∀ i (h : i < (ms.map Prod.fst).length), i < k → (ms.map Prod.fst)[i] ≠ x) ∧ Below w.heap.size w wr) (fun i _ => n - (intOf i).toNat)
  case atStart => exact ⟨0, Nat.zero_le _, rfl, fun i _ h => absurd h (by omega), Below.refl _ _⟩
  case round =>
    obtain ⟨k, hk, rfl, hall, hb⟩ := hrel
    by_cases hlt : k < n
    · have hltx : k < ms.length := by have := HM.out; omega
      have hltm : k < (ms.map Prod.fst).length := by simp; exact hltx
      have hrow := hr.below hb
      obtain ⟨c0, _⟩ := hrow.at k hltx
      have hlb := hrow.lt
      by_cases he : ms[k].1 = x
      · have HV : Hid (knownIn ms x = (k : Int)) := by
          have h9 := placeIn_found (x := x) hltm (by simpa using he) hall
          show knownIn ms x = _
          unfold knownIn
          rw [h9, if_pos hltx]
        rw [he] at c0
        have te : ((x : Int) == x) = true := by simp
        clear hall hr hrow he
        go_wp2
        go_ret
        exact ⟨by rw [HV.out]; rfl, hb⟩
      · have te : (ms[k].1 == x) = false := by simpa using he
        have HA : Hid (∀ i (h : i < (ms.map Prod.fst).length), i < k + 1 → (ms.map Prod.fst)[i] ≠ x) := by
          intro i h hi
          by_cases e : i = k
          · subst e; simpa using he
          · exact hall i h (by omega)
        obtain ⟨v, hv⟩ : ∃ v, ms[k].1 = v := ⟨_, rfl⟩
        rw [hv] at c0 te
        clear hall hr hrow he hv
        go_wp2
        go_roundw
        case rel => exact ⟨k + 1, by omega, by go_num, HA.out, hb⟩
        case measure => simp [intOf]; omega
    · have HV : Hid (knownIn ms x = -1) := by
        have h9 := placeIn_none (met := ms.map Prod.fst) (x := x) (fun i h => hall i h (by have := HM.out; simp at h; omega))
        show knownIn ms x = _
        unfold knownIn
        rw [h9, if_neg (by simp)]
      clear hall hr
      go_wp2
      go_ret
      exact ⟨by rw [HV.out]; rfl, hb⟩

/-- A slice of l8Metas of the call's own. -/
def OwnM (w : World) (B g c l : Nat) (ms : List (Int × Int)) : Prop := ms.length = l ∧ w.ownsRow B 85 2 (.slice (some ⟨g, 0, none⟩) l c) l (flat2 ms)

theorem Tryz.infoM : (Tryz.prog.info? 85).map (fun i => (i.zero, i.size, i.bytes)) = some (some (.agg #[.int .i64 0, .int .i64 0]), 2, 16) := by kernel_rfl

theorem OwnM.row {w : World} {B g c l : Nat} {ms : List (Int × Int)} (h : OwnM w B g c l ms) : B ≤ g ∧ MRow w g ms := by
  obtain ⟨hl, ho⟩ := h
  rcases ho.2 with ⟨h', _⟩ | ⟨g2, cap2, cur, he, hb, hh, _, _, _, htake⟩
  · cases h'
  · simp only [Value.slice.injEq, Option.some.injEq, Addr.mk.injEq, and_true, true_and] at he
    obtain ⟨rfl, rfl⟩ := he
    exact ⟨hb, cur, cur.toList.drop (l * 2), hh, by rw [← htake, List.take_append_drop]⟩

theorem OwnM.empty {w : World} {B : Nat} (hB : B ≤ w.heap.size) : OwnM (w.alloc (.cells #[] 85)) B w.heap.size 0 0 [] :=
  ⟨rfl, rfl, Or.inr ⟨_, 0, #[], rfl, hB, heap_alloc_new _ _, Nat.le_refl _, by simp [maxLen], rfl, rfl⟩⟩

theorem OwnM.alloc {w : World} {B g c l : Nat} {ms : List (Int × Int)} (h : OwnM w B g c l ms) (o : Obj) : OwnM (w.alloc o) B g c l ms := ⟨h.1, h.2.alloc o⟩

theorem OwnM.but {S : Nat → Prop} {w w' : World} {B g c l : Nat} {ms : List (Int × Int)} (h : OwnM w B g c l ms) (hb : But S w w') (hn : ¬ S g) : OwnM w' B g c l ms := ⟨h.1, owns_but h.2 hb hn⟩

theorem OwnM.below {w w' : World} {B g c l : Nat} {ms : List (Int × Int)} (h : OwnM w B g c l ms) (hb : Below w.heap.size w w') : OwnM w' B g c l ms := h.but (S := fun _ => False) (But.ofBelow hb) (fun h => h)

theorem OwnM.kept {w w' : World} {B g c l k : Nat} {ms : List (Int × Int)} (h : OwnM w B g c l ms) (hg : w.grownBy w' (some k)) (hne : g ≠ k) : OwnM w' B g c l ms := ⟨h.1, owns_kept h.2 hg hne⟩

theorem OwnM.push {w : World} {B g c l m : Nat} {ms : List (Int × Int)} {x : Int × Int} (h : w.ownsRow B 85 2 (.slice (some ⟨g, 0, none⟩) m c) m (flat2 ms ++ [.int .i64 x.1, .int .i64 x.2])) (hl : ms.length = l) (hm : m = l + 1) : OwnM w B g c (l + 1) (ms ++ [x]) := by
  subst hm
  refine ⟨by simp [hl], ?_⟩
  rw [flat2_append]
  exact h

theorem two_cells (w : World) (a b : Int) : ∀ j u, [Value.int .i64 a, .int .i64 b][j]? = some u → (w.alloc (.cells #[.int .i64 a, .int .i64 b] 85)).cell? (Addr.add ⟨w.heap.size, 0, none⟩ j) = some u := by
  intro j u hj
  have ad : Addr.add ⟨w.heap.size, 0, none⟩ j = ⟨w.heap.size, j, none⟩ := by
    unfold Addr.add
    split
    · simp_all
    · simp
  rw [ad, cell_of_row _ w.heap.size j _ 85 (0, 0) (heap_alloc_new _ _), ← hj]
  simp

theorem two_one (a b : Int) : ∀ u ∈ [Value.int .i64 a, .int .i64 b], u.oneCell' = true := by
  intro u hu
  simp at hu
  rcases hu with rfl | rfl <;> rfl

theorem owns_setOne {w : World} {B e size g c n i : Nat} {xs : List Value} {v : Value} (h : w.ownsRow B e size (.slice (some ⟨g, 0, none⟩) n c) n xs) : (w.setCell ⟨g, i, none⟩ v).ownsRow B e size (.slice (some ⟨g, 0, none⟩) n c) n (xs.set i v) := by
  obtain ⟨hl, ho⟩ := h
  refine ⟨by simp [hl], Or.inr ?_⟩
  rcases ho with ⟨h', _⟩ | ⟨g2, cap2, cur, he, hb, hh, h1, h2, h3, htake⟩
  · cases h'
  · simp only [Value.slice.injEq, Option.some.injEq, Addr.mk.injEq, and_true, true_and] at he
    obtain ⟨rfl, rfl⟩ := he
    exact ⟨_, _, _, rfl, hb, heap_setCell_same _ g i _ e _ hh, h1, h2, by simp [h3], by rw [Array.toList_setIfInBounds, List.take_set, htake]⟩

theorem flat2_set (ms : List (Int × Int)) (j : Nat) (p : Int × Int) : ((flat2 ms).set (j * 2) (.int .i64 p.1)).set (j * 2 + 1) (.int .i64 p.2) = flat2 (ms.set j p) := by
  induction ms generalizing j with
  | nil => simp [flat2]
  | cons m ms ih =>
    cases j with
    | zero => simp [flat2]
    | succ j =>
      have e1 : (j + 1) * 2 = j * 2 + 1 + 1 := by omega
      have h9 := ih j
      rw [e1]
      simp only [flat2, List.flatMap_cons, List.cons_append, List.nil_append, List.set_cons_succ] at h9 ⊢
      rw [h9]

theorem OwnM.put {w : World} {B g c l : Nat} {ms : List (Int × Int)} (h : OwnM w B g c l ms) (j : Nat) (a b : Int) : OwnM ((w.setCell ⟨g, j * 2, none⟩ (.int .i64 a)).setCell ⟨g, j * 2 + 1, none⟩ (.int .i64 b)) B g c l (ms.set j (a, b)) := by
  refine ⟨by simp [h.1], ?_⟩
  have h9 := owns_setOne (v := .int .i64 b) (owns_setOne (v := .int .i64 a) h.2 (i := j * 2)) (i := j * 2 + 1)
  rw [flat2_set ms j (a, b)] at h9
  exact h9

/-- x put into a list whose last comes first: it goes by those that are greater. -/
def insR (x : Int × Int) : List (Int × Int) → List (Int × Int)
  | [] => [x]
  | y :: ys => if x.1 < y.1 then y :: insR x ys else x :: y :: ys

/-- One more in l8Sorted. -/
def insM (out : List (Int × Int)) (x : Int × Int) : List (Int × Int) := (insR x out.reverse).reverse

def sortedM (ms : List (Int × Int)) : List (Int × Int) := ms.foldl insM []

theorem insR_length (x : Int × Int) (l : List (Int × Int)) : (insR x l).length = l.length + 1 := by
  induction l with
  | nil => rfl
  | cons y ys ih => unfold insR; split <;> simp [ih]

theorem insM_length (out : List (Int × Int)) (x : Int × Int) : (insM out x).length = out.length + 1 := by simp [insM, insR_length]

theorem sortedM_take (ms : List (Int × Int)) (k : Nat) (h : k < ms.length) : sortedM (ms.take (k + 1)) = insM (sortedM (ms.take k)) ms[k] := by
  unfold sortedM
  rw [List.take_succ_eq_append_getElem h, List.foldl_append]
  rfl

theorem sortedM_length (ms : List (Int × Int)) : (sortedM ms).length = ms.length := by
  have : ∀ out, (ms.foldl insM out).length = out.length + ms.length := by
    induction ms with
    | nil => simp
    | cons m ms ih => intro out; rw [List.foldl_cons, ih, insM_length]; simp; omega
  have h9 := this []
  unfold sortedM
  simpa using h9

/-- The step by which one goes by another. -/
theorem insM_step (A : List (Int × Int)) (y x : Int × Int) (B : List (Int × Int)) (h : x.1 < y.1) : (insR x (A ++ [y]).reverse).reverse ++ B = (insR x A.reverse).reverse ++ (y :: B) := by
  rw [List.reverse_append]
  simp only [List.reverse_cons, List.reverse_nil, List.nil_append, List.cons_append]
  rw [insR, if_pos h]
  simp

theorem insM_stop (A : List (Int × Int)) (x : Int × Int) (h : ∀ y, A.getLast? = some y → ¬ x.1 < y.1) : (insR x A.reverse).reverse = A ++ [x] := by
  rcases List.eq_nil_or_concat A with rfl | ⟨A', y, rfl⟩
  · rfl
  · rw [List.concat_eq_append, List.reverse_append]
    simp only [List.reverse_cons, List.reverse_nil, List.nil_append, List.cons_append]
    rw [insR, if_neg (h y (by simp))]
    simp

theorem swap_list (A B : List (Int × Int)) (x y : Int × Int) : (((A ++ [y]) ++ x :: B).set (A.length + 1) y).set A.length x = A ++ x :: (y :: B) := by
  induction A with
  | nil => rfl
  | cons a A ih => simp

set_option maxRecDepth 100000 in
set_option maxHeartbeats 1000000 in
theorem sorted_any (ms : List (Int × Int)) (n : Nat) (HM : Hid (ms.length = n)) (hn : n ≤ 1048576) (g0 cap : Nat) (w : World) (hr : MRow w g0 ms) :
    Calls Tryz.prog 37 #[.slice (some ⟨g0, 0, none⟩) n cap] w fun e w' => ∃ g c, e = .returned (.slice (some ⟨g, 0, none⟩) n c) ∧ w.heap.size ≤ g ∧ MRow w' g (sortedM ms) ∧ Below w.heap.size w w' := by
  obtain ⟨i0, hi, hz0, hz1, hz2⟩ := info_parts Tryz.infoM
  go_enter Tryz.func37, Tryz.ntmps37
  go_wp2
  go_loopw [3, 4] (fun v p wr => ∃ (k g c : Nat), k ≤ n ∧ p = .int .i64 k ∧ v = .slice (some ⟨g, 0, none⟩) k c ∧ OwnM wr w.heap.size g c k (sortedM (ms.take k)) ∧ Below w.heap.size w wr) (fun _ p _ => n - (intOf p).toNat)
  case atStart => exact ⟨0, w.heap.size, 0, Nat.zero_le _, rfl, rfl, OwnM.empty (Nat.le_refl _), (Below.refl _ w).alloc (Nat.le_refl _) _⟩
  case round =>
    obtain ⟨k, g, c, hk, rfl, rfl, hown, hb⟩ := hrel
    by_cases hlt : k < n
    · have hltx : k < ms.length := by have := HM.out; omega
      have hrow := hr.below hb
      obtain ⟨c0, c1⟩ := hrow.at k hltx
      obtain ⟨⟨xa, xb⟩, hx⟩ : ∃ x, ms[k] = x := ⟨_, rfl⟩
      rw [hx] at c0 c1
      simp only at c0 c1
      have hlb := hrow.lt
      have hob := owns_block hown.2
      have HS : Hid (sortedM (ms.take (k + 1)) = insM (sortedM (ms.take k)) (xa, xb)) := by
        show sortedM (ms.take (k + 1)) = _
        rw [sortedM_take ms k hltx, hx]
      clear hr hrow hx
      have hl9 := hown.1
      go_wp2_with (at_builtin; refine wpList_append2 _ rfl (.tmp 14) (.tmp 19) 51 rfl w.heap.size 85 i0 _ 2 16 Tryz.underlying51 hi hz0 hz1 hz2 rfl (by decide) g k c _ rfl (hown.alloc _).2 ⟨_, 0, none⟩ 1 1 [.int .i64 xa, .int .i64 xb] rfl rfl (two_cells _ xa xb) (two_one _ _) ?a3 ?a4 ?a5 ?_)
      case a3 => unfold maxLen; omega
      case a4 => omega
      case a5 => have := hb.size; simp; omega
      intro g2 c2 w2 hown2 hgrow2 hwh
      have hO := OwnM.push (x := (xa, xb)) hown2 hown.1 rfl
      have hbb : Below w.heap.size w w2 := (hb.alloc hb.size _).grown hgrow2 (by have := hb.size; simp; omega) (fun q hq => by cases hq; exact hob.1)
      generalize sortedM (ms.take k) = out at *
      clear hown2 hgrow2 hwh hown hb c0 c1 hob hlb
      go_wp2
      go_loopw [5] (fun q wq => ∃ (j : Nat) (A B : List (Int × Int)), q = .int .i64 j ∧ A.length = j ∧ j ≤ k ∧ OwnM wq w.heap.size g2 c2 (k + 1) (A ++ (xa, xb) :: B) ∧ (insR (xa, xb) A.reverse).reverse ++ B = insM out (xa, xb) ∧ Below w.heap.size w wq) (fun q _ => (intOf q).toNat)
      case atStart => exact ⟨k, out, [], by go_num, hl9, Nat.le_refl _, hO, by simp [insM], hbb⟩
      case round =>
        clear hO hbb hl9
        obtain ⟨j, A, B, rfl, hA, hjk, hown, hins, hb⟩ := hrel
        have hrow := hown.row.2
        have hob := owns_block hown.2
        have hln : A.length + (B.length + 1) = k + 1 := by have h9 := hown.1; simpa using h9
        obtain ⟨d0, d1⟩ := hrow.at j (by simp; omega)
        have hxe : (A ++ (xa, xb) :: B)[j]'(by simp; omega) = (xa, xb) := by simp [← hA]
        rw [hxe] at d0 d1
        simp only at d0 d1
        have hfin : OwnM wr w.heap.size g2 c2 (k + 1) (A ++ (xa, xb) :: B) := hown
        by_cases hj0 : 0 < j
        · obtain ⟨A', y, rfl⟩ : ∃ A' y, A = A' ++ [y] := by
            rcases List.eq_nil_or_concat A with rfl | ⟨A', y, rfl⟩
            · simp at hA; omega
            · exact ⟨A', y, by simp⟩
          obtain ⟨ya, yb⟩ := y
          have hA' : A'.length = j - 1 := by simp at hA; omega
          obtain ⟨e0, e1⟩ := hrow.at (j - 1) (by simp; omega)
          have hye : ((A' ++ [(ya, yb)]) ++ (xa, xb) :: B)[j - 1]'(by simp; omega) = (ya, yb) := by
            simp [← hA']
          rw [hye] at e0 e1
          simp only at e0 e1
          by_cases hxy : xa < ya
          · have hst := insM_step A' (ya, yb) (xa, xb) B hxy
            rw [hins] at hst
            have tlt : decide (xa < ya) = true := decide_eq_true hxy
            clear hins hrow hfin hxe hye
            go_wp2_with fail
            go_quiet (fail)
            have hdr := below_drewN wr nq
            have d0' := (hdr.cell (p := ⟨g2, j * 2, none⟩) hob.2).trans d0
            have d1' := (hdr.cell (p := ⟨g2, j * 2 + 1, none⟩) hob.2).trans d1
            have e0' := (hdr.cell (p := ⟨g2, (j - 1) * 2, none⟩) hob.2).trans e0
            have e1' := (hdr.cell (p := ⟨g2, (j - 1) * 2 + 1, none⟩) hob.2).trans e1
            have hown' := hown.below hdr
            have hb' := Below.step hb hdr
            have hob' := owns_block hown'.2
            clear hdr d0 d1 e0 e1 hown hb hob
            generalize wr.drewN nq = W2 at *
            have f0 := OwnT.frozen hown'.row.2 (j * 2)
            have f1 := OwnT.frozen hown'.row.2 (j * 2 + 1)
            have f2 := OwnT.frozen hown'.row.2 ((j - 1) * 2)
            have f3 := OwnT.frozen hown'.row.2 ((j - 1) * 2 + 1)
            have HO : Hid (OwnM (((((W2.setCell ⟨g2, j * 2, none⟩ (.int .i64 ya)).setCell ⟨g2, j * 2 + 1, none⟩ (.int .i64 yb)).setCell ⟨g2, (j - 1) * 2, none⟩ (.int .i64 xa)).setCell ⟨g2, (j - 1) * 2 + 1, none⟩ (.int .i64 xb)).alloc (.cells #[.int .i64 xa, .int .i64 xb] 85)) w.heap.size g2 c2 (k + 1) (A' ++ (xa, xb) :: ((ya, yb) :: B))) := by
              have h9 := ((hown'.put j ya yb).put (j - 1) xa xb).alloc (.cells #[.int .i64 xa, .int .i64 xb] 85)
              have e9 : (((A' ++ [(ya, yb)]) ++ (xa, xb) :: B).set j (ya, yb)).set (j - 1) (xa, xb) = A' ++ (xa, xb) :: ((ya, yb) :: B) := by
                have ej : j = A'.length + 1 := by omega
                rw [ej]
                exact swap_list A' B (xa, xb) (ya, yb)
              rw [e9] at h9
              exact h9
            have HB : Hid (Below w.heap.size w (((((W2.setCell ⟨g2, j * 2, none⟩ (.int .i64 ya)).setCell ⟨g2, j * 2 + 1, none⟩ (.int .i64 yb)).setCell ⟨g2, (j - 1) * 2, none⟩ (.int .i64 xa)).setCell ⟨g2, (j - 1) * 2 + 1, none⟩ (.int .i64 xb)).alloc (.cells #[.int .i64 xa, .int .i64 xb] 85))) := by
              have b4 : But (· = g2) W2 ((((W2.setCell ⟨g2, j * 2, none⟩ (.int .i64 ya)).setCell ⟨g2, j * 2 + 1, none⟩ (.int .i64 yb)).setCell ⟨g2, (j - 1) * 2, none⟩ (.int .i64 xa)).setCell ⟨g2, (j - 1) * 2 + 1, none⟩ (.int .i64 xb)) := ((((But.refl (· = g2) W2).setCell (p := ⟨g2, j * 2, none⟩) rfl _).setCell (p := ⟨g2, j * 2 + 1, none⟩) rfl _).setCell (p := ⟨g2, (j - 1) * 2, none⟩) rfl _).setCell (p := ⟨g2, (j - 1) * 2 + 1, none⟩) rfl _
              have h9 := hb'.trans (b4.below hb'.size (fun q hq => by omega))
              exact h9.alloc h9.size _
            have HI : Hid ((insR (xa, xb) A'.reverse).reverse ++ ((ya, yb) :: B) = insM out (xa, xb)) := hst.symm
            clear hst
            go_wp2
            go_roundw
            case rel => exact ⟨j - 1, A', (ya, yb) :: B, by go_num, hA', by omega, HO.out, HI.out, HB.out⟩
            case measure => simp [intOf]; omega
          · have tlt : decide (xa < ya) = false := decide_eq_false hxy
            have HE : Hid (A' ++ [(ya, yb)] ++ (xa, xb) :: B = insM out (xa, xb)) := by
              show A' ++ [(ya, yb)] ++ (xa, xb) :: B = _
              rw [← hins, insM_stop (A' ++ [(ya, yb)]) (xa, xb) (by intro y hy; simp at hy; subst hy; exact hxy)]
              simp
            clear hins hrow hxe hye hown
            go_wp2_with fail
            go_quiet (fail)
            have hdr := below_drewN wr nq
            have hfin' := hfin.below hdr
            have hb' := Below.step hb hdr
            rw [HE.out, ← HS.out] at hfin'
            clear hdr d0 d1 e0 e1 hfin hb
            generalize wr.drewN nq = W2 at *
            go_wp2
            go_roundw
            case rel => exact ⟨k + 1, g2, c2, by omega, by go_num, rfl, hfin', hb'⟩
            case measure => simp [intOf]; omega
        · have hA0 : A = [] := List.eq_nil_of_length_eq_zero (by omega)
          subst hA0
          have HE : Hid ([] ++ (xa, xb) :: B = insM out (xa, xb)) := by
            show [] ++ (xa, xb) :: B = _
            rw [← hins]
            rfl
          have tj : decide ((j : Int) > 0) = false := decide_eq_false (by omega)
          clear hins hrow hxe hown
          go_wp2_with fail
          go_quiet (fail)
          have hdr := below_drewN wr nq
          have hfin' := hfin.below hdr
          have hb' := Below.step hb hdr
          rw [HE.out, ← HS.out] at hfin'
          clear hdr d0 d1 hfin hb
          generalize wr.drewN nq = W2 at *
          go_wp2
          go_roundw
          case rel => exact ⟨k + 1, g2, c2, by omega, by go_num, rfl, hfin', hb'⟩
          case measure => simp [intOf]; omega
    · have hke : k = n := by omega
      subst hke
      rw [List.take_of_length_le (by have := HM.out; omega)] at hown
      obtain ⟨hg, hrw⟩ := hown.row
      clear hr hown
      go_wp2
      go_ret
      exact ⟨_, _, rfl, hg, hrw, hb⟩

theorem Longs.row {w : World} {B g c l : Nat} {xs : List Int} (h : Longs w B g c l xs) : B ≤ g ∧ LRow w g xs := by
  obtain ⟨hl, ho⟩ := h
  rcases ho.2 with ⟨h', _⟩ | ⟨g2, cap2, cur, he, hb, hh, _, _, _, htake⟩
  · cases h'
  · simp only [Value.slice.injEq, Option.some.injEq, Addr.mk.injEq, and_true, true_and] at he
    obtain ⟨rfl, rfl⟩ := he
    exact ⟨hb, cur, cur.toList.drop (l * 1), hh, by rw [← htake, List.take_append_drop]⟩



end Go.Proofs.YtahdmflbdmlfhaaGreatDoor

import Derived.Test.YtljdcaoibnikjaaWAO
import Derived.Test.YtljdcaoibnikjaaIDeep
import Derived.Lib.Strings
namespace Go.Proofs.Ytljdcaoibnikjaa

open Go.RowKit

theorem text_empty (tx : ByteArray) : tx.toList.isEmpty = (tx.size == 0) := by
  rw [Lib.toList_data]
  cases h : tx.data.toList with
  | nil =>
    have h9 : tx.data = #[] := by simpa using h
    simp [ByteArray.size, h9]
  | cons a l =>
    have h9 : tx.data.size = l.length + 1 := by rw [← Array.length_toList, h]; rfl
    simp [ByteArray.size, h9]

set_option maxHeartbeats 1000000 in
theorem isBare_any (x : Nd) (w : World) :
    Calls Try.prog 67 #[.agg #[.int .i64 x.kind, .int .i64 x.num, .string x.text, .int .i64 x.kids, .int .i64 x.place]] w fun e w' =>
      e = .returned (.bool (x.num == 0 && x.text.size == 0)) ∧ Below w.heap.size w w' := by
  obtain ⟨kd, nm, tx, ks, pl⟩ := x
  simp only
  have ht := text_empty tx
  by_cases hn : nm = 0
  · subst hn
    go_enter Try.func67, Try.ntmps67
    go_wp2
    go_ret
    exact ⟨by rw [← ht]; rfl, (Below.refl _ _).alloc (Nat.le_refl _) _⟩
  · have t1 : (nm == 0) = false := by simpa using hn
    rw [t1]
    go_enter Try.func67, Try.ntmps67
    go_wp2
    go_ret
    exact ⟨rfl, (Below.refl _ _).alloc (Nat.le_refl _) _⟩

set_option maxHeartbeats 1000000 in
theorem iIsPlain_any (x : Nd) (w : World) :
    Calls Try.prog 48 #[.agg #[.int .i64 x.kind, .int .i64 x.num, .string x.text, .int .i64 x.kids, .int .i64 x.place]] w fun e w' =>
      e = .returned (.bool x.plainb) ∧ Below w.heap.size w w' := by
  obtain ⟨kd, nm, tx, ks, pl⟩ := x
  have hb0 : Below w.heap.size w (w.alloc (Obj.cells #[.int .i64 kd, .int .i64 nm, .string tx, .int .i64 ks, .int .i64 pl] 53)) := (Below.refl _ _).alloc (Nat.le_refl _) _
  have ht := text_empty tx
  by_cases hp : pl = 0
  · subst hp
    by_cases h12 : kd = 12
    · subst h12
      go_enter Try.func48, Try.ntmps48
      go_wp2
      go_ret
      exact ⟨by simp [Nd.plainb], hb0⟩
    · have t12 : ((kd : Int) == 12) = false := by simpa using h12
      by_cases h13 : kd = 13
      · subst h13
        have HV : Hid (Nd.plainb ⟨13, nm, tx, ks, 0⟩ = ((nm == 0 && tx.size == 0) && ks == 2)) := by
          simp only [Hid, Nd.plainb, bne]
          cases ks == 2 <;> cases ks == 1 <;> cases nm == 0 <;> cases tx.size == 0 <;> simp
        obtain ⟨z, hz⟩ : ∃ z, (nm == 0 && tx.size == 0) = z := ⟨_, rfl⟩
        have HB := isBare_any ⟨13, nm, tx, ks, 0⟩
        simp only [hz] at HB HV
        clear hz ht
        go_enter Try.func48, Try.ntmps48
        go_wp2_with fail
        refine (HB _).mono ?_
        rintro e w1 ⟨rfl, hb1⟩
        have hblk : w1.heap[w.heap.size]? = some (.cells #[.int .i64 13, .int .i64 nm, .string tx, .int .i64 ks, .int .i64 0] 53 (0, 0)) := (hb1.block _ (by simp)).trans (heap_alloc_new _ _)
        have q3 : w1.cell? ⟨w.heap.size, 3, none⟩ = some (.int .i64 ks) := by rw [cell_of_row _ _ _ _ _ _ hblk]; rfl
        have hb2 := Below.step hb0 hb1
        clear HB hb0 hb1 hblk
        cases z
        · go_wp2
          go_ret
          exact ⟨by rw [HV.out]; rfl, hb2⟩
        · go_wp2
          go_ret
          exact ⟨by rw [HV.out]; rfl, hb2⟩
      · have t13 : ((kd : Int) == 13) = false := by simpa using h13
        by_cases h14 : kd = 14
        · subst h14
          have HV : Hid (Nd.plainb ⟨14, nm, tx, ks, 0⟩ = ((nm == 0 && tx.size == 0) && ks != 1)) := by
            simp only [Hid, Nd.plainb, bne]
            cases ks == 2 <;> cases ks == 1 <;> cases nm == 0 <;> cases tx.size == 0 <;> simp
          obtain ⟨z, hz⟩ : ∃ z, (nm == 0 && tx.size == 0) = z := ⟨_, rfl⟩
          have HB := isBare_any ⟨14, nm, tx, ks, 0⟩
          simp only [hz] at HB HV
          clear hz ht
          go_enter Try.func48, Try.ntmps48
          go_wp2_with fail
          refine (HB _).mono ?_
          rintro e w1 ⟨rfl, hb1⟩
          have hblk : w1.heap[w.heap.size]? = some (.cells #[.int .i64 14, .int .i64 nm, .string tx, .int .i64 ks, .int .i64 0] 53 (0, 0)) := (hb1.block _ (by simp)).trans (heap_alloc_new _ _)
          have q3 : w1.cell? ⟨w.heap.size, 3, none⟩ = some (.int .i64 ks) := by rw [cell_of_row _ _ _ _ _ _ hblk]; rfl
          have hb2 := Below.step hb0 hb1
          clear HB hb0 hb1 hblk
          cases z
          · go_wp2
            go_ret
            exact ⟨by rw [HV.out]; rfl, hb2⟩
          · go_wp2
            go_ret
            exact ⟨by rw [HV.out]; rfl, hb2⟩
        · have t14 : ((kd : Int) == 14) = false := by simpa using h14
          by_cases h60 : kd = 60 ∨ kd = 61
          · have HV : Hid (Nd.plainb ⟨kd, nm, tx, ks, 0⟩ = ((decide (nm > 0) && tx.size == 0) && ks == 0)) := by
              have h9 : (kd == 60 || kd == 61) = true := by simpa using h60
              have h8 : decide (1 ≤ nm) = decide (nm > 0) := by rw [decide_eq_decide]; omega
              simp only [Hid, Nd.plainb, h9, t12, t13, t14, h8]
              cases ks == 0 <;> cases decide (nm > 0) <;> cases tx.size == 0 <;> simp
            rw [← ht] at HV
            clear ht
            by_cases hn : nm > 0
            · have tn : decide (nm > 0) = true := decide_eq_true hn
              rw [tn] at HV
              cases he : tx.toList.isEmpty
              · rw [he] at HV
                have HW : Hid (Nd.plainb ⟨kd, nm, tx, ks, 0⟩ = false) := HV.out
                clear HV
                rcases h60 with rfl | rfl
                all_goals
                  go_enter Try.func48, Try.ntmps48
                  go_wp2
                  go_ret
                  exact ⟨by rw [HW.out]; rfl, hb0⟩
              · rw [he] at HV
                rcases h60 with rfl | rfl
                all_goals
                  go_enter Try.func48, Try.ntmps48
                  go_wp2
                  go_ret
                  exact ⟨by rw [HV.out]; rfl, hb0⟩
            · have tn : decide (nm > 0) = false := decide_eq_false hn
              rw [tn] at HV
              have HW : Hid (Nd.plainb ⟨kd, nm, tx, ks, 0⟩ = false) := HV.out
              clear HV
              rcases h60 with rfl | rfl
              all_goals
                go_enter Try.func48, Try.ntmps48
                go_wp2
                go_ret
                exact ⟨by rw [HW.out]; rfl, hb0⟩
          · have t60 : ((kd : Int) == 60) = false := by simp; omega
            have t61 : ((kd : Int) == 61) = false := by simp; omega
            go_enter Try.func48, Try.ntmps48
            go_wp2
            go_ret
            exact ⟨by simp [Nd.plainb, t12, t13, t14, t60, t61], hb0⟩
  · have tp : ((pl : Int) != 0) = true := by simpa using hp
    go_enter Try.func48, Try.ntmps48
    go_wp2
    go_ret
    exact ⟨by simp [Nd.plainb, hp], hb0⟩

set_option maxHeartbeats 1000000 in
theorem unfit_any (x : Nd) (w : World) :
    Calls Try.prog 47 #[.agg #[.int .i64 x.kind, .int .i64 x.num, .string x.text, .int .i64 x.kids, .int .i64 x.place]] w fun e w' =>
      e = .returned (.bool (!x.plainb)) ∧ Below w.heap.size w w' := by
  have HP := iIsPlain_any x
  obtain ⟨p, hp⟩ : ∃ p, x.plainb = p := ⟨_, rfl⟩
  rw [hp] at HP ⊢
  clear hp
  obtain ⟨kd, nm, tx, ks, pl⟩ := x
  have hb0 : Below w.heap.size w (w.alloc (Obj.cells #[.int .i64 kd, .int .i64 nm, .string tx, .int .i64 ks, .int .i64 pl] 53)) := (Below.refl _ _).alloc (Nat.le_refl _) _
  simp only at HP
  go_enter Try.func47, Try.ntmps47
  go_wp2_with fail
  refine (HP _).mono ?_
  rintro e w1 ⟨rfl, hb1⟩
  have hb2 := Below.step hb0 hb1
  clear HP hb0 hb1
  go_wp2
  go_ret
  exact ⟨rfl, hb2⟩

theorem any_true {α : Type} {p : α → Bool} {xs : List α} (k : Nat) (h : k < xs.length) (hf : p xs[k] = true) : xs.any p = true :=
  List.any_eq_true.2 ⟨_, List.getElem_mem h, hf⟩

theorem takeL_any {α : Type} {p : α → Bool} {xs : List α} (k : Nat) (h : k < xs.length) (ht : p xs[k] = false) (ha : (xs.take k).any p = false) : (xs.take (k + 1)).any p = false := by
  rw [List.take_succ_eq_append_getElem h, List.any_append, ha]
  simp [ht]

set_option maxHeartbeats 2000000 in
theorem indexFunc_unfit (xs : List Nd) (n : Nat) (HX : Hid (xs.length = n)) (ao : Option Addr) (cap : Nat) (w : World) (hx : Nodes w ao xs) (hlx : n ≤ 1048576) :
    Calls Try.prog 69 #[.slice ao n cap, .func (.func 47) #[] #[]] w fun e w' =>
      (∃ r : Int, e = .returned (.int .i64 r) ∧ decide (r ≥ 0) = xs.any (fun n => !n.plainb)) ∧ Below w.heap.size w w' := by
  go_enter Try.func69, Try.ntmps69
  go_wp2
  go_loopw [8] (fun i wr => ∃ (k : Nat), k ≤ n ∧ i = .int .i64 k ∧ (xs.take k).any (fun n => !n.plainb) = false ∧ Below w.heap.size w wr) (fun i _ => n - (intOf i).toNat)
  case atStart => exact ⟨0, Nat.zero_le _, rfl, by simp, Below.refl _ _⟩
  case round =>
    obtain ⟨k, hk, rfl, hall, hb⟩ := hrel
    by_cases hlt : k < n
    · have hltx : k < xs.length := by have := HX.out; omega
      obtain ⟨x, hxk⟩ : ∃ x, xs[k] = x := ⟨_, rfl⟩
      obtain ⟨b, o, rfl, hcx⟩ := hx.below hb k hltx
      rw [hxk] at hcx
      obtain ⟨c0, c1, c2, c3, c4⟩ := hcx
      have hlb : b < wr.heap.size := lt_of_cell c0
      have HXK : Hid (xs[k] = x) := hxk
      clear hx hxk
      cases hq : (!x.plainb)
      · have HA : Hid ((xs.take (k + 1)).any (fun n => !n.plainb) = false) := takeL_any k hltx (by rw [HXK.out]; exact hq) hall
        clear hall
        go_wp2_with fail
        refine (unfit_any x _).mono ?_
        rintro e w1 ⟨rfl, hb1⟩
        rw [hq]
        have hbb := Below.step hb hb1
        clear hb hb1 c0 c1 c2 c3 c4
        go_wp2
        go_roundw
        case rel => exact ⟨k + 1, by omega, by go_num, HA.out, hbb⟩
        case measure => simp [intOf]; omega
      · have HA : Hid (xs.any (fun n => !n.plainb) = true) := any_true k hltx (by rw [HXK.out]; exact hq)
        clear hall
        go_wp2_with fail
        refine (unfit_any x _).mono ?_
        rintro e w1 ⟨rfl, hb1⟩
        rw [hq]
        have hbb := Below.step hb hb1
        clear hb hb1 c0 c1 c2 c3 c4
        go_wp2
        go_ret
        exact ⟨⟨(k : Int), rfl, by rw [HA.out]; simp⟩, hbb⟩
    · have HA : Hid (xs.any (fun n => !n.plainb) = false) := by
        have h9 := hall
        rw [List.take_of_length_le (by have := HX.out; omega)] at h9
        exact h9
      clear hall hx
      go_wp2
      go_ret
      exact ⟨⟨-1, rfl, by rw [HA.out]; rfl⟩, hb⟩

set_option maxHeartbeats 400000 in
theorem containsFunc_unfit (xs : List Nd) (n : Nat) (HX : Hid (xs.length = n)) (ao : Option Addr) (cap : Nat) (w : World) (hx : Nodes w ao xs) (hlx : n ≤ 1048576) :
    Calls Try.prog 50 #[.slice ao n cap, .func (.func 47) #[] #[]] w fun e w' =>
      e = .returned (.bool (xs.any (fun n => !n.plainb))) ∧ Below w.heap.size w w' := by
  go_enter Try.func50, Try.ntmps50
  go_wp2_with fail
  refine (indexFunc_unfit xs n HX ao cap w hx hlx).mono ?_
  rintro e w1 ⟨⟨r, rfl, hr⟩, hb⟩
  have HR : Hid (decide (r ≥ 0) = xs.any (fun n => !n.plainb)) := hr
  clear hr hx
  go_wp2
  go_ret
  exact ⟨by rw [← HR.out]; rfl, hb⟩

theorem unfit_none (xs : List Nd) : xs.all Nd.plainb = !xs.any (fun n => !n.plainb) := by
  induction xs with
  | nil => rfl
  | cons x xs ih => simp only [List.all_cons, List.any_cons, Bool.not_or, ← ih, Bool.not_not]

set_option maxHeartbeats 1000000 in
theorem iIsType_any (t : List Nd) (m : Nat) (HM : Hid (t.length = m)) (hm : m ≤ 1048576) (ao : Option Addr) (cap : Nat) (w : World) (hx : Nodes w ao t) :
    Calls Try.prog 26 #[.slice ao m cap] w fun e w' => e = .returned (.bool (typeb t)) ∧ Below w.heap.size w w' := by
  obtain ⟨d, hd⟩ : ∃ d, decide (0 < deepOf t) = d := ⟨_, rfl⟩
  have HV : Hid (typeb t = (decide ((m : Int) ≤ 300) && d && !t.any (fun n => !n.plainb))) := by
    have h9 : decide (t.length ≤ 300) = decide ((m : Int) ≤ 300) := by rw [decide_eq_decide]; have := HM.out; omega
    simp only [Hid, typeb, hd, h9, unfit_none]
  have HG := implGood_any t m HM hm ao cap w hx
  rw [hd] at HG
  clear hd
  by_cases h3 : m ≤ 300
  · have t3 : decide ((m : Int) ≤ 300) = true := decide_eq_true (by omega)
    rw [t3] at HV
    go_enter Try.func26, Try.ntmps26
    go_wp2_with fail
    refine HG.mono ?_
    rintro e w1 ⟨rfl, hb1⟩
    have HC := containsFunc_unfit t m HM ao cap w1 (hx.below hb1) hm
    clear HG hx
    cases d
    · go_wp2
      go_ret
      exact ⟨by rw [HV.out]; rfl, hb1⟩
    · go_wp2_with fail
      refine HC.mono ?_
      rintro e w2 ⟨rfl, hb2⟩
      have hb := Below.step hb1 hb2
      clear HC
      go_wp2
      go_ret
      exact ⟨by rw [HV.out]; rfl, hb⟩
  · have t3 : decide ((m : Int) ≤ 300) = false := decide_eq_false (by omega)
    rw [t3] at HV
    clear HG hx
    go_enter Try.func26, Try.ntmps26
    go_wp2
    go_ret
    exact ⟨by rw [HV.out]; rfl, Below.refl _ _⟩

end Go.Proofs.Ytljdcaoibnikjaa

import Derived.Test.YtahdmflbdmlfhaaGreatDoorWAL
import Derived.Test.YtahdmflbdmlfhaaGreatDoorWBB
import Derived.Lib.Strings
import Derived.Test.YtahdmflbdmlfhaaGreatDoorWAF
import Derived.Test.YtahdmflbdmlfhaaGreatDoorWBA
import Derived.Test.YtahdmflbdmlfhaaGreatDoorWAD
import Derived.Maps.OwnSet
import Derived.Maps.OwnOps
import Derived.Test.YtahdmflbdmlfhaaGreatDoorWAM
import Derived.Deep.Slices
import Derived.Maps.OwnIn
namespace Go.Proofs.YtahdmflbdmlfhaaGreatDoor

open Go.RowKit

theorem text_empty (tx : ByteArray) : tx.toList.isEmpty = (tx.size == 0) := by
  rw [Lib.toList_data]
  cases h : tx.data.toList with
  | nil =>
    have h9 : tx.data = #[] := by simpa using h
    simp [ByteArray.size, h9]
  | cons a l =>
    have h9 : tx.data.size = l.length + 1 := by rw [← Array.length_toList, h]; rfl
    simp [ByteArray.size, h9]

set_option maxHeartbeats 1000000 in
theorem isBare_any (x : Nd) (w : World) :
    Calls Tryz.prog 79 #[.agg #[.int .i64 x.kind, .int .i64 x.num, .string x.text, .int .i64 x.kids, .int .i64 x.place]] w fun e w' =>
      e = .returned (.bool (x.num == 0 && x.text.size == 0)) ∧ Below w.heap.size w w' := by
  obtain ⟨kd, nm, tx, ks, pl⟩ := x
  simp only
  have ht := text_empty tx
  by_cases hn : nm = 0
  · subst hn
    go_enter Tryz.func79, Tryz.ntmps79
    go_wp2
    go_ret
    exact ⟨by rw [← ht]; rfl, (Below.refl _ _).alloc (Nat.le_refl _) _⟩
  · have t1 : (nm == 0) = false := by simpa using hn
    rw [t1]
    go_enter Tryz.func79, Tryz.ntmps79
    go_wp2
    go_ret
    exact ⟨rfl, (Below.refl _ _).alloc (Nat.le_refl _) _⟩

set_option maxHeartbeats 1000000 in
theorem iIsPlain_any (x : Nd) (w : World) :
    Calls Tryz.prog 54 #[.agg #[.int .i64 x.kind, .int .i64 x.num, .string x.text, .int .i64 x.kids, .int .i64 x.place]] w fun e w' =>
      e = .returned (.bool x.plainb) ∧ Below w.heap.size w w' := by
  obtain ⟨kd, nm, tx, ks, pl⟩ := x
  have hb0 : Below w.heap.size w (w.alloc (Obj.cells #[.int .i64 kd, .int .i64 nm, .string tx, .int .i64 ks, .int .i64 pl] 40)) := (Below.refl _ _).alloc (Nat.le_refl _) _
  have ht := text_empty tx
  by_cases hp : pl = 0
  · subst hp
    by_cases h12 : kd = 12
    · subst h12
      go_enter Tryz.func54, Tryz.ntmps54
      go_wp2
      go_ret
      exact ⟨by simp [Nd.plainb], hb0⟩
    · have t12 : ((kd : Int) == 12) = false := by simpa using h12
      by_cases h13 : kd = 13
      · subst h13
        have HV : Hid (Nd.plainb ⟨13, nm, tx, ks, 0⟩ = ((nm == 0 && tx.size == 0) && ks == 2)) := by
          simp only [Hid, Nd.plainb, bne]
          cases ks == 2 <;> cases ks == 1 <;> cases nm == 0 <;> cases tx.size == 0 <;> simp
        obtain ⟨z, hz⟩ : ∃ z, (nm == 0 && tx.size == 0) = z := ⟨_, rfl⟩
        have HB := isBare_any ⟨13, nm, tx, ks, 0⟩
        simp only [hz] at HB HV
        clear hz ht
        go_enter Tryz.func54, Tryz.ntmps54
        go_wp2_with fail
        refine (HB _).mono ?_
        rintro e w1 ⟨rfl, hb1⟩
        have hblk : w1.heap[w.heap.size]? = some (.cells #[.int .i64 13, .int .i64 nm, .string tx, .int .i64 ks, .int .i64 0] 40 (0, 0)) := (hb1.block _ (by simp)).trans (heap_alloc_new _ _)
        have q3 : w1.cell? ⟨w.heap.size, 3, none⟩ = some (.int .i64 ks) := by rw [cell_of_row _ _ _ _ _ _ hblk]; rfl
        have hb2 := Below.step hb0 hb1
        clear HB hb0 hb1 hblk
        cases z
        · go_wp2
          go_ret
          exact ⟨by rw [HV.out]; rfl, hb2⟩
        · go_wp2
          go_ret
          exact ⟨by rw [HV.out]; rfl, hb2⟩
      · have t13 : ((kd : Int) == 13) = false := by simpa using h13
        by_cases h14 : kd = 14
        · subst h14
          have HV : Hid (Nd.plainb ⟨14, nm, tx, ks, 0⟩ = ((nm == 0 && tx.size == 0) && ks != 1)) := by
            simp only [Hid, Nd.plainb, bne]
            cases ks == 2 <;> cases ks == 1 <;> cases nm == 0 <;> cases tx.size == 0 <;> simp
          obtain ⟨z, hz⟩ : ∃ z, (nm == 0 && tx.size == 0) = z := ⟨_, rfl⟩
          have HB := isBare_any ⟨14, nm, tx, ks, 0⟩
          simp only [hz] at HB HV
          clear hz ht
          go_enter Tryz.func54, Tryz.ntmps54
          go_wp2_with fail
          refine (HB _).mono ?_
          rintro e w1 ⟨rfl, hb1⟩
          have hblk : w1.heap[w.heap.size]? = some (.cells #[.int .i64 14, .int .i64 nm, .string tx, .int .i64 ks, .int .i64 0] 40 (0, 0)) := (hb1.block _ (by simp)).trans (heap_alloc_new _ _)
          have q3 : w1.cell? ⟨w.heap.size, 3, none⟩ = some (.int .i64 ks) := by rw [cell_of_row _ _ _ _ _ _ hblk]; rfl
          have hb2 := Below.step hb0 hb1
          clear HB hb0 hb1 hblk
          cases z
          · go_wp2
            go_ret
            exact ⟨by rw [HV.out]; rfl, hb2⟩
          · go_wp2
            go_ret
            exact ⟨by rw [HV.out]; rfl, hb2⟩
        · have t14 : ((kd : Int) == 14) = false := by simpa using h14
          by_cases h60 : kd = 60 ∨ kd = 61
          · have HV : Hid (Nd.plainb ⟨kd, nm, tx, ks, 0⟩ = ((decide (nm > 0) && tx.size == 0) && ks == 0)) := by
              have h9 : (kd == 60 || kd == 61) = true := by simpa using h60
              have h8 : decide (1 ≤ nm) = decide (nm > 0) := by rw [decide_eq_decide]; omega
              simp only [Hid, Nd.plainb, h9, t12, t13, t14, h8]
              cases ks == 0 <;> cases decide (nm > 0) <;> cases tx.size == 0 <;> simp
            rw [← ht] at HV
            clear ht
            by_cases hn : nm > 0
            · have tn : decide (nm > 0) = true := decide_eq_true hn
              rw [tn] at HV
              cases he : tx.toList.isEmpty
              · rw [he] at HV
                have HW : Hid (Nd.plainb ⟨kd, nm, tx, ks, 0⟩ = false) := HV.out
                clear HV
                rcases h60 with rfl | rfl
                all_goals
                  go_enter Tryz.func54, Tryz.ntmps54
                  go_wp2
                  go_ret
                  exact ⟨by rw [HW.out]; rfl, hb0⟩
              · rw [he] at HV
                rcases h60 with rfl | rfl
                all_goals
                  go_enter Tryz.func54, Tryz.ntmps54
                  go_wp2
                  go_ret
                  exact ⟨by rw [HV.out]; rfl, hb0⟩
            · have tn : decide (nm > 0) = false := decide_eq_false hn
              rw [tn] at HV
              have HW : Hid (Nd.plainb ⟨kd, nm, tx, ks, 0⟩ = false) := HV.out
              clear HV
              rcases h60 with rfl | rfl
              all_goals
                go_enter Tryz.func54, Tryz.ntmps54
                go_wp2
                go_ret
                exact ⟨by rw [HW.out]; rfl, hb0⟩
          · have t60 : ((kd : Int) == 60) = false := by simp; omega
            have t61 : ((kd : Int) == 61) = false := by simp; omega
            go_enter Tryz.func54, Tryz.ntmps54
            go_wp2
            go_ret
            exact ⟨by simp [Nd.plainb, t12, t13, t14, t60, t61], hb0⟩
  · have tp : ((pl : Int) != 0) = true := by simpa using hp
    go_enter Tryz.func54, Tryz.ntmps54
    go_wp2
    go_ret
    exact ⟨by simp [Nd.plainb, hp], hb0⟩

set_option maxHeartbeats 1000000 in
theorem unfit_any (x : Nd) (w : World) :
    Calls Tryz.prog 53 #[.agg #[.int .i64 x.kind, .int .i64 x.num, .string x.text, .int .i64 x.kids, .int .i64 x.place]] w fun e w' =>
      e = .returned (.bool (!x.plainb)) ∧ Below w.heap.size w w' := by
  have HP := iIsPlain_any x
  obtain ⟨p, hp⟩ : ∃ p, x.plainb = p := ⟨_, rfl⟩
  rw [hp] at HP ⊢
  clear hp
  obtain ⟨kd, nm, tx, ks, pl⟩ := x
  have hb0 : Below w.heap.size w (w.alloc (Obj.cells #[.int .i64 kd, .int .i64 nm, .string tx, .int .i64 ks, .int .i64 pl] 40)) := (Below.refl _ _).alloc (Nat.le_refl _) _
  simp only at HP
  go_enter Tryz.func53, Tryz.ntmps53
  go_wp2_with fail
  refine (HP _).mono ?_
  rintro e w1 ⟨rfl, hb1⟩
  have hb2 := Below.step hb0 hb1
  clear HP hb0 hb1
  go_wp2
  go_ret
  exact ⟨rfl, hb2⟩

theorem any_true {α : Type} {p : α → Bool} {xs : List α} (k : Nat) (h : k < xs.length) (hf : p xs[k] = true) : xs.any p = true :=
  List.any_eq_true.2 ⟨_, List.getElem_mem h, hf⟩

theorem takeL_any {α : Type} {p : α → Bool} {xs : List α} (k : Nat) (h : k < xs.length) (ht : p xs[k] = false) (ha : (xs.take k).any p = false) : (xs.take (k + 1)).any p = false := by
  rw [List.take_succ_eq_append_getElem h, List.any_append, ha]
  simp [ht]

set_option maxHeartbeats 2000000 in
theorem indexFunc_unfit (xs : List Nd) (n : Nat) (HX : Hid (xs.length = n)) (ao : Option Addr) (cap : Nat) (w : World) (hx : Nodes w ao xs) (hlx : n ≤ 1048576) :
    Calls Tryz.prog 81 #[.slice ao n cap, .func (.func 53) #[] #[]] w fun e w' =>
      (∃ r : Int, e = .returned (.int .i64 r) ∧ decide (r ≥ 0) = xs.any (fun n => !n.plainb)) ∧ Below w.heap.size w w' := by
  go_enter Tryz.func81, Tryz.ntmps81
  go_wp2
  go_loopw [8] (fun i wr => ∃ (k : Nat), k ≤ n ∧ i = .int .i64 k ∧ (xs.take k).any (fun n => !n.plainb) = false ∧ Below w.heap.size w wr) (fun i _ => n - (intOf i).toNat)
  case atStart => exact ⟨0, Nat.zero_le _, rfl, by simp, Below.refl _ _⟩
  case round =>
    obtain ⟨k, hk, rfl, hall, hb⟩ := hrel
    by_cases hlt : k < n
    · have hltx : k < xs.length := by have := HX.out; omega
      obtain ⟨x, hxk⟩ : ∃ x, xs[k] = x := ⟨_, rfl⟩
      obtain ⟨b, o, rfl, hcx⟩ := hx.below hb k hltx
      rw [hxk] at hcx
      obtain ⟨c0, c1, c2, c3, c4⟩ := hcx
      have hlb : b < wr.heap.size := lt_of_cell c0
      have HXK : Hid (xs[k] = x) := hxk
      clear hx hxk
      cases hq : (!x.plainb)
      · have HA : Hid ((xs.take (k + 1)).any (fun n => !n.plainb) = false) := takeL_any k hltx (by rw [HXK.out]; exact hq) hall
        clear hall
        go_wp2_with fail
        refine (unfit_any x _).mono ?_
        rintro e w1 ⟨rfl, hb1⟩
        rw [hq]
        have hbb := Below.step hb hb1
        clear hb hb1 c0 c1 c2 c3 c4
        go_wp2
        go_roundw
        case rel => exact ⟨k + 1, by omega, by go_num, HA.out, hbb⟩
        case measure => simp [intOf]; omega
      · have HA : Hid (xs.any (fun n => !n.plainb) = true) := any_true k hltx (by rw [HXK.out]; exact hq)
        clear hall
        go_wp2_with fail
        refine (unfit_any x _).mono ?_
        rintro e w1 ⟨rfl, hb1⟩
        rw [hq]
        have hbb := Below.step hb hb1
        clear hb hb1 c0 c1 c2 c3 c4
        go_wp2
        go_ret
        exact ⟨⟨(k : Int), rfl, by rw [HA.out]; simp⟩, hbb⟩
    · have HA : Hid (xs.any (fun n => !n.plainb) = false) := by
        have h9 := hall
        rw [List.take_of_length_le (by have := HX.out; omega)] at h9
        exact h9
      clear hall hx
      go_wp2
      go_ret
      exact ⟨⟨-1, rfl, by rw [HA.out]; rfl⟩, hb⟩

set_option maxHeartbeats 400000 in
theorem containsFunc_unfit (xs : List Nd) (n : Nat) (HX : Hid (xs.length = n)) (ao : Option Addr) (cap : Nat) (w : World) (hx : Nodes w ao xs) (hlx : n ≤ 1048576) :
    Calls Tryz.prog 56 #[.slice ao n cap, .func (.func 53) #[] #[]] w fun e w' =>
      e = .returned (.bool (xs.any (fun n => !n.plainb))) ∧ Below w.heap.size w w' := by
  go_enter Tryz.func56, Tryz.ntmps56
  go_wp2_with fail
  refine (indexFunc_unfit xs n HX ao cap w hx hlx).mono ?_
  rintro e w1 ⟨⟨r, rfl, hr⟩, hb⟩
  have HR : Hid (decide (r ≥ 0) = xs.any (fun n => !n.plainb)) := hr
  clear hr hx
  go_wp2
  go_ret
  exact ⟨by rw [← HR.out]; rfl, hb⟩

theorem unfit_none (xs : List Nd) : xs.all Nd.plainb = !xs.any (fun n => !n.plainb) := by
  induction xs with
  | nil => rfl
  | cons x xs ih => simp only [List.all_cons, List.any_cons, Bool.not_or, ← ih, Bool.not_not]

set_option maxHeartbeats 1000000 in
theorem iIsType_any (t : List Nd) (m : Nat) (HM : Hid (t.length = m)) (hm : m ≤ 1048576) (ao : Option Addr) (cap : Nat) (w : World) (hx : Nodes w ao t) :
    Calls Tryz.prog 25 #[.slice ao m cap] w fun e w' => e = .returned (.bool (typeb t)) ∧ Below w.heap.size w w' := by
  obtain ⟨d, hd⟩ : ∃ d, decide (0 < deepOf t) = d := ⟨_, rfl⟩
  have HV : Hid (typeb t = (decide ((m : Int) ≤ 300) && d && !t.any (fun n => !n.plainb))) := by
    have h9 : decide (t.length ≤ 300) = decide ((m : Int) ≤ 300) := by rw [decide_eq_decide]; have := HM.out; omega
    simp only [Hid, typeb, hd, h9, unfit_none]
  have HG := implGood_any t m HM hm ao cap w hx
  rw [hd] at HG
  clear hd
  by_cases h3 : m ≤ 300
  · have t3 : decide ((m : Int) ≤ 300) = true := decide_eq_true (by omega)
    rw [t3] at HV
    go_enter Tryz.func25, Tryz.ntmps25
    go_wp2_with fail
    refine HG.mono ?_
    rintro e w1 ⟨rfl, hb1⟩
    have HC := containsFunc_unfit t m HM ao cap w1 (hx.below hb1) hm
    clear HG hx
    cases d
    · go_wp2
      go_ret
      exact ⟨by rw [HV.out]; rfl, hb1⟩
    · go_wp2_with fail
      refine HC.mono ?_
      rintro e w2 ⟨rfl, hb2⟩
      have hb := Below.step hb1 hb2
      clear HC
      go_wp2
      go_ret
      exact ⟨by rw [HV.out]; rfl, hb⟩
  · have t3 : decide ((m : Int) ≤ 300) = false := decide_eq_false (by omega)
    rw [t3] at HV
    clear HG hx
    go_enter Tryz.func25, Tryz.ntmps25
    go_wp2
    go_ret
    exact ⟨by rw [HV.out]; rfl, Below.refl _ _⟩

theorem nodes_news {w : World} {ad : Addr} {xs : List Nd} (h : Nodes w (some ad) xs) : ∀ j u, (flat xs)[j]? = some u → w.cell? (ad.add j) = some u := by
  intro j u hj
  have hl : j < (flat xs).length := (List.getElem?_eq_some_iff.1 hj).1
  rw [flat_length] at hl
  have hq : j / 5 < xs.length := by omega
  obtain ⟨b, o, e, hn⟩ := h (j / 5) hq
  simp only [Option.some.injEq] at e
  subst e
  have ej : j = (j / 5) * 5 + j % 5 := by omega
  have hr : j % 5 < 5 := by omega
  have hg := flat_get xs (j / 5) (j % 5) hq hr
  rw [← ej] at hg
  rw [hg] at hj
  have ad1 : ∀ k, Addr.add ⟨b, o, none⟩ k = ⟨b, o + k, none⟩ := by
    intro k
    unfold Addr.add
    split
    · rename_i h0; rw [h0]; rfl
    · rfl
  obtain ⟨c0, c1, c2, c3, c4⟩ := hn
  have ad2 : Addr.add ⟨b, o, none⟩ j = ⟨b, o + j / 5 * 5 + j % 5, none⟩ := by
    rw [ad1]
    congr 1
    omega
  rw [ad2]
  generalize j % 5 = r at hj hr ⊢
  match r, hr with
  | 0, _ => simp [Nd.row] at hj; subst hj; exact c0
  | 1, _ => simp [Nd.row] at hj; subst hj; exact c1
  | 2, _ => simp [Nd.row] at hj; subst hj; exact c2
  | 3, _ => simp [Nd.row] at hj; subst hj; exact c3
  | 4, _ => simp [Nd.row] at hj; subst hj; exact c4

set_option maxHeartbeats 400000 in
theorem clone_any (xs : List Nd) (m : Nat) (HM : Hid (xs.length = m)) (hm : m ≤ 1048576) (ad : Addr) (cap : Nat) (w : World) (hx : Nodes w (some ad) xs) :
    Calls Tryz.prog 52 #[.slice (some ad) m cap] w fun e w' => ∃ g c, e = .returned (.slice (some ⟨g, 0, none⟩) m c) ∧ w.heap.size ≤ g ∧ Row w' g xs ∧ Below w.heap.size w w' := by
  obtain ⟨i0, hi, hz0, hz1, hz2⟩ := info_parts Tryz.infoN
  have hO := OwnN.empty (w := w) (B := w.heap.size) (Nat.le_refl _)
  have hnil : ∀ (w : World), (binOp .eql 29 (.slice (some ad) m cap) (.slice none 0 0)).run Tryz.prog w = .ok (.bool false) w := fun w => Lib.run_eql_slice_nil w _ _ (some ad) m cap 0 0 Tryz.underlying29
  have hn := nodes_news (hx.below ((Below.refl _ w).alloc (Nat.le_refl _) (.cells #[] 40)))
  go_enter Tryz.func52, Tryz.ntmps52
  clear hx
  go_wp2_with (at_builtin; refine wpList_append2 _ rfl (.tmp 5) (.tmp 6) 29 rfl w.heap.size 40 i0 _ 5 48 Tryz.underlying29 hi hz0 hz1 hz2 rfl (by decide) w.heap.size 0 0 _ rfl hO.2 ad m cap (flat xs) rfl ?a1 hn (nd_flat_one xs) ?a3 ?a4 ?a5 ?_)
  case a1 => rw [flat_length, HM.out]
  case a3 => unfold maxLen; omega
  case a4 => omega
  case a5 => simp
  intro g2 c2 w2 hown2 hgrow2 hwh
  have hF : OwnN w2 w.heap.size g2 c2 m xs := ⟨HM.out, by simpa [flat] using hown2⟩
  obtain ⟨hg, hr⟩ := hF.row
  have hbb : Below w.heap.size w w2 := ((Below.refl _ w).alloc (Nat.le_refl _) _).grown hgrow2 (by simp) (fun q hq => by cases hq; exact Nat.le_refl _)
  clear hown2 hgrow2 hwh hF hO hn
  go_wp2
  go_ret
  exact ⟨_, _, rfl, hg, hr, hbb⟩

/-- An answer: a slice of nodes that is empty, or a row of the call's own, from block B on. -/
def Ans (w : World) (B : Nat) (ao : Option Addr) (zs : List Nd) : Prop := zs = [] ∨ ∃ g, ao = some ⟨g, 0, none⟩ ∧ B ≤ g ∧ Row w g zs

theorem Ans.nodes {w : World} {B : Nat} {ao : Option Addr} {zs : List Nd} (h : Ans w B ao zs) : Nodes w ao zs := by
  rcases h with rfl | ⟨g, rfl, _, hr⟩
  · exact fun i hi => by simp at hi
  · exact hr.nodes

theorem Ans.below {w w' : World} {B : Nat} {ao : Option Addr} {zs : List Nd} (h : Ans w B ao zs) (hb : Below w.heap.size w w') : Ans w' B ao zs := by
  rcases h with rfl | ⟨g, rfl, hB, hr⟩
  · exact Or.inl rfl
  · exact Or.inr ⟨g, rfl, hB, hr.below hb⟩

theorem Ans.but {S : Nat → Prop} {w w' : World} {B : Nat} {ao : Option Addr} {zs : List Nd} (h : Ans w B ao zs) (hb : But S w w') (hS : ∀ g, ao = some ⟨g, 0, none⟩ → B ≤ g → Row w g zs → ¬ S g) : Ans w' B ao zs := by
  rcases h with rfl | ⟨g, rfl, hB, hr⟩
  · exact Or.inl rfl
  · exact Or.inr ⟨g, rfl, hB, hb.row hr (hS g rfl hB hr)⟩

theorem Ans.mono {w : World} {B B' : Nat} {ao : Option Addr} {zs : List Nd} (h : Ans w B ao zs) (hB : B' ≤ B) : Ans w B' ao zs := by
  rcases h with rfl | ⟨g, rfl, h1, hr⟩
  · exact Or.inl rfl
  · exact Or.inr ⟨g, rfl, by omega, hr⟩

theorem Row.ans {w : World} {B g : Nat} {zs : List Nd} (h : Row w g zs) (hB : B ≤ g) : Ans w B (some ⟨g, 0, none⟩) zs := Or.inr ⟨g, rfl, hB, h⟩

end Go.Proofs.YtahdmflbdmlfhaaGreatDoor

namespace Go.Proofs.YtahdmflbdmlfhaaGreatDoor

open Go.RowKit Go.Maps

theorem placeIn_le (met : List Int) (x : Int) : placeIn met x ≤ met.length := List.findIdx_le_length

theorem placeIn_snoc (met : List Int) (x : Int) : placeIn (met ++ [x]) x = if placeIn met x = met.length then met.length else placeIn met x := by
  unfold placeIn
  rw [List.findIdx_append]
  have h := @List.findIdx_le_length _ (fun y => y == x) met
  by_cases h1 : List.findIdx (fun y => y == x) met = met.length
  · rw [if_pos h1, if_neg (by omega)]
    simp
  · rw [if_neg h1, if_pos (by omega)]

theorem placeIn_snoc_ne (met : List Int) (x y : Int) (hne : y ≠ x) : placeIn (met ++ [x]) y = if placeIn met y = met.length then met.length + 1 else placeIn met y := by
  unfold placeIn
  rw [List.findIdx_append]
  have h := @List.findIdx_le_length _ (fun z => z == y) met
  by_cases h1 : List.findIdx (fun z => z == y) met = met.length
  · have h2 : (x == y) = false := by simpa using fun h => hne h.symm
    rw [if_pos h1, if_neg (by omega)]
    simp [h2, List.findIdx_cons, Nat.add_comm]
  · rw [if_neg h1, if_pos (by omega)]

/-- What the map of numbers says of a number: 0 where it is not met. -/
def numAt (first : Int) (met : List Int) (x : Int) : Int := if placeIn met x = met.length then 0 else first + placeIn met x

/-- The map of numbers, as a datum. -/
def NumsD (first : Int) (met : List Int) (D : DataW Unit) : Prop :=
  Tidy D ∧ Maps.size D = met.length ∧ ∀ x : Int, Maps.has D (.int .i64 x) = !(placeIn met x == met.length) ∧ D.atKey (.int .i64 x) (.lit (.int .i64 0)) = .lit (.int .i64 (numAt first met x))

theorem NumsD.start (first : Int) : NumsD first [] (.map []) := ⟨tidy_empty, rfl, fun _ => ⟨rfl, rfl⟩⟩

theorem NumsD.store {first : Int} {met : List Int} {D : DataW Unit} (h : NumsD first met D) (x : Int) (hx : placeIn met x = met.length) :
    NumsD first (met ++ [x]) (D.put (.int .i64 x) (.lit (.int .i64 (first + met.length)))) := by
  obtain ⟨h1, h2, h3⟩ := h
  have hkl : ∀ z : Int, WideAt.IsKeyLit (.int .i64 z) := fun _ => trivial
  refine ⟨h1.put (hkl x) _, ?_, ?_⟩
  · rw [size_put h1, (h3 x).1, hx]
    simp [h2]
  · intro y
    by_cases hy : y = x
    · subst hy
      refine ⟨?_, ?_⟩
      · rw [has_put_same h1.isMap (hkl y), placeIn_snoc, if_pos hx]
        simp
      · rw [atKey_put_same h1.isMap (hkl y)]
        unfold numAt
        rw [placeIn_snoc, if_pos hx, if_neg (by simp)]
    · have hne : (Lit.int .i64 y) ≠ (Lit.int .i64 x) := fun h => hy (by simpa using h)
      refine ⟨?_, ?_⟩
      · rw [has_put_other hne, (h3 y).1, placeIn_snoc_ne _ _ _ hy]
        have := placeIn_le met y
        by_cases h9 : placeIn met y = met.length
        · rw [if_pos h9]; simp [h9]
        · rw [if_neg h9]
          have q : (placeIn met y == met.length) = false := by simpa using h9
          have q2 : (placeIn met y == (met ++ [x]).length) = false := by simp; omega
          rw [q, q2]
      · rw [atKey_put_other hne, (h3 y).2]
        unfold numAt
        rw [placeIn_snoc_ne _ _ _ hy]
        have := placeIn_le met y
        by_cases h9 : placeIn met y = met.length
        · rw [if_pos h9, if_pos h9, if_pos (by simp)]
        · rw [if_neg h9, if_neg h9, if_neg (by simp; omega)]

theorem Tryz.law2 : Keyed Tryz.prog 2 := int_keyed Tryz.underlying2
theorem cell_kept {w w' : World} {g k o : Nat} (hg : w.grownBy w' (some k)) (hl : g < w.heap.size) (hne : g ≠ k) : w'.cell? ⟨g, o, none⟩ = w.cell? ⟨g, o, none⟩ := by
  have h := hg.block g hl (by simpa using hne)
  unfold World.cell?
  rw [h]

end Go.Proofs.YtahdmflbdmlfhaaGreatDoor

namespace Go.Proofs.YtahdmflbdmlfhaaGreatDoor
open Go.RowKit Go.Shelf

attribute [local go_sem] Oper.semAt_some

/-- A box of one cell. -/
def Box1 (w : World) (b : Nat) (t : TypeId) (v : Value) : Prop := w.heap[b]? = some (.cells #[v] t (0, 0))

theorem Box1.lt {w : World} {b : Nat} {t : TypeId} {v : Value} (h : Box1 w b t v) : b < w.heap.size := (Array.getElem?_eq_some_iff.1 h).1

theorem Box1.cell {w : World} {b : Nat} {t : TypeId} {v : Value} (h : Box1 w b t v) : w.cell? ⟨b, 0, none⟩ = some v := by rw [cell_of_row w b 0 _ t (0, 0) h]; rfl

theorem Box1.frozen {w : World} {b : Nat} {t : TypeId} {v : Value} (h : Box1 w b t v) : w.frozen? ⟨b, 0, none⟩ = false := frozen_of_row w b 0 _ t h

theorem Box1.set {w : World} {b : Nat} {t : TypeId} {v : Value} (h : Box1 w b t v) (u : Value) : Box1 (w.setCell ⟨b, 0, none⟩ u) b t u := heap_setCell_same w b 0 _ t u h

theorem Box1.below {w w' : World} {B b : Nat} {t : TypeId} {v : Value} (h : Box1 w b t v) (hb : Below B w w') (hlt : b < B) : Box1 w' b t v := (hb.block b hlt).trans h

theorem Box1.but {S : Nat → Prop} {w w' : World} {b : Nat} {t : TypeId} {v : Value} (h : Box1 w b t v) (hb : But S w w') (hs : ¬ S b) : Box1 w' b t v := (hb.block b h.lt hs).trans h

theorem Box1.new (w : World) (t : TypeId) (v : Value) : Box1 (w.alloc (.cells #[v] t)) w.heap.size t v := heap_alloc_new _ _

theorem Box1.alloc {w : World} {b : Nat} {t : TypeId} {v : Value} (h : Box1 w b t v) (o : Obj) : Box1 (w.alloc o) b t v := (Below.heap_alloc w o b h.lt).trans h

/-- The three boxes of Part. -/
def boxes (w : World) (g m cm : Nat) (i : Int) : World :=
  ((w.alloc (.cells #[.slice (some ⟨g, 0, none⟩) m cm] 29)).alloc (.cells #[.int .i64 i] 3)).alloc (.cells #[.slice none 0 0] 29)

end Go.Proofs.YtahdmflbdmlfhaaGreatDoor

namespace Go.Proofs.YtahdmflbdmlfhaaGreatDoor
open Go.RowKit Go.Maps

/-- An element of a map that is a slice, and reads as itself. -/
def heldE : Value → Option (DataW Value × List MemPlace)
  | .slice a n c => some (.held (.slice a n c), [])
  | _ => none

theorem heldE_inv {v : Value} {z : DataW Value × List MemPlace} (h : heldE v = some z) : (∃ q : Option Addr × Nat × Nat, v = .slice q.1 q.2.1 q.2.2) ∧ z = (.held v, []) := by
  unfold heldE at h
  split at h
  · simp only [Option.some.injEq] at h
    exact ⟨⟨(_, _, _), rfl⟩, h.symm⟩
  · cases h

section
variable {P : Program} (w : World) {ops : Array Oper} {rest : List Oper} {o : Oper} {a : Act} {Q : Exit → Act → World → Prop}

theorem wpList_lookup_held (hg : o.guard = none) (m x : Operand) (t : TypeId) (hop : o.op = Op.lookup t m x true)
    (k e : TypeId) (K : Keyed P k) (ht : P.underlying t = some (.map k e)) {z : Value} (hz : (zeroValue e).run P w = .ok z w) (b n : Nat) (D : DataW Value)
    (hm : a.eval m = .map (some b)) (hown : w.ownsMap P k heldE b n D) (key : Value) (kl : Lit) (hx : a.eval x = key) (hkey : keyOf P k key = some kl)
    {h : Bool} {v : Value} (hzd : heldE z = some (.held z, [])) (hh : Maps.has D kl = h) (hv : D.atKey kl (.held z) = .held v)
    (hK : wpList P ops Q rest (a.put o.dst (.tuple #[v, .bool h])) w) :
    wpList P ops Q (o :: rest) a w :=
  wpList_lookup_own_ok w hg m x t hop k e K ht heldE hz (.held z) [] hzd b n D hm hown key kl hx hkey (fun v' ps hv' => by
    have e9 : v' = v := by
      rw [hv] at hv'
      have h9 := (heldE_inv hv').2
      simp only [Prod.mk.injEq, DataW.held.injEq] at h9
      exact h9.1.symm
    rw [e9, hh]
    exact hK)

theorem wpList_lookup_held1 (hg : o.guard = none) (m x : Operand) (t : TypeId) (hop : o.op = Op.lookup t m x false)
    (k e : TypeId) (K : Keyed P k) (ht : P.underlying t = some (.map k e)) {z : Value} (hz : (zeroValue e).run P w = .ok z w) (b n : Nat) (D : DataW Value)
    (hm : a.eval m = .map (some b)) (hown : w.ownsMap P k heldE b n D) (key : Value) (kl : Lit) (hx : a.eval x = key) (hkey : keyOf P k key = some kl)
    {v : Value} (hzd : heldE z = some (.held z, [])) (hv : D.atKey kl (.held z) = .held v)
    (hK : wpList P ops Q rest (a.put o.dst v) w) :
    wpList P ops Q (o :: rest) a w := by
  refine wpList_plain hg fun K' hK' => ?_
  obtain ⟨v', ps, hrun, hv'⟩ := hown.lookup K ht hz (zd := .held z) (zp := []) hzd hkey
  have e9 : v' = v := by
    rw [hv] at hv'
    have h9 := (heldE_inv hv').2
    simp only [Prod.mk.injEq, DataW.held.injEq] at h9
    exact h9.1.symm
  subst e9
  unfold Oper.wp
  simp [execOp, hop, hm, hx, hrun, Result.andThen]
  exact hK' _ _ hK
end

/-- A slice value. -/
def sl (q : Option Addr × Nat × Nat) : Value := .slice q.1 q.2.1 q.2.2

/-- The map of the first of several entries with one number. -/
def FirstD (ps : List (Int × (Option Addr × Nat × Nat))) (D : DataW Value) : Prop :=
  Tidy D ∧ ∀ x : Int, Maps.has D (.int .i64 x) = decide (placeIn (ps.map Prod.fst) x < ps.length) ∧ ∀ (h : placeIn (ps.map Prod.fst) x < ps.length) z, D.atKey (.int .i64 x) z = .held (sl ps[placeIn (ps.map Prod.fst) x].2)

theorem FirstD.start : FirstD [] (.map []) := ⟨tidy_empty, fun _ => ⟨rfl, fun h => by simp at h⟩⟩

theorem placeIn_cons (y : Int) (l : List Int) (x : Int) : placeIn (y :: l) x = if y = x then 0 else placeIn l x + 1 := by
  unfold placeIn
  rw [List.findIdx_cons]
  by_cases h : y = x
  · simp [h]
  · have : (y == x) = false := by simpa using h
    rw [this]; simp [h]

theorem FirstD.put {ps : List (Int × (Option Addr × Nat × Nat))} {D : DataW Value} (h : FirstD ps D) (p : Int × (Option Addr × Nat × Nat)) : FirstD (p :: ps) (D.put (.int .i64 p.1) (.held (sl p.2))) := by
  obtain ⟨h1, h2⟩ := h
  have hkl : ∀ z : Int, WideAt.IsKeyLit (.int .i64 z) := fun _ => trivial
  refine ⟨h1.put (hkl _) _, ?_⟩
  intro x
  by_cases hx : p.1 = x
  · subst hx
    have e : placeIn ((p :: ps).map Prod.fst) p.1 = 0 := by rw [List.map_cons, placeIn_cons, if_pos rfl]
    refine ⟨?_, ?_⟩
    · rw [has_put_same h1.isMap (hkl _), e]
      simp
    · intro h z
      rw [atKey_put_same h1.isMap (hkl _)]
      simp only [e, List.getElem_cons_zero]
  · have hne : (Lit.int .i64 x) ≠ (Lit.int .i64 p.1) := fun h => hx (by simpa using h.symm)
    have e : placeIn ((p :: ps).map Prod.fst) x = placeIn (ps.map Prod.fst) x + 1 := by rw [List.map_cons, placeIn_cons, if_neg hx]
    refine ⟨?_, ?_⟩
    · rw [has_put_other hne, (h2 x).1, e]
      simp
    · intro h z
      rw [atKey_put_other hne]
      simp only [e, List.getElem_cons_succ]
      exact (h2 x).2 (by simp only [e, List.length_cons] at h; omega) z

/-- Cells in pairs: a number, a slice. -/
def Prs (w : World) (ao : Option Addr) (ps : List (Int × (Option Addr × Nat × Nat))) : Prop :=
  ∀ i (h : i < ps.length), ∃ b o, ao = some ⟨b, o, none⟩ ∧ w.cell? ⟨b, o + i * 2, none⟩ = some (.int .i64 ps[i].1) ∧ w.cell? ⟨b, o + i * 2 + 1, none⟩ = some (.slice ps[i].2.1 ps[i].2.2.1 ps[i].2.2.2)

theorem Prs.but {S : Nat → Prop} {w w' : World} {ao : Option Addr} {ps : List (Int × (Option Addr × Nat × Nat))} (h : Prs w ao ps) (hb : But S w w') (hs : ∀ b o, ao = some ⟨b, o, none⟩ → 0 < ps.length → ¬ S b) : Prs w' ao ps := by
  intro i hi
  obtain ⟨b, o, e, h0, h1⟩ := h i hi
  exact ⟨b, o, e, (hb.cell (lt_of_cell h0) (hs b o e (by omega))).trans h0, (hb.cell (lt_of_cell h1) (hs b o e (by omega))).trans h1⟩

theorem Prs.below {w w' : World} {ao : Option Addr} {ps : List (Int × (Option Addr × Nat × Nat))} (h : Prs w ao ps) (hb : Below w.heap.size w w') : Prs w' ao ps := h.but (S := fun _ => False) (But.ofBelow hb) (fun _ _ _ _ h => h)

/-- What lies in a slice of Binds. -/
theorem Binds.prs {w : World} {ao : Option Addr} {bs : List (Int × List Nd)} (h : Binds w ao bs) : ∃ ps : List (Int × (Option Addr × Nat × Nat)), ps.length = bs.length ∧ ps.map Prod.fst = bs.map Prod.fst ∧ Prs w ao ps ∧
    ∀ i (hp : i < ps.length) (hb : i < bs.length), ps[i].2.2.1 = bs[i].2.length ∧ Nodes w ps[i].2.1 bs[i].2 := by
  have inh : Inhabited (Option Addr × Nat) := ⟨none, 0⟩
  obtain ⟨F, hF⟩ := Go.Deep.choose_lt (α := Option Addr × Nat) (n := bs.length) (p := fun i q => ∀ hb : i < bs.length, ∃ b o, ao = some ⟨b, o, none⟩ ∧ w.cell? ⟨b, o + i * 2, none⟩ = some (.int .i64 bs[i].1) ∧ w.cell? ⟨b, o + i * 2 + 1, none⟩ = some (.slice q.1 bs[i].2.length q.2) ∧ Nodes w q.1 bs[i].2) (fun i hi => by
    obtain ⟨b, o, ai, ci, e, h0, hc, hn⟩ := h i hi
    exact ⟨(ai, ci), fun _ => ⟨b, o, e, h0, hc, hn⟩⟩)
  have hget : ∀ i (hp : i < (bs.mapIdx fun i x => (x.1, ((F i).1, x.2.length, (F i).2))).length) (hb : i < bs.length), (bs.mapIdx fun i x => (x.1, ((F i).1, x.2.length, (F i).2)))[i] = (bs[i].1, ((F i).1, bs[i].2.length, (F i).2)) := by
    intro i hp hb
    simp
  refine ⟨bs.mapIdx fun i x => (x.1, ((F i).1, x.2.length, (F i).2)), by simp, ?_, ?_, ?_⟩
  · apply List.ext_getElem
    · simp
    · intro i h1 h2
      simp
  · intro i hi
    have hb : i < bs.length := by simpa using hi
    obtain ⟨b, o, e, h0, h1, _⟩ := hF i hb hb
    refine ⟨b, o, e, ?_, ?_⟩
    · rw [hget i hi hb]; exact h0
    · rw [hget i hi hb]; exact h1
  · intro i hp hb
    obtain ⟨b, o, e, h0, h1, hn⟩ := hF i hb hb
    rw [hget i hp hb]
    exact ⟨rfl, hn⟩

end Go.Proofs.YtahdmflbdmlfhaaGreatDoor

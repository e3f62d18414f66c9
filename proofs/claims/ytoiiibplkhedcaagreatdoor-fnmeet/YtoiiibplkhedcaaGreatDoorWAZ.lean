import Derived.Test.YtoiiibplkhedcaaGreatDoorWAY
import Derived.Lib.Strings
set_option maxRecDepth 100000
set_option maxHeartbeats 4000000
namespace Go.Proofs.YtoiiibplkhedcaaGreatDoor
open Go.RowKit
theorem Qlh (tx : ByteArray) : tx.toList.isEmpty = (tx.size == 0) := by
  rw [Lib.toList_data]
  cases h : tx.data.toList with
  | nil =>
    have h9 : tx.data = #[] := by simpa using h
    simp [ByteArray.size, h9]
  | cons a l =>
    have h9 : tx.data.size = l.length + 1 := by rw [← Array.length_toList, h]; rfl
    simp [ByteArray.size, h9]
theorem Qlt (x : Nd) (w : World) :
    Calls Tryz.prog 74 #[.agg #[.int .i64 x.kind, .int .i64 x.num, .string x.text, .int .i64 x.kids, .int .i64 x.place]] w fun e w' =>
      e = .returned (.bool (x.num == 0 && x.text.size == 0)) ∧ Below w.heap.size w w' := by
  obtain ⟨kd, nm, tx, ks, pl⟩ := x
  simp only
  have ht := Qlh tx
  by_cases hn : nm = 0
  · subst hn
    go_enter Tryz.func74, Tryz.ntmps74
    go_wp2
    go_ret
    exact ⟨by rw [← ht]; rfl, (Below.refl _ _).alloc (Nat.le_refl _) _⟩
  · have t1 : (nm == 0) = false := by simpa using hn
    rw [t1]
    go_enter Tryz.func74, Tryz.ntmps74
    go_wp2
    go_ret
    exact ⟨rfl, (Below.refl _ _).alloc (Nat.le_refl _) _⟩
theorem Qoz (x : Nd) (w : World) :
    Calls Tryz.prog 41 #[.agg #[.int .i64 x.kind, .int .i64 x.num, .string x.text, .int .i64 x.kids, .int .i64 x.place]] w fun e w' =>
      e = .returned (.bool x.plainb) ∧ Below w.heap.size w w' := by
  obtain ⟨kd, nm, tx, ks, pl⟩ := x
  have hb0 : Below w.heap.size w (w.alloc (Obj.cells #[.int .i64 kd, .int .i64 nm, .string tx, .int .i64 ks, .int .i64 pl] 43)) := (Below.refl _ _).alloc (Nat.le_refl _) _
  have ht := Qlh tx
  by_cases hp : pl = 0
  · subst hp
    by_cases h12 : kd = 12
    · subst h12
      go_enter Tryz.func41, Tryz.ntmps41
      go_wp2
      go_ret
      exact ⟨by simp [Nd.plainb], hb0⟩
    · have t12 : ((kd : Int) == 12) = false := by simpa using h12
      by_cases h13 : kd = 13
      · subst h13
        have HV : Hid (Nd.plainb ⟨13, nm, tx, ks, 0⟩ = ((nm == 0 && tx.size == 0) && ks == 2)) := by
          simp only [Hid, Nd.plainb, bne]
          cases ks == 2 <;> cases ks == 1 <;> cases nm == 0 <;> cases tx.size == 0 <;> simp
        obtain ⟨z, hz⟩ : ∃ z, (nm == 0 && tx.size == 0) = z := ⟨_, rfl⟩
        have HB := Qlt ⟨13, nm, tx, ks, 0⟩
        simp only [hz] at HB HV
        clear hz ht
        go_enter Tryz.func41, Tryz.ntmps41
        go_wp2_with fail
        refine (HB _).mono ?_
        rintro e w1 ⟨rfl, hb1⟩
        have hblk : w1.heap[w.heap.size]? = some (.cells #[.int .i64 13, .int .i64 nm, .string tx, .int .i64 ks, .int .i64 0] 43 (0, 0)) := (hb1.block _ (by simp)).trans (heap_alloc_new _ _)
        have q3 : w1.cell? ⟨w.heap.size, 3, none⟩ = some (.int .i64 ks) := by rw [cell_of_row _ _ _ _ _ _ hblk]; rfl
        have hb2 := Below.step hb0 hb1
        clear HB hb0 hb1 hblk
        cases z
        · go_wp2
          go_ret
          exact ⟨by rw [HV.out]; rfl, hb2⟩
        · go_wp2
          go_ret
          exact ⟨by rw [HV.out]; rfl, hb2⟩
      · have t13 : ((kd : Int) == 13) = false := by simpa using h13
        by_cases h14 : kd = 14
        · subst h14
          have HV : Hid (Nd.plainb ⟨14, nm, tx, ks, 0⟩ = ((nm == 0 && tx.size == 0) && ks != 1)) := by
            simp only [Hid, Nd.plainb, bne]
            cases ks == 2 <;> cases ks == 1 <;> cases nm == 0 <;> cases tx.size == 0 <;> simp
          obtain ⟨z, hz⟩ : ∃ z, (nm == 0 && tx.size == 0) = z := ⟨_, rfl⟩
          have HB := Qlt ⟨14, nm, tx, ks, 0⟩
          simp only [hz] at HB HV
          clear hz ht
          go_enter Tryz.func41, Tryz.ntmps41
          go_wp2_with fail
          refine (HB _).mono ?_
          rintro e w1 ⟨rfl, hb1⟩
          have hblk : w1.heap[w.heap.size]? = some (.cells #[.int .i64 14, .int .i64 nm, .string tx, .int .i64 ks, .int .i64 0] 43 (0, 0)) := (hb1.block _ (by simp)).trans (heap_alloc_new _ _)
          have q3 : w1.cell? ⟨w.heap.size, 3, none⟩ = some (.int .i64 ks) := by rw [cell_of_row _ _ _ _ _ _ hblk]; rfl
          have hb2 := Below.step hb0 hb1
          clear HB hb0 hb1 hblk
          cases z
          · go_wp2
            go_ret
            exact ⟨by rw [HV.out]; rfl, hb2⟩
          · go_wp2
            go_ret
            exact ⟨by rw [HV.out]; rfl, hb2⟩
        · have t14 : ((kd : Int) == 14) = false := by simpa using h14
          by_cases h60 : kd = 60 ∨ kd = 61
          · have HV : Hid (Nd.plainb ⟨kd, nm, tx, ks, 0⟩ = ((decide (nm > 0) && tx.size == 0) && ks == 0)) := by
              have h9 : (kd == 60 || kd == 61) = true := by simpa using h60
              have h8 : decide (1 ≤ nm) = decide (nm > 0) := by rw [decide_eq_decide]; omega
              simp only [Hid, Nd.plainb, h9, t12, t13, t14, h8]
              cases ks == 0 <;> cases decide (nm > 0) <;> cases tx.size == 0 <;> simp
            rw [← ht] at HV
            clear ht
            by_cases hn : nm > 0
            · have tn : decide (nm > 0) = true := decide_eq_true hn
              rw [tn] at HV
              cases he : tx.toList.isEmpty
              · rw [he] at HV
                have HW : Hid (Nd.plainb ⟨kd, nm, tx, ks, 0⟩ = false) := HV.out
                clear HV
                rcases h60 with rfl | rfl
                all_goals
                  go_enter Tryz.func41, Tryz.ntmps41
                  go_wp2
                  go_ret
                  exact ⟨by rw [HW.out]; rfl, hb0⟩
              · rw [he] at HV
                rcases h60 with rfl | rfl
                all_goals
                  go_enter Tryz.func41, Tryz.ntmps41
                  go_wp2
                  go_ret
                  exact ⟨by rw [HV.out]; rfl, hb0⟩
            · have tn : decide (nm > 0) = false := decide_eq_false hn
              rw [tn] at HV
              have HW : Hid (Nd.plainb ⟨kd, nm, tx, ks, 0⟩ = false) := HV.out
              clear HV
              rcases h60 with rfl | rfl
              all_goals
                go_enter Tryz.func41, Tryz.ntmps41
                go_wp2
                go_ret
                exact ⟨by rw [HW.out]; rfl, hb0⟩
          · have t60 : ((kd : Int) == 60) = false := by simp; omega
            have t61 : ((kd : Int) == 61) = false := by simp; omega
            go_enter Tryz.func41, Tryz.ntmps41
            go_wp2
            go_ret
            exact ⟨by simp [Nd.plainb, t12, t13, t14, t60, t61], hb0⟩
  · have tp : ((pl : Int) != 0) = true := by simpa using hp
    go_enter Tryz.func41, Tryz.ntmps41
    go_wp2
    go_ret
    exact ⟨by simp [Nd.plainb, hp], hb0⟩
theorem Qni (x : Nd) (w : World) :
    Calls Tryz.prog 40 #[.agg #[.int .i64 x.kind, .int .i64 x.num, .string x.text, .int .i64 x.kids, .int .i64 x.place]] w fun e w' =>
      e = .returned (.bool (!x.plainb)) ∧ Below w.heap.size w w' := by
  have HP := Qoz x
  obtain ⟨p, hp⟩ : ∃ p, x.plainb = p := ⟨_, rfl⟩
  rw [hp] at HP ⊢
  clear hp
  obtain ⟨kd, nm, tx, ks, pl⟩ := x
  have hb0 : Below w.heap.size w (w.alloc (Obj.cells #[.int .i64 kd, .int .i64 nm, .string tx, .int .i64 ks, .int .i64 pl] 43)) := (Below.refl _ _).alloc (Nat.le_refl _) _
  simp only at HP
  go_enter Tryz.func40, Tryz.ntmps40
  go_wp2_with fail
  refine (HP _).mono ?_
  rintro e w1 ⟨rfl, hb1⟩
  have hb2 := Below.step hb0 hb1
  clear HP hb0 hb1
  go_wp2
  go_ret
  exact ⟨rfl, hb2⟩
theorem Qsj {α : Type} {p : α → Bool} {xs : List α} (k : Nat) (h : k < xs.length) (hf : p xs[k] = true) : xs.any p = true :=
  List.any_eq_true.2 ⟨_, List.getElem_mem h, hf⟩
theorem Qnn {α : Type} {p : α → Bool} {xs : List α} (k : Nat) (h : k < xs.length) (ht : p xs[k] = false) (ha : (xs.take k).any p = false) : (xs.take (k + 1)).any p = false := by
  rw [List.take_succ_eq_append_getElem h, List.any_append, ha]
  simp [ht]
theorem Qkc (xs : List Nd) (n : Nat) (HX : Hid (xs.length = n)) (ao : Option Addr) (cap : Nat) (w : World) (hx : Nodes w ao xs) (hlx : n ≤ 1048576) :
    Calls Tryz.prog 76 #[.slice ao n cap, .func (.func 40) #[] #[]] w fun e w' =>
      (∃ r : Int, e = .returned (.int .i64 r) ∧ decide (r ≥ 0) = xs.any (fun n => !n.plainb)) ∧ Below w.heap.size w w' := by
  go_enter Tryz.func76, Tryz.ntmps76
  go_wp2
  go_loopw [8] (fun i wr => ∃ (k : Nat), k ≤ n ∧ i = .int .i64 k ∧ (xs.take k).any (fun n => !n.plainb) = false ∧ Below w.heap.size w wr) (fun i _ => n - (intOf i).toNat)
  case atStart => exact ⟨0, Nat.zero_le _, rfl, by simp, Below.refl _ _⟩
  case round =>
    obtain ⟨k, hk, rfl, hall, hb⟩ := hrel
    by_cases hlt : k < n
    · have hltx : k < xs.length := by have := HX.out; omega
      obtain ⟨x, hxk⟩ : ∃ x, xs[k] = x := ⟨_, rfl⟩
      obtain ⟨b, o, rfl, hcx⟩ := hx.below hb k hltx
      rw [hxk] at hcx
      obtain ⟨c0, c1, c2, c3, c4⟩ := hcx
      have hlb : b < wr.heap.size := Qaa c0
      have HXK : Hid (xs[k] = x) := hxk
      clear hx hxk
      cases hq : (!x.plainb)
      · have HA : Hid ((xs.take (k + 1)).any (fun n => !n.plainb) = false) := Qnn k hltx (by rw [HXK.out]; exact hq) hall
        clear hall
        go_wp2_with fail
        refine (Qni x _).mono ?_
        rintro e w1 ⟨rfl, hb1⟩
        rw [hq]
        have hbb := Below.step hb hb1
        clear hb hb1 c0 c1 c2 c3 c4
        go_wp2
        go_roundw
        case rel => exact ⟨k + 1, by omega, by go_num, HA.out, hbb⟩
        case measure => simp [intOf]; omega
      · have HA : Hid (xs.any (fun n => !n.plainb) = true) := Qsj k hltx (by rw [HXK.out]; exact hq)
        clear hall
        go_wp2_with fail
        refine (Qni x _).mono ?_
        rintro e w1 ⟨rfl, hb1⟩
        rw [hq]
        have hbb := Below.step hb hb1
        clear hb hb1 c0 c1 c2 c3 c4
        go_wp2
        go_ret
        exact ⟨⟨(k : Int), rfl, by rw [HA.out]; simp⟩, hbb⟩
    · have HA : Hid (xs.any (fun n => !n.plainb) = false) := by
        have h9 := hall
        rw [List.take_of_length_le (by have := HX.out; omega)] at h9
        exact h9
      clear hall hx
      go_wp2
      go_ret
      exact ⟨⟨-1, rfl, by rw [HA.out]; rfl⟩, hb⟩
theorem Qhl (xs : List Nd) (n : Nat) (HX : Hid (xs.length = n)) (ao : Option Addr) (cap : Nat) (w : World) (hx : Nodes w ao xs) (hlx : n ≤ 1048576) :
    Calls Tryz.prog 43 #[.slice ao n cap, .func (.func 40) #[] #[]] w fun e w' =>
      e = .returned (.bool (xs.any (fun n => !n.plainb))) ∧ Below w.heap.size w w' := by
  go_enter Tryz.func43, Tryz.ntmps43
  go_wp2_with fail
  refine (Qkc xs n HX ao cap w hx hlx).mono ?_
  rintro e w1 ⟨⟨r, rfl, hr⟩, hb⟩
  have HR : Hid (decide (r ≥ 0) = xs.any (fun n => !n.plainb)) := hr
  clear hr hx
  go_wp2
  go_ret
  exact ⟨by rw [← HR.out]; rfl, hb⟩
theorem Qsq (xs : List Nd) : xs.all Nd.plainb = !xs.any (fun n => !n.plainb) := by
  induction xs with
  | nil => rfl
  | cons x xs ih => simp only [List.all_cons, List.any_cons, Bool.not_or, ← ih, Bool.not_not]
theorem Qbr (t : List Nd) (m : Nat) (HM : Hid (t.length = m)) (hm : m ≤ 1048576) (ao : Option Addr) (cap : Nat) (w : World) (hx : Nodes w ao t) :
    Calls Tryz.prog 18 #[.slice ao m cap] w fun e w' => e = .returned (.bool (typeb t)) ∧ Below w.heap.size w w' := by
  obtain ⟨d, hd⟩ : ∃ d, decide (0 < deepOf t) = d := ⟨_, rfl⟩
  have HV : Hid (typeb t = (decide ((m : Int) ≤ 300) && d && !t.any (fun n => !n.plainb))) := by
    have h9 : decide (t.length ≤ 300) = decide ((m : Int) ≤ 300) := by rw [decide_eq_decide]; have := HM.out; omega
    simp only [Hid, typeb, hd, h9, Qsq]
  have HG := Qox t m HM hm ao cap w hx
  rw [hd] at HG
  clear hd
  by_cases h3 : m ≤ 300
  · have t3 : decide ((m : Int) ≤ 300) = true := decide_eq_true (by omega)
    rw [t3] at HV
    go_enter Tryz.func18, Tryz.ntmps18
    go_wp2_with fail
    refine HG.mono ?_
    rintro e w1 ⟨rfl, hb1⟩
    have HC := Qhl t m HM ao cap w1 (hx.below hb1) hm
    clear HG hx
    cases d
    · go_wp2
      go_ret
      exact ⟨by rw [HV.out]; rfl, hb1⟩
    · go_wp2_with fail
      refine HC.mono ?_
      rintro e w2 ⟨rfl, hb2⟩
      have hb := Below.step hb1 hb2
      clear HC
      go_wp2
      go_ret
      exact ⟨by rw [HV.out]; rfl, hb⟩
  · have t3 : decide ((m : Int) ≤ 300) = false := decide_eq_false (by omega)
    rw [t3] at HV
    clear HG hx
    go_enter Tryz.func18, Tryz.ntmps18
    go_wp2
    go_ret
    exact ⟨by rw [HV.out]; rfl, Below.refl _ _⟩
theorem Qln {w : World} {ad : Addr} {xs : List Nd} (h : Nodes w (some ad) xs) : ∀ j u, (flat xs)[j]? = some u → w.cell? (ad.add j) = some u := by
  intro j u hj
  have hl : j < (flat xs).length := (List.getElem?_eq_some_iff.1 hj).1
  rw [Qca] at hl
  have hq : j / 5 < xs.length := by omega
  obtain ⟨b, o, e, hn⟩ := h (j / 5) hq
  simp only [Option.some.injEq] at e
  subst e
  have ej : j = (j / 5) * 5 + j % 5 := by omega
  have hr : j % 5 < 5 := by omega
  have hg := Qea xs (j / 5) (j % 5) hq hr
  rw [← ej] at hg
  rw [hg] at hj
  have ad1 : ∀ k, Addr.add ⟨b, o, none⟩ k = ⟨b, o + k, none⟩ := by
    intro k
    unfold Addr.add
    split
    · rename_i h0; rw [h0]; rfl
    · rfl
  obtain ⟨c0, c1, c2, c3, c4⟩ := hn
  have ad2 : Addr.add ⟨b, o, none⟩ j = ⟨b, o + j / 5 * 5 + j % 5, none⟩ := by
    rw [ad1]
    congr 1
    omega
  rw [ad2]
  generalize j % 5 = r at hj hr ⊢
  match r, hr with
  | 0, _ => simp [Nd.row] at hj; subst hj; exact c0
  | 1, _ => simp [Nd.row] at hj; subst hj; exact c1
  | 2, _ => simp [Nd.row] at hj; subst hj; exact c2
  | 3, _ => simp [Nd.row] at hj; subst hj; exact c3
  | 4, _ => simp [Nd.row] at hj; subst hj; exact c4
theorem Qpo (xs : List Nd) (m : Nat) (HM : Hid (xs.length = m)) (hm : m ≤ 1048576) (ad : Addr) (cap : Nat) (w : World) (hx : Nodes w (some ad) xs) :
    Calls Tryz.prog 44 #[.slice (some ad) m cap] w fun e w' => ∃ g c, e = .returned (.slice (some ⟨g, 0, none⟩) m c) ∧ w.heap.size ≤ g ∧ Row w' g xs ∧ Below w.heap.size w w' := by
  obtain ⟨i0, hi, hz0, hz1, hz2⟩ := info_parts Tryz.infoN
  have hO := OwnN.empty (w := w) (B := w.heap.size) (Nat.le_refl _)
  have hnil : ∀ (w : World), (binOp .eql 23 (.slice (some ad) m cap) (.slice none 0 0)).run Tryz.prog w = .ok (.bool false) w := fun w => Lib.run_eql_slice_nil w _ _ (some ad) m cap 0 0 Tryz.underlying23
  have hn := Qln (hx.below ((Below.refl _ w).alloc (Nat.le_refl _) (.cells #[] 43)))
  go_enter Tryz.func44, Tryz.ntmps44
  clear hx
  go_wp2_with (at_builtin; refine Qac _ rfl (.tmp 5) (.tmp 6) 23 rfl w.heap.size 43 i0 _ 5 48 Tryz.underlying23 hi hz0 hz1 hz2 rfl (by decide) w.heap.size 0 0 _ rfl hO.2 ad m cap (flat xs) rfl ?a1 hn (Qjv xs) ?a3 ?a4 ?a5 ?_)
  case a1 => rw [Qca, HM.out]
  case a3 => unfold maxLen; omega
  case a4 => omega
  case a5 => simp
  intro g2 c2 w2 hown2 hgrow2 hwh
  have hF : OwnN w2 w.heap.size g2 c2 m xs := ⟨HM.out, by simpa [flat] using hown2⟩
  obtain ⟨hg, hr⟩ := hF.row
  have hbb : Below w.heap.size w w2 := ((Below.refl _ w).alloc (Nat.le_refl _) _).grown hgrow2 (by simp) (fun q hq => by cases hq; exact Nat.le_refl _)
  clear hown2 hgrow2 hwh hF hO hn
  go_wp2
  go_ret
  exact ⟨_, _, rfl, hg, hr, hbb⟩
def Ans (w : World) (B : Nat) (ao : Option Addr) (zs : List Nd) : Prop := zs = [] ∨ ∃ g, ao = some ⟨g, 0, none⟩ ∧ B ≤ g ∧ Row w g zs
theorem Ans.nodes {w : World} {B : Nat} {ao : Option Addr} {zs : List Nd} (h : Ans w B ao zs) : Nodes w ao zs := by
  rcases h with rfl | ⟨g, rfl, _, hr⟩
  · exact fun i hi => by simp at hi
  · exact hr.nodes
theorem Ans.mono {w : World} {B B' : Nat} {ao : Option Addr} {zs : List Nd} (h : Ans w B ao zs) (hB : B' ≤ B) : Ans w B' ao zs := by
  rcases h with rfl | ⟨g, rfl, h1, hr⟩
  · exact Or.inl rfl
  · exact Or.inr ⟨g, rfl, by omega, hr⟩
theorem Row.ans {w : World} {B g : Nat} {zs : List Nd} (h : Row w g zs) (hB : B ≤ g) : Ans w B (some ⟨g, 0, none⟩) zs := Or.inr ⟨g, rfl, hB, h⟩
end Go.Proofs.YtoiiibplkhedcaaGreatDoor
namespace Go.Proofs.YtoiiibplkhedcaaGreatDoor
open Go.RowKit Go.Maps
def Qbt (first : Int) (s : List Int × List Nd) (n : Nd) : List Int × List Nd :=
  if n.kind = 61 then (if placeIn s.1 n.num = s.1.length then s.1 ++ [n.num] else s.1, s.2 ++ [{ n with num := first + (placeIn s.1 n.num : Int) }])
  else (s.1, s.2 ++ [n])
def nmTo (first : Int) (t : List Nd) (k : Nat) : List Int × List Nd := (t.take k).foldl (Qbt first) ([], [])
theorem Qbb (first : Int) (t : List Nd) (k : Nat) (h : k < t.length) : nmTo first t (k + 1) = Qbt first (nmTo first t k) t[k] := by
  unfold nmTo
  rw [List.take_succ_eq_append_getElem h, List.foldl_append]
  rfl
theorem Qja (t : List Nd) (k : Nat) : nmTo 1 t k = Qbd t k := by
  have h : Qbt 1 = Qco := by
    funext s n
    unfold Qbt Qco
    rw [Int.add_comm]
  unfold nmTo Qbd
  rw [h]
theorem Qcy (first : Int) (t : List Nd) (k : Nat) (h : k ≤ t.length) : (nmTo first t k).2.length = k ∧ (nmTo first t k).1.length ≤ k := by
  induction k with
  | zero => simp [nmTo]
  | succ k ih =>
    obtain ⟨h1, h2⟩ := ih (by omega)
    rw [Qbb first t k (by omega)]
    unfold Qbt
    split
    · refine ⟨by simp [h1], ?_⟩
      simp only
      split
      · simp; omega
      · omega
    · exact ⟨by simp [h1], by simp only; omega⟩
theorem Qel (met : List Int) (x : Int) : placeIn met x ≤ met.length := List.findIdx_le_length
theorem Qfs (met : List Int) (x : Int) : placeIn (met ++ [x]) x = if placeIn met x = met.length then met.length else placeIn met x := by
  unfold placeIn
  rw [List.findIdx_append]
  have h := @List.findIdx_le_length _ (fun y => y == x) met
  by_cases h1 : List.findIdx (fun y => y == x) met = met.length
  · rw [if_pos h1, if_neg (by omega)]
    simp
  · rw [if_neg h1, if_pos (by omega)]
theorem Qfr (met : List Int) (x y : Int) (hne : y ≠ x) : placeIn (met ++ [x]) y = if placeIn met y = met.length then met.length + 1 else placeIn met y := by
  unfold placeIn
  rw [List.findIdx_append]
  have h := @List.findIdx_le_length _ (fun z => z == y) met
  by_cases h1 : List.findIdx (fun z => z == y) met = met.length
  · have h2 : (x == y) = false := by simpa using fun h => hne h.symm
    rw [if_pos h1, if_neg (by omega)]
    simp [h2, List.findIdx_cons, Nat.add_comm]
  · rw [if_neg h1, if_pos (by omega)]
def Qtm (first : Int) (met : List Int) (x : Int) : Int := if placeIn met x = met.length then 0 else first + placeIn met x
def NumsD (first : Int) (met : List Int) (D : DataW Unit) : Prop :=
  Tidy D ∧ Maps.size D = met.length ∧ ∀ x : Int, Maps.has D (.int .i64 x) = !(placeIn met x == met.length) ∧ D.atKey (.int .i64 x) (.lit (.int .i64 0)) = .lit (.int .i64 (Qtm first met x))
theorem NumsD.start (first : Int) : NumsD first [] (.map []) := ⟨tidy_empty, rfl, fun _ => ⟨rfl, rfl⟩⟩
theorem NumsD.store {first : Int} {met : List Int} {D : DataW Unit} (h : NumsD first met D) (x : Int) (hx : placeIn met x = met.length) :
    NumsD first (met ++ [x]) (D.put (.int .i64 x) (.lit (.int .i64 (first + met.length)))) := by
  obtain ⟨h1, h2, h3⟩ := h
  have hkl : ∀ z : Int, WideAt.IsKeyLit (.int .i64 z) := fun _ => trivial
  refine ⟨h1.put (hkl x) _, ?_, ?_⟩
  · rw [size_put h1, (h3 x).1, hx]
    simp [h2]
  · intro y
    by_cases hy : y = x
    · subst hy
      refine ⟨?_, ?_⟩
      · rw [has_put_same h1.isMap (hkl y), Qfs, if_pos hx]
        simp
      · rw [atKey_put_same h1.isMap (hkl y)]
        unfold Qtm
        rw [Qfs, if_pos hx, if_neg (by simp)]
    · have hne : (Lit.int .i64 y) ≠ (Lit.int .i64 x) := fun h => hy (by simpa using h)
      refine ⟨?_, ?_⟩
      · rw [has_put_other hne, (h3 y).1, Qfr _ _ _ hy]
        have := Qel met y
        by_cases h9 : placeIn met y = met.length
        · rw [if_pos h9]; simp [h9]
        · rw [if_neg h9]
          have q : (placeIn met y == met.length) = false := by simpa using h9
          have q2 : (placeIn met y == (met ++ [x]).length) = false := by simp; omega
          rw [q, q2]
      · rw [atKey_put_other hne, (h3 y).2]
        unfold Qtm
        rw [Qfr _ _ _ hy]
        have := Qel met y
        by_cases h9 : placeIn met y = met.length
        · rw [if_pos h9, if_pos h9, if_pos (by simp)]
        · rw [if_neg h9, if_neg h9, if_neg (by simp; omega)]
theorem Tryz.law2 : Keyed Tryz.prog 2 := int_keyed Tryz.underlying2
theorem Tryz.zero2 (w : World) : (zeroValue 2).run Tryz.prog w = .ok (.int .i64 0) w := by kernel_rfl
theorem Jbt (ys zs : List Nd) (z y : Nd) (k : Nat) (h : ys.length = k) : (ys ++ z :: zs).set k y = ys ++ [y] ++ zs := by
  subst h
  simp
theorem Row.putNum {w : World} {g : Nat} {ys : List Nd} (h : Row w g ys) (i : Nat) (hi : i < ys.length) (v : Int) :
    Row (w.setCell ⟨g, i * 5 + 1, none⟩ (.int .i64 v)) g (ys.set i { ys[i] with num := v }) := by
  have hl := Qca ys
  refine (Own.set h (i * 5 + 1) _ (by omega)).row ?_
  rw [← Jap ys i hi]
  apply List.ext_getElem?
  intro j
  simp only [List.getElem?_set, List.length_set]
  have e0 := Qea ys i 0 hi (by omega)
  have e2 := Qea ys i 2 hi (by omega)
  have e3 := Qea ys i 3 hi (by omega)
  have e4 := Qea ys i 4 hi (by omega)
  simp only [Nd.row, Nat.add_zero] at e0 e2 e3 e4
  simp only [List.getElem?_cons_zero, List.getElem?_cons_succ] at e0 e2 e3 e4
  by_cases j4 : i * 5 + 4 = j
  · subst j4; simp [e4, hl]; omega
  · by_cases j3 : i * 5 + 3 = j
    · subst j3; simp [e3, hl]; omega
    · by_cases j2 : i * 5 + 2 = j
      · subst j2; simp [e2, hl]; omega
      · by_cases j1 : i * 5 + 1 = j
        · subst j1; simp [hl]
        · by_cases j0 : i * 5 = j
          · subst j0; simp [e0, hl]; omega
          · simp [j0, j1, j2, j3, j4]
theorem Qzi {w w' : World} {g k : Nat} {ys : List Nd} (h : Row w g ys) (hg : w.grownBy w' (some k)) (hne : g ≠ k) : Row w' g ys := by
  have hlt := h.lt
  obtain ⟨cur, rest, hb, e⟩ := h
  exact ⟨cur, rest, (hg.block g hlt (by simpa using hne)).trans hb, e⟩
theorem Qpq {w w' : World} {g k o : Nat} (hg : w.grownBy w' (some k)) (hl : g < w.heap.size) (hne : g ≠ k) : w'.cell? ⟨g, o, none⟩ = w.cell? ⟨g, o, none⟩ := by
  have h := hg.block g hl (by simpa using hne)
  unfold World.cell?
  rw [h]
theorem Row.putMid {w : World} {g k : Nat} {out rest : List Nd} {kd nm v : Int} {tx : ByteArray} {ks pl : Int} (h : Row w g (out ++ (⟨kd, nm, tx, ks, pl⟩ : Nd) :: rest)) (hk : out.length = k) :
    Row (w.setCell ⟨g, k * 5 + 1, none⟩ (.int .i64 v)) g (out ++ [⟨kd, v, tx, ks, pl⟩] ++ rest) := by
  have hlen : k < (out ++ (⟨kd, nm, tx, ks, pl⟩ : Nd) :: rest).length := by simp [hk]
  have e9 : (out ++ (⟨kd, nm, tx, ks, pl⟩ : Nd) :: rest)[k] = ⟨kd, nm, tx, ks, pl⟩ := by
    rw [List.getElem_append_right (by omega)]
    simp [hk]
  have h9 := h.putNum k hlen v
  rw [e9, Jbt _ _ _ _ _ hk] at h9
  exact h9
theorem Row.midNum {w : World} {g k : Nat} {out rest : List Nd} {kd nm : Int} {tx : ByteArray} {ks pl : Int} (h : Row w g (out ++ (⟨kd, nm, tx, ks, pl⟩ : Nd) :: rest)) (hk : out.length = k) :
    w.cell? ⟨g, k * 5 + 1, none⟩ = some (.int .i64 nm) := by
  have hlen : k < (out ++ (⟨kd, nm, tx, ks, pl⟩ : Nd) :: rest).length := by simp [hk]
  have e9 : (out ++ (⟨kd, nm, tx, ks, pl⟩ : Nd) :: rest)[k] = ⟨kd, nm, tx, ks, pl⟩ := by
    rw [List.getElem_append_right (by omega)]
    simp [hk]
  have hn := h.node k hlen
  rw [e9] at hn
  exact hn.2.1
theorem Qdc (first : Int) (hf : 1 ≤ first) (hf2 : first ≤ 1000) (t : List Nd) (m : Nat) (HM : Hid (t.length = m)) (hm : m ≤ 300) (HW : Hid (∀ n ∈ t, n.kind = 61 → (Lit.int .i64 n.num).wf = true)) (b o cap : Nat) (w : World) (hx : Nodes w (some ⟨b, o, none⟩) t) :
    Calls Tryz.prog 19 #[.int .i64 first, .slice (some ⟨b, o, none⟩) m cap] w fun e w' => ∃ g c, e = .returned (.slice (some ⟨g, 0, none⟩) m c) ∧ w.heap.size ≤ g ∧ Row w' g (nmTo first t m).2 ∧ Below w.heap.size w w' := by
  have hmm := @run_makeMap Tryz.prog
  go_enter Tryz.func19, Tryz.ntmps19
  go_wp2_with fail
  refine (Qpo t m HM (by omega) _ cap w hx).mono ?_
  rintro e w1 ⟨g, c, rfl, hg, hr, hb⟩
  have hx1 := hx.below hb
  have hr1 : g < w1.heap.size := hr.lt
  go_wp2
  go_loopw [14] (fun i wr => ∃ (k : Nat) (D : DataW Unit), k ≤ m ∧ i = .int .i64 k ∧ wr.ownsMap Tryz.prog 2 (plainElem Tryz.prog 2) w1.heap.size k D ∧ NumsD first (nmTo first t k).1 D ∧ Row wr g ((nmTo first t k).2 ++ t.drop k) ∧ Below w.heap.size w wr)
    (fun i _ => m - (intOf i).toNat)
  case atStart => 
    refine ⟨0, .map [], Nat.zero_le _, rfl, World.ownsMap_made _ _ _ _, NumsD.start _, ?_, hb.alloc hb.size _⟩
    simpa [nmTo] using hr.below ((Below.refl _ _).alloc (Nat.le_refl _) _)
  case round =>
    obtain ⟨k, D, hk, rfl, hown, hN, hrow, hbl⟩ := hrel
    by_cases hlt : k < m
    · have hltx : k < t.length := by have := HM.out; omega
      obtain ⟨hol, hml⟩ := Qcy first t k (by omega)
      have hsucc := Qbb first t k hltx
      have hdrop : t.drop k = t[k] :: t.drop (k + 1) := (List.drop_eq_getElem_cons hltx)
      have hxw := HW.out t[k] (List.getElem_mem hltx)
      obtain ⟨x, hxk⟩ : ∃ x, t[k] = x := ⟨_, rfl⟩
      obtain ⟨b', o', ebo, hcx⟩ := hx.below hbl k hltx
      simp only [Option.some.injEq, Addr.mk.injEq, and_true] at ebo
      obtain ⟨rfl, rfl⟩ := ebo
      rw [hxk] at hcx hsucc hdrop hxw
      obtain ⟨met, hmet⟩ : ∃ met, (nmTo first t k).1 = met := ⟨_, rfl⟩
      obtain ⟨out, hout⟩ : ∃ out, (nmTo first t k).2 = out := ⟨_, rfl⟩
      have hpair : nmTo first t k = (met, out) := by rw [← hmet, ← hout]
      rw [hpair] at hsucc
      rw [hmet] at hN hml
      rw [hout, hdrop] at hrow
      rw [hout] at hol
      obtain ⟨c0, c1, c2, c3, c4⟩ := hcx
      have hlb : b < wr.heap.size := Qaa c0
      have HS : Hid (nmTo first t (k + 1) = Qbt first (met, out) x) := hsucc
      have HR : Hid (Row wr g (out ++ x :: t.drop (k + 1))) := hrow
      clear hx hx1 hxk hmet hout hpair hsucc hdrop hrow hr
      obtain ⟨kd, nm, tx, ks, pl⟩ := x
      simp only at c0 c1 c2 c3 c4 hxw
      by_cases h61 : kd = 61
      · subst h61
        have hxw := hxw rfl
        have hkey : keyOf Tryz.prog 2 (.int .i64 nm) = some (.int .i64 nm) := keyOf_int_mk Tryz.underlying2 hxw
        by_cases hnew : placeIn met nm = met.length
        · have hc0 : ∀ c, D.atKey (.int .i64 nm) (.lit (.int .i64 0)) = .lit (.int .i64 c) → c = 0 := by
            intro c hc
            rw [(hN.2.2 nm).2, Qtm, if_pos hnew] at hc
            simpa using hc.symm
          have hsz := hN.2.1
          have hN2 := hN.store nm hnew
          have hwf : (Lit.int .i64 (first + (met.length : Int))).wf = true := WalkArith.wf_i64 (by omega)
          have hc1 : ∀ c, (D.put (.int .i64 nm) (.lit (.int .i64 (first + (met.length : Int))))).atKey (.int .i64 nm) (.lit (.int .i64 0)) = .lit (.int .i64 c) → c = first + (met.length : Int) := by
            intro c hc
            rw [(hN2.2.2 nm).2, Qtm, Qfs, if_pos hnew, if_neg (by simp)] at hc
            simpa using hc.symm
          have HS2 : Hid (nmTo first t (k + 1) = (met ++ [nm], out ++ [⟨61, first + (met.length : Int), tx, ks, pl⟩])) := by
            rw [Hid, HS.out, Qbt, if_pos rfl]
            simp only
            rw [if_pos hnew, hnew]
          clear HS
          have hgr := HR.out.lt
          have hmlt := hown.lt
          have hgw : g < w1.heap.size := hr1
          have HF : Hid (∀ W2, (wr.alloc (.cells #[.int .i64 61, .int .i64 nm, .string tx, .int .i64 ks, .int .i64 pl] 43)).grownBy W2 (some w1.heap.size) → Row W2 g (out ++ (⟨61, nm, tx, ks, pl⟩ : Nd) :: t.drop (k + 1)) ∧ Below w.heap.size w W2 ∧ W2.cell? ⟨wr.heap.size, 1, none⟩ = some (.int .i64 nm) ∧ W2.cell? ⟨g, k * 5 + 1, none⟩ = some (.int .i64 nm) ∧ W2.frozen? ⟨g, k * 5 + 1, none⟩ = false) := by
            intro W2 hgw2
            have hr2 := Qzi (HR.out.below ((Below.refl _ _).alloc (Nat.le_refl _) _)) hgw2 (by omega)
            refine ⟨hr2, (hbl.alloc hbl.size _).grown hgw2 (hbl.alloc hbl.size _).size (fun j hj => by cases hj; exact hb.size), ?_, ?_, hr2.frozen _⟩
            · rw [Qpq hgw2 (by simp) (by omega), cell_of_row _ _ _ _ _ _ (heap_alloc_new _ _)]
              rfl
            · exact hr2.midNum hol
          go_wp2_with (first
            | (at_lookup; refine wpList_lookup_own_int _ rfl _ _ 87 rfl 2 2 .i64 Tryz.law2 Tryz.underlying87 Tryz.underlying2 (Tryz.zero2 _) w1.heap.size k _ rfl (hown.alloc _) _ _ rfl hkey ?_; intro c hat hwc; obtain rfl := hc0 c hat)
            | (at_len; refine wpList_len_own _ rfl _ 87 rfl 2 2 Tryz.underlying87 _ w1.heap.size k _ rfl (hown.alloc _) ?_; rw [hsz])
            | (at_mapUpdate; refine wpList_mapUpdate_own _ rfl _ _ _ 87 rfl 2 2 Tryz.law2 Tryz.underlying87 _ w1.heap.size k _ rfl (hown.alloc _) (by unfold maxLen; omega) _ _ _ rfl rfl hkey _ [] (plainElem_int Tryz.underlying2 hwf) ?_; intro w2 hown2 hgrow2; obtain ⟨r2, b2, q1, q2, q3⟩ := HF.out w2 hgrow2)
            | (at_lookup; refine wpList_lookup_own_int _ rfl _ _ 87 rfl 2 2 .i64 Tryz.law2 Tryz.underlying87 Tryz.underlying2 (Tryz.zero2 _) w1.heap.size (k + 1) _ rfl hown2 _ _ rfl hkey ?_; intro c hat hwc; obtain rfl := hc1 c hat)
            | go_in)
          go_roundw
          case rel =>
            refine ⟨k + 1, _, by omega, by go_num, hown2.setCell (by simp; omega) _, by rw [HS2.out]; exact hN2, ?_, b2.setCell hg _⟩
            rw [HS2.out]
            exact r2.putMid hol
          case measure => simp [intOf]; omega
        · have hle := Qel met nm
          have hc0 : ∀ c, D.atKey (.int .i64 nm) (.lit (.int .i64 0)) = .lit (.int .i64 c) → c = first + (placeIn met nm : Int) := by
            intro c hc
            rw [(hN.2.2 nm).2, Qtm, if_neg hnew] at hc
            simpa using hc.symm
          have HS2 : Hid (nmTo first t (k + 1) = (met, out ++ [⟨61, first + (placeIn met nm : Int), tx, ks, pl⟩])) := by
            rw [Hid, HS.out, Qbt, if_pos rfl]
            simp only
            rw [if_neg hnew]
          obtain ⟨v, hv⟩ : ∃ v, first + (placeIn met nm : Int) = v := ⟨_, rfl⟩
          rw [hv] at HS2 hc0
          have hv0 : (v == 0) = false := by simp; omega
          have hr2 := HR.out.below ((Below.refl _ _).alloc (Nat.le_refl _) (.cells #[.int .i64 61, .int .i64 nm, .string tx, .int .i64 ks, .int .i64 pl] 43))
          have q2 := hr2.midNum hol
          have q3 := hr2.frozen (k * 5 + 1)
          have hgr := HR.out.lt
          have hmlt := hown.lt
          clear HS hnew hle hv
          go_wp2_with (first
            | (at_lookup; refine wpList_lookup_own_int _ rfl _ _ 87 rfl 2 2 .i64 Tryz.law2 Tryz.underlying87 Tryz.underlying2 (Tryz.zero2 _) w1.heap.size k _ rfl (hown.alloc _) _ _ rfl hkey ?_; intro c hat hwc; obtain rfl : v = c := (hc0 c hat).symm)
            | go_in)
          go_roundw
          case rel =>
            have b9 := hbl.setCell (p := ⟨g, k * 5 + 1, none⟩) hg (.int .i64 v)
            refine ⟨k + 1, D, by omega, by go_num, ((hown.setCell (a := ⟨g, k * 5 + 1, none⟩) (by simp; omega) _).alloc _).mono (by omega), by rw [HS2.out]; exact hN, ?_, b9.alloc b9.size _⟩
            rw [HS2.out]
            exact (HR.out.putMid hol).below ((Below.refl _ _).alloc (Nat.le_refl _) _)
          case measure => simp [intOf]; omega
      · have t61 : ((kd : Int) != 61) = true := by simpa using h61
        have HS2 : Hid (nmTo first t (k + 1) = (met, out ++ [⟨kd, nm, tx, ks, pl⟩])) := by
          rw [Hid, HS.out, Qbt, if_neg h61]
        clear HS hxw
        go_wp2
        go_roundw
        case rel =>
          refine ⟨k + 1, D, by omega, by go_num, (hown.alloc _).mono (by omega), by rw [HS2.out]; exact hN, ?_, hbl.alloc hbl.size _⟩
          rw [HS2.out]
          simpa using HR.out.below ((Below.refl _ _).alloc (Nat.le_refl _) _)
        case measure => simp [intOf]; omega
    · obtain rfl : k = m := by omega
      have HE : Hid (Row wr g (nmTo first t k).2) := by
        have := hrow
        rw [List.drop_of_length_le (by have := HM.out; omega), List.append_nil] at this
        exact this
      clear hrow hx hx1 hr
      go_wp2
      go_ret
      exact ⟨g, c, rfl, hg, HE.out, hbl⟩
end Go.Proofs.YtoiiibplkhedcaaGreatDoor
namespace Go.Proofs.YtoiiibplkhedcaaGreatDoor
open Go.RowKit Go.Shelf
attribute [local go_sem] Oper.semAt_some
def Box1 (w : World) (b : Nat) (t : TypeId) (v : Value) : Prop := w.heap[b]? = some (.cells #[v] t (0, 0))
theorem Box1.lt {w : World} {b : Nat} {t : TypeId} {v : Value} (h : Box1 w b t v) : b < w.heap.size := (Array.getElem?_eq_some_iff.1 h).1
theorem Box1.cell {w : World} {b : Nat} {t : TypeId} {v : Value} (h : Box1 w b t v) : w.cell? ⟨b, 0, none⟩ = some v := by rw [cell_of_row w b 0 _ t (0, 0) h]; rfl
theorem Box1.below {w w' : World} {B b : Nat} {t : TypeId} {v : Value} (h : Box1 w b t v) (hb : Below B w w') (hlt : b < B) : Box1 w' b t v := (hb.block b hlt).trans h
theorem Box1.but {S : Nat → Prop} {w w' : World} {b : Nat} {t : TypeId} {v : Value} (h : Box1 w b t v) (hb : But S w w') (hs : ¬ S b) : Box1 w' b t v := (hb.block b h.lt hs).trans h
theorem Box1.new (w : World) (t : TypeId) (v : Value) : Box1 (w.alloc (.cells #[v] t)) w.heap.size t v := heap_alloc_new _ _
theorem Box1.alloc {w : World} {b : Nat} {t : TypeId} {v : Value} (h : Box1 w b t v) (o : Obj) : Box1 (w.alloc o) b t v := (Below.heap_alloc w o b h.lt).trans h
end Go.Proofs.YtoiiibplkhedcaaGreatDoor

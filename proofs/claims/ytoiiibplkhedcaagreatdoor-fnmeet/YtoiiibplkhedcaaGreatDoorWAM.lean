import Derived.Test.YtoiiibplkhedcaaGreatDoorWAL
set_option maxRecDepth 100000
set_option maxHeartbeats 2000000
namespace Go.Proofs.YtoiiibplkhedcaaGreatDoor
open Go.RowKit
def Qbs (bs : List (Int × List Nd)) (x : Int) : Int := if placeIn (bs.map Prod.fst) x < bs.length then (placeIn (bs.map Prod.fst) x : Int) else -1
theorem Qpu (bs : List (Int × List Nd)) (n : Nat) (HM : Hid (bs.length = n)) (hn : n ≤ 1048576) (x : Int) (ao : Option Addr) (cap : Nat) (w : World) (hr : Binds w ao bs) :
    Calls Tryz.prog 24 #[.slice ao n cap, .int .i64 x] w fun e w' => e = .returned (.int .i64 (Qbs bs x)) ∧ Below w.heap.size w w' := by
  go_enter Tryz.func24, Tryz.ntmps24
  go_wp2
  go_loopw [5] (fun i wr => ∃ (k : Nat), k ≤ n ∧ i = .int .i64 k ∧ (∀ i (h : i < (bs.map Prod.fst).length), i < k → (bs.map Prod.fst)[i] ≠ x) ∧ Below w.heap.size w wr) (fun i _ => n - (intOf i).toNat)
  case atStart => exact ⟨0, Nat.zero_le _, rfl, fun i _ h => absurd h (by omega), Below.refl _ _⟩
  case round =>
    obtain ⟨k, hk, rfl, hall, hb⟩ := hrel
    by_cases hlt : k < n
    · have hltx : k < bs.length := by have := HM.out; omega
      have hltm : k < (bs.map Prod.fst).length := by simp; exact hltx
      obtain ⟨b, o, ai, ci, rfl, c0, _, _⟩ := hr.below hb k hltx
      have hlb : b < wr.heap.size := Qaa c0
      by_cases he : bs[k].1 = x
      · have HV : Hid (Qbs bs x = (k : Int)) := by
          have h9 := Qew (x := x) hltm (by simpa using he) hall
          show Qbs bs x = _
          unfold Qbs
          rw [h9, if_pos hltx]
        rw [he] at c0
        have te : ((x : Int) == x) = true := by simp
        clear hall hr he
        go_wp2
        go_ret
        exact ⟨by rw [HV.out]; rfl, hb⟩
      · have te : (bs[k].1 == x) = false := by simpa using he
        have HA : Hid (∀ i (h : i < (bs.map Prod.fst).length), i < k + 1 → (bs.map Prod.fst)[i] ≠ x) := by
          intro i h hi
          by_cases e : i = k
          · subst e; simpa using he
          · exact hall i h (by omega)
        obtain ⟨v, hv⟩ : ∃ v, bs[k].1 = v := ⟨_, rfl⟩
        rw [hv] at c0 te
        clear hall hr he hv
        go_wp2
        go_roundw
        case rel => exact ⟨k + 1, by omega, by go_num, HA.out, hb⟩
        case measure => simp [intOf]; omega
    · have HV : Hid (Qbs bs x = -1) := by
        have h9 := Qdy (met := bs.map Prod.fst) (x := x) (fun i h => hall i h (by have := HM.out; simp at h; omega))
        show Qbs bs x = _
        unfold Qbs
        rw [h9, if_neg (by simp)]
      clear hall hr
      go_wp2
      go_ret
      exact ⟨by rw [HV.out]; rfl, hb⟩
theorem But.cell {S : Nat → Prop} {w w' : World} (h : But S w w') {b o : Nat} (hlt : b < w.heap.size) (hn : ¬ S b) : w'.cell? ⟨b, o, none⟩ = w.cell? ⟨b, o, none⟩ :=
  World.cell?_of_block (a := ⟨b, o, none⟩) (h.block b hlt hn)
theorem Nodes.but {S : Nat → Prop} {w w' : World} {ao : Option Addr} {xs : List Nd} (h : Nodes w ao xs) (hb : But S w w') (hd : ∀ b o, ao = some ⟨b, o, none⟩ → ¬ S b) : Nodes w' ao xs := by
  intro i hi
  obtain ⟨b, o, e, c0, c1, c2, c3, c4⟩ := h i hi
  have hlt : b < w.heap.size := Qaa c0
  have hn := hd b o e
  exact ⟨b, o, e, (hb.cell hlt hn).trans c0, (hb.cell hlt hn).trans c1, (hb.cell hlt hn).trans c2, (hb.cell hlt hn).trans c3, (hb.cell hlt hn).trans c4⟩
theorem But.grown {S : Nat → Prop} {w a b : World} {g : Nat} (h : But S w a) (hg : a.grownBy b (some g)) (hs : g < w.heap.size → S g) : But S w b :=
  ⟨hg.os.trans h.os, hg.tape.trans h.tape, hg.output.trans h.output, Nat.le_trans h.size hg.size, fun i hi hn => (hg.block i (Nat.lt_of_lt_of_le hi h.size) (by
    intro e
    simp only [Option.some.injEq] at e
    subst e
    exact hn (hs hi))).trans (h.block i hi hn)⟩
theorem But.alloc {S : Nat → Prop} {w a : World} (h : But S w a) (o : Obj) : But S w (a.alloc o) := h.trans (But.ofBelow ((Below.refl _ _).alloc (Nat.le_refl _) _))
theorem Quj (B g c l q : Nat) (zs ys : List Nd) (HQ : Hid (ys.length = q)) (hq : q ≤ 1048576) (hl : l ≤ 1048576) (bo : Option Addr) (cap : Nat) (w : World) (ho : OwnN w B g c l zs) (hy : Nodes w bo ys) (hd : ∀ b o, bo = some ⟨b, o, none⟩ → b ≠ g) :
    Calls Tryz.prog 25 #[.slice (some ⟨g, 0, none⟩) l c, .slice bo q cap] w fun e w' => ∃ g' c', e = .returned (.slice (some ⟨g', 0, none⟩) (l + q) c') ∧ OwnN w' B g' c' (l + q) (zs ++ ys) ∧ (g' = g ∨ w.heap.size ≤ g') ∧ But (· = g) w w' := by
  obtain ⟨i0, hi, hz0, hz1, hz2⟩ := info_parts Tryz.infoN
  have hgl := (Qad ho.2).2
  go_enter Tryz.func25, Tryz.ntmps25
  go_wp2
  go_loopw [0, 5] (fun v p wr => ∃ (k g' c' : Nat), k ≤ q ∧ p = .int .i64 k ∧ v = .slice (some ⟨g', 0, none⟩) (l + k) c' ∧ OwnN wr B g' c' (l + k) (zs ++ ys.take k) ∧ (g' = g ∨ w.heap.size ≤ g') ∧ But (· = g) w wr) (fun _ p _ => q - (intOf p).toNat)
  case atStart => exact ⟨0, g, c, Nat.zero_le _, rfl, rfl, by simpa using ho, Or.inl rfl, But.refl _ _⟩
  case round =>
    obtain ⟨k, g', c', hk, rfl, rfl, hown, hgg, hb⟩ := hrel
    by_cases hlt : k < q
    · have hltk : k < ys.length := by have := HQ.out; omega
      obtain ⟨b, o, rfl, hn⟩ := (hy.but hb hd) k hltk
      obtain ⟨x, hxk⟩ : ∃ x, ys[k] = x := ⟨_, rfl⟩
      rw [hxk] at hn
      obtain ⟨c0, c1, c2, c3, c4⟩ := hn
      have HT : Hid (zs ++ ys.take (k + 1) = zs ++ ys.take k ++ [x]) := by show zs ++ ys.take (k + 1) = _; rw [List.take_succ_eq_append_getElem hltk, hxk, List.append_assoc]
      have hob := Qad hown.2
      clear hy hxk ho hd
      go_wp2_with (at_builtin; refine Qac _ rfl (.tmp 12) (.tmp 17) 23 rfl B 43 i0 _ 5 48 Tryz.underlying23 hi hz0 hz1 hz2 rfl (by decide) g' (l + k) c' _ rfl (hown.alloc _).2 ⟨_, 0, none⟩ 1 1 x.row rfl rfl (Qbj _ x) (Qbp x) ?a3 ?a4 ?a5 ?_)
      case a3 => unfold maxLen; omega
      case a4 => omega
      case a5 => have := hb.size; simp; omega
      intro g2 c2' w2 hown2 hgrow2 hwh
      have hO := OwnN.push hown2 hown.1 rfl
      rw [← HT.out] at hO
      have hbb : But (· = g) w w2 := (hb.alloc _).grown hgrow2 (by intro h; rcases hgg with h9 | h9 <;> omega)
      have hg2 : g2 = g ∨ w.heap.size ≤ g2 := by
        have := hb.size
        rcases hwh with h | h
        · rcases hgg with h9 | h9 <;> omega
        · right
          omega
      clear hown2 hgrow2 hwh hown hb c0 c1 c2 c3 c4
      go_wp2
      go_roundw
      case rel => exact ⟨k + 1, g2, c2', by omega, by go_num, rfl, hO, hg2, hbb⟩
      case measure => simp [intOf]; omega
    · have hke : k = q := by omega
      subst hke
      rw [List.take_of_length_le (by have := HQ.out; omega)] at hown
      clear hy ho hd
      go_wp2
      go_ret
      exact ⟨_, _, rfl, hown, hgg, hb⟩
def Qbg (bs : List (Int × List Nd)) (n : Nd) : List Nd := if n.kind = 61 then ((bs[placeIn (bs.map Prod.fst) n.num]?).map Prod.snd).getD [n] else [n]
def Qam (bs : List (Int × List Nd)) (t : List Nd) : List Nd := t.flatMap (Qbg bs)
def Qai (bs : List (Int × List Nd)) (t : List Nd) : List Nd := if typeb t = true ∧ (∀ b ∈ bs, typeb b.2 = true) ∧ (Qam bs t).length ≤ 300 then Qam bs t else []
theorem Qjq (bs : List (Int × List Nd)) (t : List Nd) (k : Nat) (h : k < t.length) : Qam bs (t.take (k + 1)) = Qam bs (t.take k) ++ Qbg bs t[k] := by
  rw [List.take_succ_eq_append_getElem h]
  simp only [Qam, List.flatMap_append, List.flatMap_cons, List.flatMap_nil, List.append_nil]
theorem Qob (bs : List (Int × List Nd)) (t : List Nd) (k : Nat) : (Qam bs (t.take k)).length ≤ (Qam bs t).length := by
  have e : Qam bs t = Qam bs (t.take k) ++ Qam bs (t.drop k) := by
    conv => lhs; rw [← List.take_append_drop k t]
    simp only [Qam, List.flatMap_append]
  rw [e]
  simp
theorem Qfj {t : List Nd} (h : typeb t = true) : 0 < t.length := by
  simp only [typeb, Bool.and_eq_true, decide_eq_true_eq] at h
  by_cases h0 : t.length = 0
  · have := Qij h0
    omega
  · omega
theorem Qao {t : List Nd} (h : typeb t = true) : t.length ≤ 300 := by
  simp only [typeb, Bool.and_eq_true, decide_eq_true_eq] at h
  exact h.1.1
theorem Qhy {w : World} {B g c l : Nat} {zs : List Nd} (h : OwnN w B g c l zs) : l ≤ c := by
  obtain ⟨_, ho⟩ := h
  rcases ho.2 with ⟨h', _⟩ | ⟨g2, cap2, cur, he, _, _, hc, _⟩
  · cases h'
  · simp only [Value.slice.injEq, Option.some.injEq, Addr.mk.injEq, and_true, true_and] at he
    obtain ⟨rfl, rfl⟩ := he
    exact hc
theorem Qin (bs : List (Int × List Nd)) (n : Nat) (HN : Hid (bs.length = n)) (hn : n ≤ 1048576) (hm : ∀ b ∈ bs, b.2.length ≤ 1048576) (t : List Nd) (m : Nat) (HM : Hid (t.length = m)) (hml : m ≤ 1048576) (ao bo : Option Addr) (ca cb : Nat) (w : World) (hbs : Binds w ao bs) (hx : Nodes w bo t) :
    Calls Tryz.prog 8 #[.slice ao n ca, .slice bo m cb] w fun e w' => ∃ g c l, e = .returned (.slice (some ⟨g, 0, none⟩) l c) ∧ w.heap.size ≤ g ∧ (Qai bs t).length = l ∧ Row w' g (Qai bs t) ∧ Below w.heap.size w w' ∧ l ≤ c := by
  obtain ⟨i0, hi, hz0, hz1, hz2⟩ := info_parts Tryz.infoN
  go_enter Tryz.func8, Tryz.ntmps8
  have hA : Below w.heap.size w (w.alloc (.cells #[] 43)) := (Below.refl _ w).alloc (Nat.le_refl _) _
  have hO := OwnN.empty (w := w) (B := w.heap.size) (Nat.le_refl _)
  go_wp2_with fail
  refine (Qcx t m HM hml bo cb _ (hx.below hA)).mono ?_
  rintro e w1 ⟨rfl, hb1⟩
  have hO1 := hO.below hb1
  have hb := Below.step hA hb1
  clear hO hA hb1
  cases ht : typeb t
  · have HV : Hid (Qai bs t = []) := by
      show Qai bs t = []
      unfold Qai
      rw [if_neg (fun h => by rw [ht] at h; exact absurd h.1 (by decide))]
    have hcp := Qhy hO1
    obtain ⟨hg, hr⟩ := hO1.row
    clear hO1 hx hbs hm
    go_wp2
    go_ret
    exact ⟨_, _, _, rfl, hg, by rw [HV.out]; rfl, by rw [HV.out]; exact hr, hb, hcp⟩
  · have h3 : m ≤ 300 := by have := Qao ht; have := HM.out; omega
    have HT : Hid (typeb t = true) := ht
    clear ht
    go_wp2
    go_loopw [6] (fun p wr => ∃ (k : Nat), k ≤ n ∧ p = .int .i64 k ∧ (∀ b ∈ bs.take k, typeb b.2 = true) ∧ OwnN wr w.heap.size w.heap.size 0 0 [] ∧ Below w.heap.size w wr) (fun p _ => n - (intOf p).toNat)
    case atStart => exact ⟨0, Nat.zero_le _, rfl, by simp, hO1, hb⟩
    case round =>
      clear hO1 hb
      obtain ⟨k, hk, rfl, hall, hnone, hb⟩ := hrel
      by_cases hlt : k < n
      · have hltk : k < bs.length := by have := HN.out; omega
        obtain ⟨b, o, ai, ci, rfl, hc0, hc, hnd⟩ := hbs.below hb k hltk
        have hmk := hm bs[k] (List.getElem_mem hltk)
        have HS : Hid (typeb bs[k].2 = true → ∀ b ∈ bs.take (k + 1), typeb b.2 = true) := by
          intro h9 b hb9
          rw [List.take_succ_eq_append_getElem hltk] at hb9
          rcases List.mem_append.1 hb9 with h8 | h8
          · exact hall b h8
          · simp at h8
            subst h8
            exact h9
        have HF : Hid (typeb bs[k].2 = false → Qai bs t = []) := by
          intro h9
          unfold Qai
          rw [if_neg (fun h => by have := h.2.1 bs[k] (List.getElem_mem hltk); rw [h9] at this; exact absurd this (by decide))]
        obtain ⟨⟨bn, ks⟩, hks⟩ : ∃ p, bs[k] = p := ⟨_, rfl⟩
        rw [hks] at hc hnd hmk hc0 HS HF
        simp only at hc hnd hmk hc0 HS HF
        obtain ⟨l, hl⟩ : ∃ l, ks.length = l := ⟨_, rfl⟩
        have HL : Hid (ks.length = l) := hl
        rw [hl] at hc hmk
        have hlb : b < wr.heap.size := Qaa hc
        clear hbs hx hm hks hl hall
        go_wp2_with fail
        refine (Qcx ks l HL hmk ai ci wr hnd).mono ?_
        rintro e w2 ⟨rfl, hb2⟩
        have hnone2 := hnone.below hb2
        have hbb := Below.step hb hb2
        clear hnone hb hb2 hc hc0 hnd
        cases hty : typeb ks
        · have HV : Hid (Qai bs t = []) := HF.out hty
          have hcp := Qhy hnone2
          obtain ⟨hg, hr⟩ := hnone2.row
          clear hnone2
          go_wp2
          go_ret
          exact ⟨_, _, _, rfl, hg, by rw [HV.out]; rfl, by rw [HV.out]; exact hr, hbb, hcp⟩
        · have HA : Hid (∀ b ∈ bs.take (k + 1), typeb b.2 = true) := HS.out hty
          go_wp2
          go_roundw
          case rel => exact ⟨k + 1, by omega, by go_num, HA.out, hnone2, hbb⟩
          case measure => simp [intOf]; omega
      · have HA : Hid (∀ b ∈ bs, typeb b.2 = true) := by
          have h9 := hall
          rw [List.take_of_length_le (by have := HN.out; omega)] at h9
          exact h9
        have HV : Hid (Qai bs t = if (Qam bs t).length ≤ 300 then Qam bs t else []) := by
          show Qai bs t = _
          unfold Qai
          by_cases hle : (Qam bs t).length ≤ 300
          · rw [if_pos ⟨HT.out, HA.out, hle⟩, if_pos hle]
          · rw [if_neg (fun h => hle h.2.2), if_neg hle]
        have hO3 := OwnN.empty (w := wr) (B := w.heap.size) hb.size
        have hN3 := hnone.alloc (.cells #[] 43)
        have hb3 := hb.alloc hb.size (.cells #[] 43)
        have hnb := (Qad hnone.2).2
        clear hall hnone hb
        go_wp2
        go_loopw [7, 8] (fun v p wq => ∃ (k g c l : Nat), k ≤ m ∧ p = .int .i64 k ∧ v = .slice (some ⟨g, 0, none⟩) l c ∧ l ≤ 300 ∧ OwnN wq w.heap.size g c l (Qam bs (t.take k)) ∧ g ≠ w.heap.size ∧ OwnN wq w.heap.size w.heap.size 0 0 [] ∧ Below w.heap.size w wq) (fun _ p _ => m - (intOf p).toNat)
        case atStart => exact ⟨0, wr.heap.size, 0, 0, Nat.zero_le _, rfl, rfl, by omega, by simpa [Qam] using hO3, by omega, hN3, hb3⟩
        case round =>
          clear hO3 hN3 hb3 hnb
          obtain ⟨k, g, c, l, hk, rfl, rfl, hl3, hown, hne, hnone, hb⟩ := hrel
          by_cases hlt : k < m
          · have hltx : k < t.length := by have := HM.out; omega
            obtain ⟨⟨kd, nm, tx, ks, pl⟩, hxk⟩ : ∃ x, t[k] = x := ⟨_, rfl⟩
            obtain ⟨b, o, rfl, hcx⟩ := hx.below hb k hltx
            rw [hxk] at hcx
            obtain ⟨c0, c1, c2, c3, c4⟩ := hcx
            simp only at c0 c1 c2 c3 c4
            have hlb : b < wr.heap.size := Qaa c0
            have hob := Qad hown.2
            have HS : Hid (Qam bs (t.take (k + 1)) = Qam bs (t.take k) ++ Qbg bs ⟨kd, nm, tx, ks, pl⟩) := by
              show Qam bs (t.take (k + 1)) = _
              rw [Qjq bs t k hltx, hxk]
            have HE : Hid (300 < (Qam bs (t.take (k + 1))).length → Qai bs t = []) := by
              intro h9
              have h8 := Qob bs t (k + 1)
              rw [HV.out, if_neg (by omega)]
            generalize Qam bs (t.take k) = acc at *
            clear hxk
            by_cases h61 : kd = 61
            · subst h61
              have hbd := hbs.below hb
              go_wp2_with fail
              refine (Qpu bs n HN hn nm ao ca wr hbd).mono ?_
              rintro e w3 ⟨rfl, hb3⟩
              have hown3 := hown.below hb3
              have hnone3 := hnone.below hb3
              have hbb3 := Below.step hb hb3
              have hob := Qad hown3.2
              obtain ⟨d0, d1, d2, d3, d4⟩ : NodeAt w3 b (o + k * 5) ⟨61, nm, tx, ks, pl⟩ := NodeAt.below ⟨c0, c1, c2, c3, c4⟩ hb3
              simp only at d0 d1 d2 d3 d4
              have hlb3 : b < w3.heap.size := Qaa d0
              clear hown hnone c0 c1 c2 c3 c4 hlb
              by_cases hpl : placeIn (bs.map Prod.fst) nm < bs.length
              · obtain ⟨i, hie⟩ : ∃ i, placeIn (bs.map Prod.fst) nm = i := ⟨_, rfl⟩
                rw [hie] at hpl
                have HBI : Hid (Qbs bs nm = (i : Int)) := by
                  show Qbs bs nm = _
                  unfold Qbs
                  rw [hie, if_pos hpl]
                have hti := HA.out bs[i] (List.getElem_mem hpl)
                have HP : Hid (Qbg bs ⟨61, nm, tx, ks, pl⟩ = bs[i].2) := by
                  show Qbg bs _ = _
                  simp [Qbg, hie, List.getElem?_eq_getElem hpl]
                obtain ⟨b9, o9, ai, ci, rfl, _, hcc0, hnn0⟩ := hbs i hpl
                have hcc := (hbb3.cell (p := ⟨b9, o9 + i * 2 + 1, none⟩) (Qaa hcc0)).trans hcc0
                have hnn := hnn0.below hbb3
                have hdd : ∀ b o, ai = some ⟨b, o, none⟩ → b ≠ g := by
                  intro b8 o8 e8
                  obtain ⟨b7, o7, e7, hn7⟩ := hnn0 0 (Qfj hti)
                  rw [e7] at e8
                  simp only [Option.some.injEq, Addr.mk.injEq, and_true] at e8
                  have h6 : b7 < w.heap.size := Qaa hn7.1
                  omega
                obtain ⟨ys, hys⟩ : ∃ ys, bs[i].2 = ys := ⟨_, rfl⟩
                rw [hys] at hcc hnn HP hti
                obtain ⟨q, hq⟩ : ∃ q, ys.length = q := ⟨_, rfl⟩
                have HQ : Hid (ys.length = q) := hq
                have hq3 : q ≤ 300 := by have := Qao hti; omega
                have hin : i < n := by have := HN.out; omega
                have hl9 : b9 < w3.heap.size := Qaa hcc
                rw [hq] at hcc
                rw [HP.out] at HS
                rw [HBI.out]
                clear hnn0 hcc0 hti hys hq hie HP hbd
                go_wp2_with fail
                refine (Quj w.heap.size g c l q acc ys HQ (by omega) (by omega) ai ci w3 hown3 hnn hdd).mono ?_
                rintro e w4 ⟨g2, c2', rfl, hO, hg2, hbu⟩
                have hbb : Below w.heap.size w w4 := hbb3.trans (hbu.below hbb3.size (fun q hq => by omega))
                have hN := hnone3.but hbu (Ne.symm hne)
                have hne2 : g2 ≠ w.heap.size := by have := hbb3.size; have := (Qad hnone3.2).2; omega
                rw [← HS.out] at hO
                have HLn : Hid ((Qam bs (t.take (k + 1))).length = l + q) := hO.1
                clear hown3 hnone3 hbb3 hbu hnn hcc hdd d0 d1 d2 d3 d4 hx hbs hm hb hb3
                by_cases h300 : l + q ≤ 300
                · have tl : decide (((l : Int) + (q : Int)) > 300) = false := decide_eq_false (by omega)
                  go_wp2
                  go_roundw
                  case rel => exact ⟨k + 1, g2, c2', l + q, by omega, by go_num, rfl, h300, hO, hne2, hN, hbb⟩
                  case measure => simp [intOf]; omega
                · have tl : decide (((l : Int) + (q : Int)) > 300) = true := decide_eq_true (by omega)
                  have HW : Hid (Qai bs t = []) := HE.out (by have := HLn.out; omega)
                  have hcp := Qhy hN
                  obtain ⟨hg, hr⟩ := hN.row
                  clear hO hN
                  go_wp2
                  go_ret
                  exact ⟨_, _, _, rfl, hg, by rw [HW.out]; rfl, by rw [HW.out]; exact hr, hbb, hcp⟩
              · have HBI : Hid (Qbs bs nm = -1) := by
                  show Qbs bs nm = _
                  unfold Qbs
                  rw [if_neg hpl]
                have HP : Hid (Qbg bs ⟨61, nm, tx, ks, pl⟩ = [⟨61, nm, tx, ks, pl⟩]) := by
                  show Qbg bs _ = _
                  simp only [Qbg]
                  rw [if_pos trivial, List.getElem?_eq_none (by omega)]
                  rfl
                rw [HP.out] at HS
                rw [HBI.out]
                clear HP hpl hbd hb hb3
                have hcells := Qbj w3 ⟨61, nm, tx, ks, pl⟩
                go_wp2_with (at_builtin; refine Qac _ rfl (.tmp 58) (.tmp 63) 23 rfl w.heap.size 43 i0 _ 5 48 Tryz.underlying23 hi hz0 hz1 hz2 rfl (by decide) g l c _ rfl (hown3.alloc _).2 ⟨_, 0, none⟩ 1 1 (Nd.row ⟨61, nm, tx, ks, pl⟩) rfl rfl hcells (Qbp _) ?a3 ?a4 ?a5 ?_)
                case a3 => unfold maxLen; omega
                case a4 => omega
                case a5 => have := hbb3.size; simp; omega
                intro g2 c2' w2 hown4 hgrow2 hwh
                have hO := OwnN.push hown4 hown3.1 rfl
                have hbb : Below w.heap.size w w2 := (hbb3.alloc hbb3.size _).grown hgrow2 (by have := hbb3.size; simp; omega) (fun q hq => by cases hq; exact hob.1)
                have hN := (hnone3.alloc _).kept hgrow2 (Ne.symm hne)
                have hne2 : g2 ≠ w.heap.size := by have := (Qad hnone3.2).2; rcases hwh with h | h <;> (try simp at h) <;> omega
                rw [← HS.out] at hO
                have HLn : Hid ((Qam bs (t.take (k + 1))).length = l + 1) := hO.1
                clear hown4 hgrow2 hwh hown3 hnone3 hbb3 hcells d0 d1 d2 d3 d4 hx hbs hm
                by_cases h300 : l + 1 ≤ 300
                · have tl : decide (((l : Int) + 1) > 300) = false := decide_eq_false (by omega)
                  go_wp2
                  go_roundw
                  case rel => exact ⟨k + 1, g2, c2', l + 1, by omega, by go_num, rfl, h300, hO, hne2, hN, hbb⟩
                  case measure => simp [intOf]; omega
                · have tl : decide (((l : Int) + 1) > 300) = true := decide_eq_true (by omega)
                  have HW : Hid (Qai bs t = []) := HE.out (by have := HLn.out; omega)
                  have hcp := Qhy hN
                  obtain ⟨hg, hr⟩ := hN.row
                  clear hO hN
                  go_wp2
                  go_ret
                  exact ⟨_, _, _, rfl, hg, by rw [HW.out]; rfl, by rw [HW.out]; exact hr, hbb, hcp⟩
            · have t61 : ((kd : Int) == 61) = false := by simpa using h61
              have HP : Hid (Qbg bs ⟨kd, nm, tx, ks, pl⟩ = [⟨kd, nm, tx, ks, pl⟩]) := by
                show Qbg bs _ = _
                simp [Qbg, h61]
              rw [HP.out] at HS
              clear h61 HP
              have hcells := Qbj wr ⟨kd, nm, tx, ks, pl⟩
              go_wp2_with (at_builtin; refine Qac _ rfl (.tmp 58) (.tmp 63) 23 rfl w.heap.size 43 i0 _ 5 48 Tryz.underlying23 hi hz0 hz1 hz2 rfl (by decide) g l c _ rfl (hown.alloc _).2 ⟨_, 0, none⟩ 1 1 (Nd.row ⟨kd, nm, tx, ks, pl⟩) rfl rfl hcells (Qbp _) ?a3 ?a4 ?a5 ?_)
              case a3 => unfold maxLen; omega
              case a4 => omega
              case a5 => have := hb.size; simp; omega
              intro g2 c2' w2 hown4 hgrow2 hwh
              have hO := OwnN.push hown4 hown.1 rfl
              have hbb : Below w.heap.size w w2 := (hb.alloc hb.size _).grown hgrow2 (by have := hb.size; simp; omega) (fun q hq => by cases hq; exact hob.1)
              have hN := (hnone.alloc _).kept hgrow2 (Ne.symm hne)
              have hne2 : g2 ≠ w.heap.size := by have := (Qad hnone.2).2; rcases hwh with h | h <;> (try simp at h) <;> omega
              rw [← HS.out] at hO
              have HLn : Hid ((Qam bs (t.take (k + 1))).length = l + 1) := hO.1
              clear hown4 hgrow2 hwh hown hnone hb hcells c0 c1 c2 c3 c4 hx hbs hm
              by_cases h300 : l + 1 ≤ 300
              · have tl : decide (((l : Int) + 1) > 300) = false := decide_eq_false (by omega)
                go_wp2
                go_roundw
                case rel => exact ⟨k + 1, g2, c2', l + 1, by omega, by go_num, rfl, h300, hO, hne2, hN, hbb⟩
                case measure => simp [intOf]; omega
              · have tl : decide (((l : Int) + 1) > 300) = true := decide_eq_true (by omega)
                have HW : Hid (Qai bs t = []) := HE.out (by have := HLn.out; omega)
                have hcp := Qhy hN
                obtain ⟨hg, hr⟩ := hN.row
                clear hO hN
                go_wp2
                go_ret
                exact ⟨_, _, _, rfl, hg, by rw [HW.out]; rfl, by rw [HW.out]; exact hr, hbb, hcp⟩
          · have hke : k = m := by omega
            subst hke
            rw [List.take_of_length_le (by have := HM.out; omega)] at hown
            have HW : Hid (Qai bs t = Qam bs t) := by
              show Qai bs t = _
              rw [HV.out, if_pos (by have := hown.1; omega)]
            have hcp := Qhy hown
            obtain ⟨hg, hr⟩ := hown.row
            have HL : Hid ((Qam bs t).length = l) := hown.1
            clear hown hnone hx hbs hm
            go_wp2
            go_ret
            exact ⟨_, _, _, rfl, hg, by rw [HW.out]; exact HL.out, by rw [HW.out]; exact hr, hb, hcp⟩
theorem Qqe (bs : List (Int × List Nd)) (n : Nat) (HN : Hid (bs.length = n)) (hn : n ≤ 1048576) (hm : ∀ b ∈ bs, b.2.length ≤ 1048576) (t : List Nd) (m : Nat) (HM : Hid (t.length = m)) (hml : m ≤ 1048576) (ao bo : Option Addr) (ca cb : Nat) (w : World) (hbs : Binds w ao bs) (hx : Nodes w bo t) :
    Calls Tryz.prog 8 #[.slice ao n ca, .slice bo m cb] w fun e w' => ∃ g c l, e = .returned (.slice (some ⟨g, 0, none⟩) l c) ∧ w.heap.size ≤ g ∧ (Qai bs t).length = l ∧ Row w' g (Qai bs t) ∧ Below w.heap.size w w' := (Qin bs n HN hn hm t m HM hml ao bo ca cb w hbs hx).mono fun _ _ ⟨g, c, l, h1, h2, h3, h4, h5, _⟩ => ⟨g, c, l, h1, h2, h3, h4, h5⟩

def Qcr (rs : List (Nat × Nat)) (bs : List (Int × List Nd)) : List (Value × Value) := List.zipWith (fun r b => (.int .i64 b.1, .slice (some ⟨r.1, 0, none⟩) b.2.length r.2)) rs bs
structure TwoR (w : World) (g : Nat) (rs : List (Nat × Nat)) (bs : List (Int × List Nd)) : Prop where
  len : rs.length = bs.length
  lead : OwnB w g (Qcr rs bs)
  rows : ∀ i (h : i < rs.length) (h' : i < bs.length), Row w rs[i].1 bs[i].2
  nodup : (rs.map Prod.fst).Nodup
theorem TwoR.below {w w' : World} {g : Nat} {rs : List (Nat × Nat)} {bs : List (Int × List Nd)} (h : TwoR w g rs bs) (hb : Below w.heap.size w w') : TwoR w' g rs bs :=
  ⟨h.len, OwnT.below h.lead hb, fun i hi hi' => (h.rows i hi hi').below hb, h.nodup⟩
theorem TwoR.but {S : Nat → Prop} {w w' : World} {g : Nat} {rs : List (Nat × Nat)} {bs : List (Int × List Nd)} (h : TwoR w g rs bs) (hb : But S w w') (hg : ¬ S g) (hr : ∀ r ∈ rs, ¬ S r.1) : TwoR w' g rs bs :=
  ⟨h.len, OwnT.but h.lead hb hg, fun i hi hi' => hb.row (h.rows i hi hi') (hr _ (List.getElem_mem hi)), h.nodup⟩
theorem TwoR.mem_lt {w : World} {g : Nat} {rs : List (Nat × Nat)} {bs : List (Int × List Nd)} (h : TwoR w g rs bs) : ∀ r ∈ rs, r.1 < w.heap.size ∧ r.1 ≠ g := by
  intro r hr
  obtain ⟨i, hi, rfl⟩ := List.getElem_of_mem hr
  have hrow := h.rows i hi (by have := h.len; omega)
  exact ⟨hrow.lt, OwnB.ne h.lead hrow⟩
theorem Qwt (rs : List (Nat × Nat)) (bs : List (Int × List Nd)) (i : Nat) (hr : i < rs.length) (hb : i < bs.length) : (Qcr rs bs)[i]'(by simp [Qcr]; omega) = (.int .i64 bs[i].1, .slice (some ⟨rs[i].1, 0, none⟩) bs[i].2.length rs[i].2) := by simp [Qcr]
theorem Qiq (rs : List (Nat × Nat)) (bs : List (Int × List Nd)) (h : rs.length = bs.length) : (Qcr rs bs).length = bs.length := by simp [Qcr, h]
theorem TwoR.get {w : World} {g : Nat} {rs : List (Nat × Nat)} {bs : List (Int × List Nd)} (h : TwoR w g rs bs) (i : Nat) (hi : i < bs.length) (hi' : i < rs.length) :
    w.cell? ⟨g, i * 2, none⟩ = some (.int .i64 bs[i].1) ∧ w.cell? ⟨g, i * 2 + 1, none⟩ = some (.slice (some ⟨rs[i].1, 0, none⟩) bs[i].2.length rs[i].2) ∧ Row w rs[i].1 bs[i].2 := by
  obtain ⟨h1, h2⟩ := h.lead.at i (by rw [Qiq rs bs h.len]; exact hi)
  rw [Qwt rs bs i hi' hi] at h1 h2
  exact ⟨h1, h2, h.rows i hi' hi⟩
theorem TwoR.binds {w : World} {g : Nat} {rs : List (Nat × Nat)} {bs : List (Int × List Nd)} (h : TwoR w g rs bs) : Binds w (some ⟨g, 0, none⟩) bs := by
  intro i hi
  obtain ⟨h0, hc, hr⟩ := h.get i hi (by have := h.len; omega)
  exact ⟨g, 0, _, _, rfl, by rw [Nat.zero_add]; exact h0, by rw [Nat.zero_add]; exact hc, hr.nodes⟩
def BAns (w : World) (B : Nat) (ao : Option Addr) (bs : List (Int × List Nd)) : Prop := bs = [] ∨ ∃ g rs, ao = some ⟨g, 0, none⟩ ∧ B ≤ g ∧ (∀ r ∈ rs, B ≤ r.1) ∧ TwoR w g rs bs
theorem BAns.binds {w : World} {B : Nat} {ao : Option Addr} {bs : List (Int × List Nd)} (h : BAns w B ao bs) : Binds w ao bs := by
  rcases h with rfl | ⟨g, rs, rfl, _, _, hr⟩
  · exact fun i hi => by simp at hi
  · exact hr.binds
theorem BAns.but {S : Nat → Prop} {w w' : World} {B : Nat} {ao : Option Addr} {bs : List (Int × List Nd)} (h : BAns w B ao bs) (hb : But S w w') (hS : ∀ q, B ≤ q → ¬ S q) : BAns w' B ao bs := by
  rcases h with rfl | ⟨g, rs, rfl, h1, h2, hr⟩
  · exact Or.inl rfl
  · exact Or.inr ⟨g, rs, rfl, h1, h2, hr.but hb (hS g h1) (fun r hr => hS r.1 (h2 r hr))⟩
def OwnBs (w : World) (B g c l : Nat) (ps : List (Value × Value)) : Prop := ps.length = l ∧ w.ownsRow B 54 2 (.slice (some ⟨g, 0, none⟩) l c) l (Qci ps)
theorem OwnBs.row {w : World} {B g c l : Nat} {ps : List (Value × Value)} (h : OwnBs w B g c l ps) : B ≤ g ∧ OwnB w g ps := by
  obtain ⟨hl, ho⟩ := h
  rcases ho.2 with ⟨h', _⟩ | ⟨g2, cap2, cur, he, hb, hh, _, _, _, htake⟩
  · cases h'
  · simp only [Value.slice.injEq, Option.some.injEq, Addr.mk.injEq, and_true, true_and] at he
    obtain ⟨rfl, rfl⟩ := he
    exact ⟨hb, cur, cur.toList.drop (l * 2), hh, by rw [← htake, List.take_append_drop]⟩
theorem OwnBs.empty {w : World} {B : Nat} (hB : B ≤ w.heap.size) : OwnBs (w.alloc (.cells #[] 54)) B w.heap.size 0 0 [] :=
  ⟨rfl, rfl, Or.inr ⟨_, 0, #[], rfl, hB, heap_alloc_new _ _, Nat.le_refl _, by simp [maxLen], rfl, rfl⟩⟩
theorem OwnBs.alloc {w : World} {B g c l : Nat} {ps : List (Value × Value)} (h : OwnBs w B g c l ps) (o : Obj) : OwnBs (w.alloc o) B g c l ps := ⟨h.1, h.2.alloc o⟩
theorem OwnBs.but {S : Nat → Prop} {w w' : World} {B g c l : Nat} {ps : List (Value × Value)} (h : OwnBs w B g c l ps) (hb : But S w w') (hn : ¬ S g) : OwnBs w' B g c l ps := ⟨h.1, Qah h.2 hb hn⟩
theorem OwnBs.below {w w' : World} {B g c l : Nat} {ps : List (Value × Value)} (h : OwnBs w B g c l ps) (hb : Below w.heap.size w w') : OwnBs w' B g c l ps := h.but (S := fun _ => False) (But.ofBelow hb) (fun h => h)
theorem OwnBs.push {w : World} {B g c l m : Nat} {ps : List (Value × Value)} {x : Value × Value} (h : w.ownsRow B 54 2 (.slice (some ⟨g, 0, none⟩) m c) m (Qci ps ++ [x.1, x.2])) (hl : ps.length = l) (hm : m = l + 1) : OwnBs w B g c (l + 1) (ps ++ [x]) := by
  subst hm
  refine ⟨by simp [hl], ?_⟩
  rw [Qnc]
  exact h
theorem Qer (w : World) (a : Int) (v : Value) : ∀ j u, [Value.int .i64 a, v][j]? = some u → (w.alloc (.cells #[.int .i64 a, v] 54)).cell? (Addr.add ⟨w.heap.size, 0, none⟩ j) = some u := by
  intro j u hj
  have ad : Addr.add ⟨w.heap.size, 0, none⟩ j = ⟨w.heap.size, j, none⟩ := by
    unfold Addr.add
    split
    · simp_all
    · simp
  rw [ad, cell_of_row _ w.heap.size j _ 54 (0, 0) (heap_alloc_new _ _), ← hj]
  simp
theorem Qho (a : Int) (ao : Option Addr) (l c : Nat) : ∀ u ∈ [Value.int .i64 a, .slice ao l c], u.oneCell' = true := by
  intro u hu
  simp at hu
  rcases hu with rfl | rfl <;> rfl
theorem Row.kept {w w' : World} {g k : Nat} {ys : List Nd} (h : Row w g ys) (hg : w.grownBy w' (some k)) (hne : g ≠ k) : Row w' g ys := by
  have hlt := h.lt
  obtain ⟨cur, rest, hc, he⟩ := h
  exact ⟨cur, rest, (hg.block g hlt (by simpa using hne)).trans hc, he⟩
theorem TwoR.snoc {w w' : World} {g g' gp cp : Nat} {rs : List (Nat × Nat)} {bs : List (Int × List Nd)} {x : Int} {Y : List Nd} (h : TwoR w g rs bs) (ho : OwnB w' g' (Qcr rs bs ++ [(.int .i64 x, .slice (some ⟨gp, 0, none⟩) Y.length cp)]))
    (hr : ∀ i (h : i < rs.length) (h' : i < bs.length), Row w' rs[i].1 bs[i].2) (hy : Row w' gp Y) (hne : ∀ r ∈ rs, r.1 ≠ gp) : TwoR w' g' (rs ++ [(gp, cp)]) (bs ++ [(x, Y)]) := by
  refine ⟨by simp [h.len], ?_, ?_, ?_⟩
  · have e : Qcr (rs ++ [(gp, cp)]) (bs ++ [(x, Y)]) = Qcr rs bs ++ [(.int .i64 x, .slice (some ⟨gp, 0, none⟩) Y.length cp)] := by
      unfold Qcr
      rw [List.zipWith_append h.len]
      rfl
    rw [e]
    exact ho
  · intro i h1 h2
    by_cases hi : i < rs.length
    · have hi' : i < bs.length := by have := h.len; omega
      rw [List.getElem_append_left hi, List.getElem_append_left hi']
      exact hr i hi hi'
    · have hl := h.len
      have e : i = rs.length := by simp at h1; omega
      subst e
      rw [List.getElem_append_right (Nat.le_refl _), List.getElem_append_right (by omega)]
      simpa using hy
  · rw [List.map_append, List.nodup_append]
    refine ⟨h.nodup, by simp, ?_⟩
    intro a ha b hb
    simp at hb
    subst hb
    obtain ⟨r, hr1, rfl⟩ := List.mem_map.1 ha
    exact hne r hr1
theorem insM_mem' (out : List (Int × Int)) (x z : Int × Int) : z ∈ insM out x → z = x ∨ z ∈ out := by
  have hR : ∀ l : List (Int × Int), z ∈ insR x l → z = x ∨ z ∈ l := by
    intro l
    induction l with
    | nil => simp [insR]
    | cons y ys ih =>
      unfold insR
      split
      · intro h
        rcases List.mem_cons.1 h with h | h
        · exact Or.inr (by simp [h])
        · rcases ih h with h | h
          · exact Or.inl h
          · exact Or.inr (List.mem_cons_of_mem _ h)
      · intro h
        rcases List.mem_cons.1 h with h | h
        · exact Or.inl h
        · exact Or.inr h
  intro h
  rcases hR _ (List.mem_reverse.1 h) with h | h
  · exact Or.inl h
  · exact Or.inr (List.mem_reverse.1 h)
theorem Qqh (ms : List (Int × Int)) (z : Int × Int) : z ∈ Qax ms → z ∈ ms := by
  have : ∀ out, z ∈ ms.foldl insM out → z ∈ out ∨ z ∈ ms := by
    induction ms with
    | nil => intro out h; exact Or.inl h
    | cons m ms ih =>
      intro out h
      rw [List.foldl_cons] at h
      rcases ih _ h with h | h
      · rcases insM_mem' _ _ _ h with h | h
        · exact Or.inr (by simp [h])
        · exact Or.inl h
      · exact Or.inr (List.mem_cons_of_mem _ h)
  intro h
  rcases this [] h with h | h
  · simp at h
  · exact h
theorem Qqw {xs : List Int} {x : Int} (h : x ∈ xs) : placeIn xs x < xs.length := by
  unfold placeIn
  exact List.findIdx_lt_length_of_exists ⟨x, h, by simp⟩
end Go.Proofs.YtoiiibplkhedcaaGreatDoor

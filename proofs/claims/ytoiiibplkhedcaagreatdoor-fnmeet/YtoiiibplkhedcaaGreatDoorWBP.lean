import Derived.Test.YtoiiibplkhedcaaGreatDoorWBO
set_option maxRecDepth 100000
set_option maxHeartbeats 2000000
namespace Go.Proofs.YtoiiibplkhedcaaGreatDoor
open Go.RowKit Go.Maps
theorem Qmv (x : Int) (ks : List Nd) (l : Nat) (HL : Hid (ks.length = l)) (hl : l ≤ 1048576) (ai : Option Addr) (ci : Nat) (w : World) (hn : Nodes w ai ks) :
    Calls Tryz.prog 85 #[.agg #[.int .i64 x, .slice ai l ci]] w fun e w' => e = .returned (.bool (!typeb ks)) ∧ Below w.heap.size w w' := by
  have hb0 : Below w.heap.size w (w.alloc (Obj.cells #[.int .i64 x, .slice ai l ci] 54)) := (Below.refl _ _).alloc (Nat.le_refl _) _
  have HT := Qbr ks l HL hl ai ci _ (hn.below hb0)
  obtain ⟨d, hd⟩ : ∃ d, typeb ks = d := ⟨_, rfl⟩
  rw [hd] at HT ⊢
  clear hn
  go_enter Tryz.func85, Tryz.ntmps85
  go_wp2_with fail
  refine HT.mono ?_
  rintro e w1 ⟨rfl, hb1⟩
  have hb2 := Below.step hb0 hb1
  clear HT hb0 hb1
  go_wp2
  go_ret
  exact ⟨rfl, hb2⟩
theorem Qku (bs : List (Int × List Nd)) (n : Nat) (HX : Hid (bs.length = n)) (ao : Option Addr) (cap : Nat) (w : World) (hx : Binds w ao bs) (hlx : n ≤ 1048576) (HK : Hid (∀ b ∈ bs, b.2.length ≤ 1048576)) :
    Calls Tryz.prog 104 #[.slice ao n cap, .func (.func 85) #[] #[]] w fun e w' =>
      (∃ r : Int, e = .returned (.int .i64 r) ∧ decide (r ≥ 0) = bs.any (fun b => !typeb b.2)) ∧ Below w.heap.size w w' := by
  go_enter Tryz.func104, Tryz.ntmps104
  go_wp2
  go_loopw [8] (fun i wr => ∃ (k : Nat), k ≤ n ∧ i = .int .i64 k ∧ (bs.take k).any (fun b => !typeb b.2) = false ∧ Below w.heap.size w wr) (fun i _ => n - (intOf i).toNat)
  case atStart => exact ⟨0, Nat.zero_le _, rfl, by simp, Below.refl _ _⟩
  case round =>
    obtain ⟨k, hk, rfl, hall, hb⟩ := hrel
    by_cases hlt : k < n
    · have hltx : k < bs.length := by have := HX.out; omega
      have hkl := HK.out bs[k] (List.getElem_mem hltx)
      obtain ⟨⟨nm, ks⟩, hxk⟩ : ∃ x, bs[k] = x := ⟨_, rfl⟩
      obtain ⟨b, o, ai, ci, rfl, c0, c1, hn⟩ := hx.below hb k hltx
      rw [hxk] at c0 c1 hn hkl
      simp only at c0 c1 hn hkl
      obtain ⟨l, hl⟩ : ∃ l, ks.length = l := ⟨_, rfl⟩
      rw [hl] at c1 hkl
      have hlb : b < wr.heap.size := Qaa c0
      have HXK : Hid (bs[k] = (nm, ks)) := hxk
      have HC := Qmv nm ks l hl hkl ai ci wr hn
      clear hx hxk hn hl
      cases hq : (!typeb ks)
      · have HA : Hid ((bs.take (k + 1)).any (fun b => !typeb b.2) = false) := Qnn k hltx (by rw [HXK.out]; exact hq) hall
        rw [hq] at HC
        clear hall hq
        go_wp2_with fail
        refine HC.mono ?_
        rintro e w1 ⟨rfl, hb1⟩
        have hbb := Below.step hb hb1
        clear hb hb1 c0 c1 HC
        go_wp2
        go_roundw
        case rel => exact ⟨k + 1, by omega, by go_num, HA.out, hbb⟩
        case measure => simp [intOf]; omega
      · have HA : Hid (bs.any (fun b => !typeb b.2) = true) := Qsj k hltx (by rw [HXK.out]; exact hq)
        rw [hq] at HC
        clear hall hq
        go_wp2_with fail
        refine HC.mono ?_
        rintro e w1 ⟨rfl, hb1⟩
        have hbb := Below.step hb hb1
        clear hb hb1 c0 c1 HC
        go_wp2
        go_ret
        exact ⟨⟨(k : Int), rfl, by rw [HA.out]; simp⟩, hbb⟩
    · have HA : Hid (bs.any (fun b => !typeb b.2) = false) := by
        have h9 := hall
        rw [List.take_of_length_le (by have := HX.out; omega)] at h9
        exact h9
      clear hall hx
      go_wp2
      go_ret
      exact ⟨⟨-1, rfl, by rw [HA.out]; rfl⟩, hb⟩
theorem Qil (bs : List (Int × List Nd)) (n : Nat) (HX : Hid (bs.length = n)) (ao : Option Addr) (cap : Nat) (w : World) (hx : Binds w ao bs) (hlx : n ≤ 1048576) (HK : Hid (∀ b ∈ bs, b.2.length ≤ 1048576)) :
    Calls Tryz.prog 84 #[.slice ao n cap, .func (.func 85) #[] #[]] w fun e w' =>
      e = .returned (.bool (bs.any (fun b => !typeb b.2))) ∧ Below w.heap.size w w' := by
  go_enter Tryz.func84, Tryz.ntmps84
  go_wp2_with fail
  refine (Qku bs n HX ao cap w hx hlx HK).mono ?_
  rintro e w1 ⟨⟨r, rfl, hr⟩, hb⟩
  have HR : Hid (decide (r ≥ 0) = bs.any (fun b => !typeb b.2)) := hr
  clear hr hx
  go_wp2
  go_ret
  exact ⟨by rw [← HR.out]; rfl, hb⟩
def Qdp (bs : List (Int × List Nd)) : Bool := bs.all (fun b => typeb b.2)
theorem Qsr (bs : List (Int × List Nd)) : Qdp bs = !bs.any (fun b => !typeb b.2) := by
  unfold Qdp
  induction bs with
  | nil => rfl
  | cons x xs ih => simp only [List.all_cons, List.any_cons, Bool.not_or, ← ih, Bool.not_not]
theorem Qct (bs : List (Int × List Nd)) : Qdp bs = true ↔ ∀ b ∈ bs, typeb b.2 = true := by
  unfold Qdp
  rw [List.all_eq_true]
theorem Qmu (bs : List (Int × List Nd)) (n : Nat) (HX : Hid (bs.length = n)) (ao : Option Addr) (cap : Nat) (w : World) (hx : Binds w ao bs) (hlx : n ≤ 1048576) (HK : Hid (∀ b ∈ bs, b.2.length ≤ 1048576)) :
    Calls Tryz.prog 49 #[.slice ao n cap] w fun e w' => e = .returned (.bool (Qdp bs)) ∧ Below w.heap.size w w' := by
  have HV : Hid (Qdp bs = !bs.any (fun b => !typeb b.2)) := Qsr bs
  go_enter Tryz.func49, Tryz.ntmps49
  go_wp2_with fail
  refine (Qil bs n HX ao cap w hx hlx HK).mono ?_
  rintro e w1 ⟨rfl, hb⟩
  clear hx
  go_wp2
  go_ret
  exact ⟨by rw [HV.out]; rfl, hb⟩
structure PutAt (W : World) (bx mb n : Nat) (D : DataW Value) (bs : List (Int × List Nd)) (ps : List (Int × (Option Addr × Nat × Nat))) : Prop where
  box : Box1 W bx 67 (.map (some mb))
  own : W.ownsMap Tryz.prog 2 Qfa mb n D
  first : FirstD ps D
  len : ps.length = bs.length
  nums : ps.map Prod.fst = bs.map Prod.fst
  at' : ∀ i (hp : i < ps.length) (hb : i < bs.length), ps[i].2.2.1 = bs[i].2.length ∧ Nodes W ps[i].2.1 bs[i].2
theorem PutAt.below {W W' : World} {bx mb n : Nat} {D : DataW Value} {bs : List (Int × List Nd)} {ps : List (Int × (Option Addr × Nat × Nat))} (h : PutAt W bx mb n D bs ps) (hb : Below W.heap.size W W') : PutAt W' bx mb n D bs ps :=
  ⟨h.box.below hb h.box.lt, Qem h.own (hb.block mb h.own.lt), h.first, h.len, h.nums, fun i hp hl => ⟨(h.at' i hp hl).1, (h.at' i hp hl).2.below hb⟩⟩
theorem Qwh (W : World) (n : Nd) : Nodes (W.alloc (.cells #[.int .i64 n.kind, .int .i64 n.num, .string n.text, .int .i64 n.kids, .int .i64 n.place] 43)) (some ⟨W.heap.size, 0, none⟩) [n] :=
  ((OwnN.one (w := W) (B := W.heap.size) (Nat.le_refl _) n).row).2.nodes
theorem Qzm (bs : List (Int × List Nd)) (ps : List (Int × (Option Addr × Nat × Nat))) (bx mb q : Nat) (D : DataW Value) (x : Nd) (hw : (Lit.int .i64 x.num).wf = true) (W : World) (h : PutAt W bx mb q D bs ps) :
    Calls Tryz.prog 87 #[.agg #[.int .i64 x.kind, .int .i64 x.num, .string x.text, .int .i64 x.kids, .int .i64 x.place], .pointer (some ⟨bx, 0, none⟩)] W fun e w' =>
      ∃ ao c, e = .returned (.slice ao (Qbg bs x).length c) ∧ Nodes w' ao (Qbg bs x) ∧ (∀ b o, ao = some ⟨b, o, none⟩ → W.heap.size ≤ b ∨ ∃ i, ∃ h : i < ps.length, ps[i].2.1 = ao) ∧ Below W.heap.size W w' := by
  have hb0 : Below W.heap.size W (W.alloc (Obj.cells #[.int .i64 x.kind, .int .i64 x.num, .string x.text, .int .i64 x.kids, .int .i64 x.place] 43)) := (Below.refl _ _).alloc (Nat.le_refl _) _
  have hA := h.below hb0
  have hkey : keyOf Tryz.prog 2 (.int .i64 x.num) = some (.int .i64 x.num) := keyOf_int_mk Tryz.underlying2 hw
  have hc := hA.box.cell
  have hown := hA.own
  have hbl := h.box.lt
  have hone := Qwh (W.alloc (Obj.cells #[.int .i64 x.kind, .int .i64 x.num, .string x.text, .int .i64 x.kids, .int .i64 x.place] 43)) x
  rw [World.size_alloc] at hone
  have hz : ∀ w, (zeroValue 23).run Tryz.prog w = .ok (.slice none 0 0) w := fun w => by kernel_rfl
  obtain ⟨hh, hat⟩ := h.first.2 x.num
  by_cases hp : placeIn (ps.map Prod.fst) x.num < ps.length
  · have hh1 : Maps.has D (.int .i64 x.num) = true := by rw [hh]; exact decide_eq_true hp
    clear hh
    have hv := hat hp (.held (.slice none 0 0))
    have hpb : placeIn (ps.map Prod.fst) x.num < bs.length := by rw [← h.len]; exact hp
    obtain ⟨hl9, hn9⟩ := hA.at' _ hp hpb
    obtain ⟨⟨nm, sa, sn, sc⟩, hpe⟩ : ∃ p, ps[placeIn (ps.map Prod.fst) x.num] = p := ⟨_, rfl⟩
    have HPE : Hid (∃ i, ∃ h : i < ps.length, ps[i].2.1 = sa) := ⟨_, hp, by rw [hpe]⟩
    rw [hpe] at hv hl9 hn9
    simp only [sl] at hv hl9 hn9
    by_cases h61 : x.kind = 61
    · have HS : Hid (Qbg bs x = bs[placeIn (ps.map Prod.fst) x.num].2) := by
        rw [Hid, Qbg, if_pos h61, ← h.nums, List.getElem?_eq_getElem hpb]
        rfl
      rw [← HS.out] at hl9 hn9
      generalize Qbg bs x = R at hl9 hn9 ⊢
      subst hl9
      clear HS hat hone hpe h hA hp hpb
      obtain ⟨kd, nm', tx, ks, pl⟩ := x
      simp only at h61 hw hb0 hkey hc hown hh1 hv hn9 ⊢
      subst h61
      go_enter Tryz.func87, Tryz.ntmps87
      go_wp2_with (first
        | (at_lookup; refine Qck _ rfl _ _ 67 rfl 2 23 Tryz.law2 Tryz.underlying67 (hz _) mb q D rfl hown _ _ rfl hkey rfl hh1 hv ?_)
        | go_in)
      go_ret
      exact ⟨sa, sc, rfl, hn9, fun b o e => Or.inr (by obtain ⟨i, hi, e9⟩ := HPE.out; exact ⟨i, hi, e9⟩), hb0⟩
    · have t61 : ((x.kind : Int) == 61) = false := by simpa using h61
      have HS : Hid (Qbg bs x = [x]) := by rw [Hid, Qbg, if_neg h61]
      clear hat hn9 hl9 hpe h hA HPE
      go_enter Tryz.func87, Tryz.ntmps87
      go_wp2_with (first
        | (at_lookup; refine Qck _ rfl _ _ 67 rfl 2 23 Tryz.law2 Tryz.underlying67 (hz _) mb q D rfl hown _ _ rfl hkey rfl hh1 hv ?_)
        | go_in)
      go_ret
      rw [HS.out]
      exact ⟨_, _, rfl, hone, fun b o e => Or.inl (by simp at e; omega), hb0.alloc hb0.size _⟩
  · have hh : Maps.has D (.int .i64 x.num) = false := by rw [hh]; exact decide_eq_false hp
    have hv : D.atKey (.int .i64 x.num) (.held (.slice none 0 0)) = .held (.slice none 0 0) := atKey_of_not_has hh _
    have HS : Hid (Qbg bs x = [x]) := by
      have hpb : bs[placeIn (bs.map Prod.fst) x.num]? = none := List.getElem?_eq_none (by rw [← h.nums, ← h.len]; omega)
      rw [Hid, Qbg, hpb]
      split <;> rfl
    clear hat h hA
    go_enter Tryz.func87, Tryz.ntmps87
    go_wp2_with (first
        | (at_lookup; refine Qck _ rfl _ _ 67 rfl 2 23 Tryz.law2 Tryz.underlying67 (hz _) mb q D rfl hown _ _ rfl hkey rfl hh hv ?_)
        | go_in)
    go_ret
    rw [HS.out]
    exact ⟨_, _, rfl, hone, fun b o e => Or.inl (by simp at e; omega), hb0.alloc hb0.size _⟩
def Qgl (bs : List (Int × List Nd)) (t : List Nd) : List Nd := if (Qam bs t).length ≤ 300 then Qam bs t else []
theorem Qtg {bs : List (Int × List Nd)} (h : Qdp bs = true) (x : Nd) : 0 < (Qbg bs x).length ∧ (Qbg bs x).length ≤ 300 := by
  unfold Qbg
  split
  · cases hg : bs[placeIn (bs.map Prod.fst) x.num]? with
    | none => simp
    | some b =>
      have hm := List.mem_of_getElem? hg
      have ht := (Qct bs).1 h b hm
      exact ⟨Qfj ht, Qao ht⟩
  · simp
theorem Qty (bs : List (Int × List Nd)) (HB : Hid (Qdp bs = true)) (ps : List (Int × (Option Addr × Nat × Nat))) (bx mb q : Nat) (D : DataW Value) (t : List Nd) (m : Nat) (HM : Hid (t.length = m)) (hm : m ≤ 300) (HW : Hid (∀ n ∈ t, (Lit.int .i64 n.num).wf = true)) (ao : Option Addr) (cap : Nat) (w : World) (hx : Nodes w ao t) (h : PutAt w bx mb q D bs ps) :
    Calls Tryz.prog 86 #[.slice ao m cap, .func (.func 87) #[] #[.pointer (some ⟨bx, 0, none⟩)]] w fun e w' =>
      ∃ ag l cg, e = .returned (.slice ag l cg) ∧ (Qgl bs t).length = l ∧ Ans w' w.heap.size ag (Qgl bs t) ∧ Below w.heap.size w w' := by
  obtain ⟨i0, hi, hz0, hz1, hz2⟩ := info_parts Tryz.infoN
  have hO := OwnN.empty (w := w) (B := w.heap.size) (Nat.le_refl _)
  go_enter Tryz.func86, Tryz.ntmps86
  go_wp2
  go_loopw [5, 12] (fun v p wr => ∃ (k g c l : Nat), k ≤ m ∧ p = .int .i64 k ∧ v = .slice (some ⟨g, 0, none⟩) l c ∧ l ≤ 300 ∧ OwnN wr w.heap.size g c l (Qam bs (t.take k)) ∧ Below w.heap.size w wr) (fun _ p _ => m - (intOf p).toNat)
  case atStart => exact ⟨0, w.heap.size, 0, 0, Nat.zero_le _, rfl, rfl, by omega, by simpa [Qam] using hO, (Below.refl _ _).alloc (Nat.le_refl _) _⟩
  case round =>
    obtain ⟨k, g, c, l, hk, rfl, rfl, hl3, hown, hb⟩ := hrel
    by_cases hlt : k < m
    · have hltx : k < t.length := by have := HM.out; omega
      have hstep := Qjq bs t k hltx
      have hall := Qob bs t (k + 1)
      have hwx := HW.out t[k] (List.getElem_mem hltx)
      obtain ⟨x, hxk⟩ : ∃ x, t[k] = x := ⟨_, rfl⟩
      obtain ⟨b, o, rfl, hcx⟩ := hx.below hb k hltx
      rw [hxk] at hcx hstep hwx
      obtain ⟨c0, c1, c2, c3, c4⟩ := hcx
      have hlb : b < wr.heap.size := Qaa c0
      have hob := Qad hown.2
      have hpl := Qtg HB.out x
      have hA1 : Below wr.heap.size wr (wr.alloc (.cells #[.int .i64 x.kind, .int .i64 x.num, .string x.text, .int .i64 x.kids, .int .i64 x.place] 43)) := (Below.refl _ wr).alloc (Nat.le_refl _) _
      have hP := Qzm bs ps bx mb q D x hwx _ ((h.below hb).below hA1)
      have hown1 := hown.alloc (.cells #[.int .i64 x.kind, .int .i64 x.num, .string x.text, .int .i64 x.kids, .int .i64 x.place] 43)
      have hb1 := hb.alloc hb.size (.cells #[.int .i64 x.kind, .int .i64 x.num, .string x.text, .int .i64 x.kids, .int .i64 x.place] 43)
      have hn9 := hown.1
      generalize Qam bs (t.take k) = Z at *
      generalize hR : Qbg bs x = R at *
      obtain ⟨p, hp⟩ : ∃ p, R.length = p := ⟨_, rfl⟩
      rw [hp] at hP hpl
      have HP : Hid (R.length = p) := hp
      have HS : Hid (Qam bs (t.take (k + 1)) = Z ++ R) := hstep
      have hsum : (Z ++ R).length = l + p := by simp [hn9, hp]
      have HN : Hid (l + p ≤ (Qam bs t).length) := by rw [Hid, ← hsum, ← HS.out]; exact hall
      clear hx hxk hstep hall h hsum hp hR hown hb HW
      go_wp2_with fail
      refine hP.mono ?_
      rintro e w1 ⟨ag, cg, rfl, hng, _, hb2⟩
      have hown2 := hown1.below hb2
      have hbb := Below.step hb1 hb2
      clear hP hown1 hb1 hb2 c0 c1 c2 c3 c4 hA1
      have tp : ((p : Int) == 0) = false := by simp; omega
      by_cases hbig : l + p ≤ 300
      · have tb : decide ((l : Int) + (p : Int) > 300) = false := decide_eq_false (by omega)
        obtain ⟨b1, o1, rfl, _⟩ := hng 0 (by have := HP.out; omega)
        have hnews := Qln hng
        clear hng
        go_wp2_with (at_builtin; refine Qac _ rfl (.tmp 30) (.tmp 31) 23 rfl w.heap.size 43 i0 _ 5 48 Tryz.underlying23 hi hz0 hz1 hz2 rfl (by decide) g l c _ rfl hown2.2 ⟨b1, o1, none⟩ p cg (flat R) rfl ?a1 hnews (Qjv R) ?a3 ?a4 ?a5 ?_)
        case a1 => rw [Qca, HP.out]
        case a3 => unfold maxLen; omega
        case a4 => omega
        case a5 => exact hbb.size
        intro g2 c2 w2 hown3 hgrow3 hwh
        have hF : OwnN w2 w.heap.size g2 c2 (l + p) (Z ++ R) := ⟨by simp [hn9, HP.out], by rw [Qgv]; exact hown3⟩
        have hb3 : Below w.heap.size w w2 := hbb.grown hgrow3 hbb.size (fun q hq => by cases hq; exact hob.1)
        clear hown3 hgrow3 hwh hown2 hbb hnews
        go_wp2
        go_roundw
        case rel => exact ⟨k + 1, g2, c2, l + p, by omega, by go_num, rfl, hbig, by rw [HS.out]; exact hF, hb3⟩
        case measure => simp [intOf]; omega
      · have tb : decide ((l : Int) + (p : Int) > 300) = true := decide_eq_true (by omega)
        have HV : Hid ((Qgl bs t) = []) := by
          rw [Hid, Qgl, if_neg (by have := HN.out; omega)]
        clear hng hown2
        go_wp2
        go_ret
        rw [HV.out]
        exact ⟨_, _, _, rfl, rfl, Or.inl rfl, hbb⟩
    · have hkm : k = m := by omega
      subst hkm
      have HV : Hid ((Qgl bs t) = Qam bs (t.take k)) := by
        have e9 : t.take k = t := List.take_of_length_le (by have := HM.out; omega)
        rw [e9] at hown ⊢
        rw [Hid, Qgl, if_pos (by have := hown.1; omega)]
      obtain ⟨hg, hr⟩ := hown.row
      have hn := hown.1
      clear hx h hown
      go_wp2
      go_ret
      rw [HV.out]
      exact ⟨_, _, _, rfl, hn, hr.ans hg, hb⟩
theorem Qzl (bs : List (Int × List Nd)) (HB : Hid (Qdp bs = true)) (ps : List (Int × (Option Addr × Nat × Nat))) (mb q : Nat) (D : DataW Value) (t : List Nd) (m : Nat) (HM : Hid (t.length = m)) (hm : m ≤ 300) (HW : Hid (∀ n ∈ t, (Lit.int .i64 n.num).wf = true)) (ao : Option Addr) (cap : Nat) (w : World) (hx : Nodes w ao t)
    (hown : w.ownsMap Tryz.prog 2 Qfa mb q D) (hF : FirstD ps D) (hlen : ps.length = bs.length) (hnums : ps.map Prod.fst = bs.map Prod.fst) (hat : ∀ i (hp : i < ps.length) (hb : i < bs.length), ps[i].2.2.1 = bs[i].2.length ∧ Nodes w ps[i].2.1 bs[i].2) :
    Calls Tryz.prog 50 #[.map (some mb), .slice ao m cap] w fun e w' =>
      ∃ ag l cg, e = .returned (.slice ag l cg) ∧ (Qgl bs t).length = l ∧ Ans w' w.heap.size ag (Qgl bs t) ∧ Below w.heap.size w w' := by
  have hb0 : Below w.heap.size w (w.alloc (.cells #[.map (some mb)] 67)) := (Below.refl _ _).alloc (Nat.le_refl _) _
  have hP : PutAt (w.alloc (.cells #[.map (some mb)] 67)) w.heap.size mb q D bs ps :=
    ⟨Box1.new _ _ _, hown.alloc _, hF, hlen, hnums, fun i hp hb => ⟨(hat i hp hb).1, (hat i hp hb).2.below hb0⟩⟩
  have HF := Qty bs HB ps w.heap.size mb q D t m HM hm HW ao cap _ (hx.below hb0) hP
  clear hx hP hown hF hlen hnums hat
  go_enter Tryz.func50, Tryz.ntmps50
  go_wp2_with fail
  refine HF.mono ?_
  rintro e w1 ⟨ag, l, cg, rfl, hl, ha, hb1⟩
  have hb := Below.step hb0 hb1
  have ha2 := ha.mono (B' := w.heap.size) (by simp)
  clear HF ha hb0 hb1
  go_wp2
  go_ret
  exact ⟨_, _, _, rfl, hl, ha2, hb⟩
theorem Qri (bs : List (Int × List Nd)) (n : Nat) (HN : Hid (bs.length = n)) (hn : n ≤ 1048576) (HK : Hid (∀ b ∈ bs, b.2.length ≤ 1048576)) (HWB : Hid (∀ b ∈ bs, (Lit.int .i64 b.1).wf = true)) (t : List Nd) (m : Nat) (HM : Hid (t.length = m)) (hm : m ≤ 1048576) (HW : Hid (∀ n ∈ t, (Lit.int .i64 n.num).wf = true)) (ao bo : Option Addr) (ca cb : Nat) (w : World) (hbs : Binds w ao bs) (hx : Nodes w bo t) :
    Calls Tryz.prog 22 #[.slice ao n ca, .slice bo m cb] w fun e w' => ∃ ag cg, e = .returned (.slice ag (Qai bs t).length cg) ∧ Ans w' w.heap.size ag (Qai bs t) ∧ Below w.heap.size w w' := by
  have HT := Qbr t m HM hm bo cb w hx
  cases ht : typeb t
  · rw [ht] at HT
    have HV : Hid (Qai bs t = []) := by rw [Hid, Qai, if_neg (by simp [ht])]
    clear hx hbs
    go_enter Tryz.func22, Tryz.ntmps22
    go_wp2_with fail
    refine HT.mono ?_
    rintro e w1 ⟨rfl, hb1⟩
    clear HT
    go_wp2
    go_ret
    rw [HV.out]
    exact ⟨_, _, rfl, Or.inl rfl, hb1.alloc hb1.size _⟩
  · rw [ht] at HT
    have h3 : m ≤ 300 := by have := Qao ht; have := HM.out; omega
    go_enter Tryz.func22, Tryz.ntmps22
    go_wp2_with fail
    refine HT.mono ?_
    rintro e w1 ⟨rfl, hb1⟩
    have HH := Qmu bs n HN ao ca w1 (hbs.below hb1) hn HK
    clear HT
    cases hts : Qdp bs
    · rw [hts] at HH
      have HV : Hid (Qai bs t = []) := by
        rw [Hid, Qai, if_neg]
        rintro ⟨_, h2, _⟩
        rw [(Qct bs).2 h2] at hts
        cases hts
      clear hx hbs
      go_wp2_with fail
      refine HH.mono ?_
      rintro e w2 ⟨rfl, hb2⟩
      have hb := Below.step hb1 hb2
      clear HH hb1 hb2
      go_wp2
      go_ret
      rw [HV.out]
      exact ⟨_, _, rfl, Or.inl rfl, hb.alloc hb.size _⟩
    · rw [hts] at HH
      have HV : Hid (Qai bs t = Qgl bs t) := by
        rw [Hid, Qai, Qgl]
        by_cases h9 : (Qam bs t).length ≤ 300
        · rw [if_pos h9, if_pos ⟨ht, (Qct bs).1 hts, h9⟩]
        · rw [if_neg h9, if_neg (fun h => h9 h.2.2)]
      have HB : Hid (Qdp bs = true) := hts
      go_wp2_with fail
      refine HH.mono ?_
      rintro e w2 ⟨rfl, hb2⟩
      have hb := Below.step hb1 hb2
      clear HH hb1 hb2 hts ht
      obtain ⟨ps, hlen, hnums, hprs, hat⟩ := (hbs.below hb).prs
      have hwp : ∀ p ∈ ps, (Lit.int .i64 p.1).wf = true := by
        intro p hp
        have h9 : p.1 ∈ ps.map Prod.fst := List.mem_map_of_mem hp
        rw [hnums] at h9
        obtain ⟨b, hb9, e9⟩ := List.mem_map.1 h9
        rw [← e9]
        exact HWB.out b hb9
      have HTY := Qqb ps n (by rw [Hid, hlen]; exact HN.out) hn hwp ao ca w2 hprs
      have hx2 := hx.below hb
      clear hx hbs hprs
      go_wp2_with fail
      refine HTY.mono ?_
      rintro e w3 ⟨D, rfl, hown, hF, hb3⟩
      have HPT := Qzl bs HB ps w2.heap.size n D t m HM h3 HW bo cb w3 (hx2.below hb3) hown hF hlen hnums (fun i hp hb' => ⟨(hat i hp hb').1, (hat i hp hb').2.below hb3⟩)
      have hbb := Below.step hb hb3
      have hsz := hbb.size
      clear HTY hx2 hown hF hat hb hb3
      go_wp2_with fail
      refine HPT.mono ?_
      rintro e w4 ⟨ag, l, cg, rfl, hl, ha, hb4⟩
      have hb := Below.step hbb hb4
      have ha2 := ha.mono (B' := w.heap.size) (by omega)
      clear HPT ha hb4 hbb
      go_wp2
      go_ret
      rw [HV.out, hl]
      exact ⟨_, _, rfl, ha2, hb⟩
end Go.Proofs.YtoiiibplkhedcaaGreatDoor
namespace Go.Proofs.YtoiiibplkhedcaaGreatDoor
open Go.RowKit
def fsAt (bs : List (Int × List Nd)) (x : Int) : Option (List Nd) := (bs[placeIn (bs.map Prod.fst) x]?).map Prod.snd
theorem fsAt_some {bs : List (Int × List Nd)} {x : Int} : (fsAt bs x).isSome = true ↔ ∃ b ∈ bs, b.1 = x := by
  unfold fsAt
  rw [Option.isSome_map]
  constructor
  · intro h
    obtain ⟨b, hb⟩ := Option.isSome_iff_exists.1 h
    obtain ⟨hlt, e⟩ := List.getElem?_eq_some_iff.1 hb
    refine ⟨b, List.mem_of_getElem? hb, ?_⟩
    have h9 : placeIn (bs.map Prod.fst) x < (bs.map Prod.fst).length := by simpa using hlt
    have h8 : ((bs.map Prod.fst)[placeIn (bs.map Prod.fst) x] == x) = true := List.findIdx_getElem (w := h9)
    rw [List.getElem_map, e] at h8
    simpa using h8
  · rintro ⟨b, hb, e⟩
    have h8 : (bs.map Prod.fst).findIdx (· == x) < (bs.map Prod.fst).length := List.findIdx_lt_length_of_exists ⟨b.1, List.mem_map_of_mem hb, by simp [e]⟩
    have h9 : placeIn (bs.map Prod.fst) x < bs.length := by simpa [placeIn] using h8
    rw [List.getElem?_eq_getElem h9]
    rfl
theorem Qxh {bs : List (Int × List Nd)} {x : Int} {t : List Nd} (h : fsAt bs x = some t) : ∃ hl : placeIn (bs.map Prod.fst) x < bs.length, bs[placeIn (bs.map Prod.fst) x].2 = t := by
  unfold fsAt at h
  obtain ⟨b, hb, e⟩ := Option.map_eq_some_iff.1 h
  obtain ⟨hl, e9⟩ := List.getElem?_eq_some_iff.1 hb
  exact ⟨hl, by rw [e9]; exact e⟩
theorem Qjc {bs : List (Int × List Nd)} {x : Int} {t : List Nd} (h : fsAt bs x = some t) : ∃ b ∈ bs, b.2 = t := by
  obtain ⟨hl, e⟩ := Qxh h
  exact ⟨_, List.getElem_mem hl, e⟩
def Qqz (x : Int) : Nd := ⟨61, x, ByteArray.empty, 0, 0⟩
theorem Qqv {n : Nd} (h : n.plainb = true) (hk : n.kind = 61) : n = Qqz n.num := by
  obtain ⟨a, b, c, d, e⟩ := n
  simp only at hk
  subst hk
  unfold Nd.plainb at h
  simp at h
  obtain ⟨h1, h2⟩ := h
  obtain ⟨⟨h3, _⟩, h4⟩ := h2
  simp only [Qqz]
  subst h4
  subst h1
  subst h3
  rfl
theorem Qom (x : Int) : One [Qqz x] := One.join (A := []) (n := Qqz x) (by simp) (by simp [Qqz])
theorem Qod {t : List Nd} (h : t.all Nd.plainb = true) : Leafy t := by
  intro n hn h61
  have := List.all_eq_true.1 h n hn
  unfold Nd.plainb at this
  simp [h61] at this
  exact this.2.1.1
theorem Qkx {α β : Type} {l : List α} {f g : α → List β} (h : ∀ x ∈ l, f x = g x) : l.flatMap f = l.flatMap g := by
  induction l with
  | nil => rfl
  | cons a l ih => simp only [List.flatMap_cons]; rw [h a (by simp), ih (fun x hx => h x (by simp [hx]))]
theorem Jav {a : List Nd} (h : One a) (hl : a.length ≤ 300) : 0 < deepOf a := by
  obtain ⟨s, ys, ha⟩ := h
  have hf := Qaf ha
  have hlen := hf.len
  have hmem := hf.mem 0 (by simp)
  simp only [List.getElem_cons_zero] at hmem
  obtain ⟨hrl, hrs⟩ := List.getElem?_eq_some_iff.1 hmem
  obtain ⟨h1, h2⟩ := hf.chain.2.2.1 (by simp)
  simp only [List.getElem_cons_zero, List.length_cons, List.length_nil, Nat.zero_add, Nat.sub_self] at h1 h2
  have hroot := hf.root s.rt hrl
  rw [hrs] at hroot
  have hlast : ys.getLast? = some s := by
    rw [List.getLast?_eq_getElem?]
    have e : ys.length - 1 = s.rt := by omega
    rw [e]
    exact hmem
  unfold deepOf
  rw [if_neg (by omega), ha]
  simp only
  rw [hlast]
  simp only
  rw [if_pos ⟨h1, by omega⟩]
  omega
theorem Qzw {t : List Nd} (h : 0 < deepOf t) : One t := by
  obtain ⟨h0, h6, S, ys, ha, hl⟩ := Qii rfl h
  unfold deepOf at h
  rw [if_neg (by omega), ha] at h
  simp only at h
  cases hg : ys.getLast? with
  | none => rw [hg] at h; simp at h
  | some s =>
    rw [hg] at h
    simp only at h
    by_cases hc : s.fr = 0 ∧ s.dp ≤ 300
    · rw [List.getLast?_eq_getElem?] at hg
      have h9 := Qjl ha (i := ys.length - 1) (by omega) hg
      rw [hc.1, hl] at h9
      have e : span t 0 (t.length - 1) = t := by
        unfold span
        rw [List.take_of_length_le (by omega)]
        simp
      rw [e] at h9
      exact h9
    · rw [if_neg hc] at h
      omega
theorem Qix {t : List Nd} (h : typeb t = true) : One t := by
  simp only [typeb, Bool.and_eq_true, decide_eq_true_eq] at h
  exact Qzw h.1.2
theorem Qlg {t : List Nd} (h : typeb t = true) : t.all Nd.plainb = true := by
  simp only [typeb, Bool.and_eq_true, decide_eq_true_eq] at h
  exact h.2
theorem Qmm {a : List Nd} (h : One a) (hl : a.length ≤ 300) (hp : a.all Nd.plainb = true) : typeb a = true := by
  simp only [typeb, Bool.and_eq_true, decide_eq_true_eq]
  exact ⟨⟨hl, Jav h hl⟩, hp⟩
theorem Qev (bs : List (Int × List Nd)) (n : Nd) : Qbg bs n = if n.kind = 61 then (fsAt bs n.num).getD [n] else [n] := rfl
theorem Qgo (ts : List (Int × List Nd)) {b : List Nd} (hp : b.all Nd.plainb = true) : Qam ts b = fill (fun x => (fsAt ts x).getD [Qqz x]) b := by
  unfold Qam fill
  apply Qkx
  intro n hn
  rw [Qev, Qas]
  have hpn : n.plainb = true := List.all_eq_true.1 hp n hn
  by_cases hk : n.kind = 61
  · rw [if_pos hk, if_pos hk, ← Qqv hpn hk]
  · rw [if_neg hk, if_neg hk]
theorem Qpd {ts : List (Int × List Nd)} (ht : Qdp ts = true) {x : Int} {t : List Nd} (h : fsAt ts x = some t) : typeb t = true := by
  obtain ⟨b, hb, rfl⟩ := Qjc h
  exact (Qct ts).1 ht b hb
theorem Qqu {ts : List (Int × List Nd)} {b : List Nd} (ht : Qdp ts = true) (hb : typeb b = true) (hl : (Qam ts b).length ≤ 300) : typeb (Qam ts b) = true := by
  have hp := Qlg hb
  refine Qmm ?_ hl ?_
  · rw [Qgo ts hp]
    refine Qec (fun x => ?_) (Qod hp) (Qix hb)
    cases hx : fsAt ts x with
    | none => exact Qom x
    | some t => exact Qix (Qpd ht hx)
  · rw [List.all_eq_true]
    intro n hn
    obtain ⟨m, hm, hn⟩ := List.mem_flatMap.1 hn
    have hpm : m.plainb = true := List.all_eq_true.1 hp m hm
    rw [Qev] at hn
    by_cases hk : m.kind = 61
    · rw [if_pos hk] at hn
      cases hx : fsAt ts m.num with
      | none =>
        rw [hx] at hn
        simp at hn
        rw [hn]
        exact hpm
      | some t =>
        rw [hx] at hn
        exact List.all_eq_true.1 (Qlg (Qpd ht hx)) n hn
    · rw [if_neg hk] at hn
      simp at hn
      rw [hn]
      exact hpm
theorem Qrx {bs : List (Int × List Nd)} {t : List Nd} (h : Qai bs t ≠ []) : typeb t = true ∧ Qdp bs = true ∧ (Qam bs t).length ≤ 300 ∧ Qai bs t = Qam bs t := by
  unfold Qai at h ⊢
  by_cases hc : typeb t = true ∧ (∀ b ∈ bs, typeb b.2 = true) ∧ (Qam bs t).length ≤ 300
  · rw [if_pos hc] at h ⊢
    exact ⟨hc.1, (Qct bs).2 hc.2.1, hc.2.2, rfl⟩
  · rw [if_neg hc] at h
    exact absurd rfl h
theorem Qzk {bs : List (Int × List Nd)} {t : List Nd} (h1 : typeb t = true) (h2 : Qdp bs = true) (h3 : (Qam bs t).length ≤ 300) : Qai bs t = Qam bs t := by
  rw [Qai, if_pos ⟨h1, (Qct bs).1 h2, h3⟩]
end Go.Proofs.YtoiiibplkhedcaaGreatDoor

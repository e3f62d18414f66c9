import Derived.Test.YtoiiibplkhedcaaGreatDoorGT
import Derived.Maps.OwnSet
import Derived.Test.YtoiiibplkhedcaaGreatDoorGG
import Derived.Test.YtoiiibplkhedcaaGreatDoorGD
import Derived.Test.YtoiiibplkhedcaaGreatDoorGF
import Derived.Test.YtoiiibplkhedcaaGreatDoorGA
namespace Go.Proofs.YtoiiibplkhedcaaGreatDoor
open Go.RowKit Go.Maps
set_option maxHeartbeats 1000000 in
theorem Qdm (x : Int) (ks : List Nd) (l : Nat) (HL : Hid (ks.length = l)) (hl : l ≤ 1048576) (ai : Option Addr) (ci : Nat) (w : World) (hn : Nodes w ai ks) :
    Calls Tryz.prog 85 #[.agg #[.int .i64 x, .slice ai l ci]] w fun e w' => e = .returned (.bool (!typeb ks)) ∧ Below w.heap.size w w' := by
  have hb0 : Below w.heap.size w (w.alloc (Obj.cells #[.int .i64 x, .slice ai l ci] 54)) := (Below.refl _ _).alloc (Nat.le_refl _) _
  have HT := iIsType_any ks l HL hl ai ci _ (hn.below hb0)
  obtain ⟨d, hd⟩ : ∃ d, typeb ks = d := ⟨_, rfl⟩
  rw [hd] at HT ⊢
  clear hn
  go_enter Tryz.func85, Tryz.ntmps85
  go_wp2_with fail
  refine HT.mono ?_
  rintro e w1 ⟨rfl, hb1⟩
  have hb2 := Below.step hb0 hb1
  clear HT hb0 hb1
  go_wp2
  go_ret
  exact ⟨rfl, hb2⟩
set_option maxHeartbeats 2000000 in
theorem Qcm (bs : List (Int × List Nd)) (n : Nat) (HX : Hid (bs.length = n)) (ao : Option Addr) (cap : Nat) (w : World) (hx : Binds w ao bs) (hlx : n ≤ 1048576) (HK : Hid (∀ b ∈ bs, b.2.length ≤ 1048576)) :
    Calls Tryz.prog 104 #[.slice ao n cap, .func (.func 85) #[] #[]] w fun e w' =>
      (∃ r : Int, e = .returned (.int .i64 r) ∧ decide (r ≥ 0) = bs.any (fun b => !typeb b.2)) ∧ Below w.heap.size w w' := by
  go_enter Tryz.func104, Tryz.ntmps104
  go_wp2
  go_loopw [8] (fun i wr => ∃ (k : Nat), k ≤ n ∧ i = .int .i64 k ∧ (bs.take k).any (fun b => !typeb b.2) = false ∧ Below w.heap.size w wr) (fun i _ => n - (intOf i).toNat)
  case atStart => exact ⟨0, Nat.zero_le _, rfl, by simp, Below.refl _ _⟩
  case round =>
    obtain ⟨k, hk, rfl, hall, hb⟩ := hrel
    by_cases hlt : k < n
    · have hltx : k < bs.length := by have := HX.out; omega
      have hkl := HK.out bs[k] (List.getElem_mem hltx)
      obtain ⟨⟨nm, ks⟩, hxk⟩ : ∃ x, bs[k] = x := ⟨_, rfl⟩
      obtain ⟨b, o, ai, ci, rfl, c0, c1, hn⟩ := hx.below hb k hltx
      rw [hxk] at c0 c1 hn hkl
      simp only at c0 c1 hn hkl
      obtain ⟨l, hl⟩ : ∃ l, ks.length = l := ⟨_, rfl⟩
      rw [hl] at c1 hkl
      have hlb : b < wr.heap.size := lt_of_cell c0
      have HXK : Hid (bs[k] = (nm, ks)) := hxk
      have HC := Qdm nm ks l hl hkl ai ci wr hn
      clear hx hxk hn hl
      cases hq : (!typeb ks)
      · have HA : Hid ((bs.take (k + 1)).any (fun b => !typeb b.2) = false) := takeL_any k hltx (by rw [HXK.out]; exact hq) hall
        rw [hq] at HC
        clear hall hq
        go_wp2_with fail
        refine HC.mono ?_
        rintro e w1 ⟨rfl, hb1⟩
        have hbb := Below.step hb hb1
        clear hb hb1 c0 c1 HC
        go_wp2
        go_roundw
        case rel => exact ⟨k + 1, by omega, by go_num, HA.out, hbb⟩
        case measure => simp [intOf]; omega
      · have HA : Hid (bs.any (fun b => !typeb b.2) = true) := any_true k hltx (by rw [HXK.out]; exact hq)
        rw [hq] at HC
        clear hall hq
        go_wp2_with fail
        refine HC.mono ?_
        rintro e w1 ⟨rfl, hb1⟩
        have hbb := Below.step hb hb1
        clear hb hb1 c0 c1 HC
        go_wp2
        go_ret
        exact ⟨⟨(k : Int), rfl, by rw [HA.out]; simp⟩, hbb⟩
    · have HA : Hid (bs.any (fun b => !typeb b.2) = false) := by
        have h9 := hall
        rw [List.take_of_length_le (by have := HX.out; omega)] at h9
        exact h9
      clear hall hx
      go_wp2
      go_ret
      exact ⟨⟨-1, rfl, by rw [HA.out]; rfl⟩, hb⟩
set_option maxHeartbeats 400000 in
theorem Qbu (bs : List (Int × List Nd)) (n : Nat) (HX : Hid (bs.length = n)) (ao : Option Addr) (cap : Nat) (w : World) (hx : Binds w ao bs) (hlx : n ≤ 1048576) (HK : Hid (∀ b ∈ bs, b.2.length ≤ 1048576)) :
    Calls Tryz.prog 84 #[.slice ao n cap, .func (.func 85) #[] #[]] w fun e w' =>
      e = .returned (.bool (bs.any (fun b => !typeb b.2))) ∧ Below w.heap.size w w' := by
  go_enter Tryz.func84, Tryz.ntmps84
  go_wp2_with fail
  refine (Qcm bs n HX ao cap w hx hlx HK).mono ?_
  rintro e w1 ⟨⟨r, rfl, hr⟩, hb⟩
  have HR : Hid (decide (r ≥ 0) = bs.any (fun b => !typeb b.2)) := hr
  clear hr hx
  go_wp2
  go_ret
  exact ⟨by rw [← HR.out]; rfl, hb⟩
def Qaq (bs : List (Int × List Nd)) : Bool := bs.all (fun b => typeb b.2)
theorem Qfr (bs : List (Int × List Nd)) : Qaq bs = !bs.any (fun b => !typeb b.2) := by
  unfold Qaq
  induction bs with
  | nil => rfl
  | cons x xs ih => simp only [List.all_cons, List.any_cons, Bool.not_or, ← ih, Bool.not_not]
theorem Qak (bs : List (Int × List Nd)) : Qaq bs = true ↔ ∀ b ∈ bs, typeb b.2 = true := by
  unfold Qaq
  rw [List.all_eq_true]
set_option maxHeartbeats 400000 in
theorem Qdl (bs : List (Int × List Nd)) (n : Nat) (HX : Hid (bs.length = n)) (ao : Option Addr) (cap : Nat) (w : World) (hx : Binds w ao bs) (hlx : n ≤ 1048576) (HK : Hid (∀ b ∈ bs, b.2.length ≤ 1048576)) :
    Calls Tryz.prog 49 #[.slice ao n cap] w fun e w' => e = .returned (.bool (Qaq bs)) ∧ Below w.heap.size w w' := by
  have HV : Hid (Qaq bs = !bs.any (fun b => !typeb b.2)) := Qfr bs
  go_enter Tryz.func49, Tryz.ntmps49
  go_wp2_with fail
  refine (Qbu bs n HX ao cap w hx hlx HK).mono ?_
  rintro e w1 ⟨rfl, hb⟩
  clear hx
  go_wp2
  go_ret
  exact ⟨by rw [HV.out]; rfl, hb⟩
structure PutAt (W : World) (bx mb n : Nat) (D : DataW Value) (bs : List (Int × List Nd)) (ps : List (Int × (Option Addr × Nat × Nat))) : Prop where
  box : Box1 W bx 67 (.map (some mb))
  own : W.ownsMap Tryz.prog 2 Jac mb n D
  first : FirstD ps D
  len : ps.length = bs.length
  nums : ps.map Prod.fst = bs.map Prod.fst
  at' : ∀ i (hp : i < ps.length) (hb : i < bs.length), ps[i].2.2.1 = bs[i].2.length ∧ Nodes W ps[i].2.1 bs[i].2
theorem PutAt.below {W W' : World} {bx mb n : Nat} {D : DataW Value} {bs : List (Int × List Nd)} {ps : List (Int × (Option Addr × Nat × Nat))} (h : PutAt W bx mb n D bs ps) (hb : Below W.heap.size W W') : PutAt W' bx mb n D bs ps :=
  ⟨h.box.below hb h.box.lt, Qav h.own (hb.block mb h.own.lt), h.first, h.len, h.nums, fun i hp hl => ⟨(h.at' i hp hl).1, (h.at' i hp hl).2.below hb⟩⟩
theorem Jan (W : World) (n : Nd) : Nodes (W.alloc (.cells #[.int .i64 n.kind, .int .i64 n.num, .string n.text, .int .i64 n.kids, .int .i64 n.place] 43)) (some ⟨W.heap.size, 0, none⟩) [n] :=
  ((OwnN.one (w := W) (B := W.heap.size) (Nat.le_refl _) n).row).2.nodes
set_option maxRecDepth 100000 in
set_option maxHeartbeats 2000000 in
theorem Jbg (bs : List (Int × List Nd)) (ps : List (Int × (Option Addr × Nat × Nat))) (bx mb q : Nat) (D : DataW Value) (x : Nd) (hw : (Lit.int .i64 x.num).wf = true) (W : World) (h : PutAt W bx mb q D bs ps) :
    Calls Tryz.prog 87 #[.agg #[.int .i64 x.kind, .int .i64 x.num, .string x.text, .int .i64 x.kids, .int .i64 x.place], .pointer (some ⟨bx, 0, none⟩)] W fun e w' =>
      ∃ ao c, e = .returned (.slice ao (putSub bs x).length c) ∧ Nodes w' ao (putSub bs x) ∧ (∀ b o, ao = some ⟨b, o, none⟩ → W.heap.size ≤ b ∨ ∃ i, ∃ h : i < ps.length, ps[i].2.1 = ao) ∧ Below W.heap.size W w' := by
  have hb0 : Below W.heap.size W (W.alloc (Obj.cells #[.int .i64 x.kind, .int .i64 x.num, .string x.text, .int .i64 x.kids, .int .i64 x.place] 43)) := (Below.refl _ _).alloc (Nat.le_refl _) _
  have hA := h.below hb0
  have hkey : keyOf Tryz.prog 2 (.int .i64 x.num) = some (.int .i64 x.num) := keyOf_int_mk Tryz.underlying2 hw
  have hc := hA.box.cell
  have hown := hA.own
  have hbl := h.box.lt
  have hone := Jan (W.alloc (Obj.cells #[.int .i64 x.kind, .int .i64 x.num, .string x.text, .int .i64 x.kids, .int .i64 x.place] 43)) x
  rw [World.size_alloc] at hone
  have hz : ∀ w, (zeroValue 23).run Tryz.prog w = .ok (.slice none 0 0) w := fun w => by kernel_rfl
  obtain ⟨hh, hat⟩ := h.first.2 x.num
  by_cases hp : placeIn (ps.map Prod.fst) x.num < ps.length
  · have hh1 : Maps.has D (.int .i64 x.num) = true := by rw [hh]; exact decide_eq_true hp
    clear hh
    have hv := hat hp (.held (.slice none 0 0))
    have hpb : placeIn (ps.map Prod.fst) x.num < bs.length := by rw [← h.len]; exact hp
    obtain ⟨hl9, hn9⟩ := hA.at' _ hp hpb
    obtain ⟨⟨nm, sa, sn, sc⟩, hpe⟩ : ∃ p, ps[placeIn (ps.map Prod.fst) x.num] = p := ⟨_, rfl⟩
    have HPE : Hid (∃ i, ∃ h : i < ps.length, ps[i].2.1 = sa) := ⟨_, hp, by rw [hpe]⟩
    rw [hpe] at hv hl9 hn9
    simp only [sl] at hv hl9 hn9
    by_cases h61 : x.kind = 61
    · have HS : Hid (putSub bs x = bs[placeIn (ps.map Prod.fst) x.num].2) := by
        rw [Hid, putSub, if_pos h61, ← h.nums, List.getElem?_eq_getElem hpb]
        rfl
      rw [← HS.out] at hl9 hn9
      generalize putSub bs x = R at hl9 hn9 ⊢
      subst hl9
      clear HS hat hone hpe h hA hp hpb
      obtain ⟨kd, nm', tx, ks, pl⟩ := x
      simp only at h61 hw hb0 hkey hc hown hh1 hv hn9 ⊢
      subst h61
      go_enter Tryz.func87, Tryz.ntmps87
      go_wp2_with (first
        | (at_lookup; refine Qag _ rfl _ _ 67 rfl 2 23 Tryz.law2 Tryz.underlying67 (hz _) mb q D rfl hown _ _ rfl hkey rfl hh1 hv ?_)
        | go_in)
      go_ret
      exact ⟨sa, sc, rfl, hn9, fun b o e => Or.inr (by obtain ⟨i, hi, e9⟩ := HPE.out; exact ⟨i, hi, e9⟩), hb0⟩
    · have t61 : ((x.kind : Int) == 61) = false := by simpa using h61
      have HS : Hid (putSub bs x = [x]) := by rw [Hid, putSub, if_neg h61]
      clear hat hn9 hl9 hpe h hA HPE
      go_enter Tryz.func87, Tryz.ntmps87
      go_wp2_with (first
        | (at_lookup; refine Qag _ rfl _ _ 67 rfl 2 23 Tryz.law2 Tryz.underlying67 (hz _) mb q D rfl hown _ _ rfl hkey rfl hh1 hv ?_)
        | go_in)
      go_ret
      rw [HS.out]
      exact ⟨_, _, rfl, hone, fun b o e => Or.inl (by simp at e; omega), hb0.alloc hb0.size _⟩
  · have hh : Maps.has D (.int .i64 x.num) = false := by rw [hh]; exact decide_eq_false hp
    have hv : D.atKey (.int .i64 x.num) (.held (.slice none 0 0)) = .held (.slice none 0 0) := atKey_of_not_has hh _
    have HS : Hid (putSub bs x = [x]) := by
      have hpb : bs[placeIn (bs.map Prod.fst) x.num]? = none := List.getElem?_eq_none (by rw [← h.nums, ← h.len]; omega)
      rw [Hid, putSub, hpb]
      split <;> rfl
    clear hat h hA
    go_enter Tryz.func87, Tryz.ntmps87
    go_wp2_with (first
        | (at_lookup; refine Qag _ rfl _ _ 67 rfl 2 23 Tryz.law2 Tryz.underlying67 (hz _) mb q D rfl hown _ _ rfl hkey rfl hh hv ?_)
        | go_in)
    go_ret
    rw [HS.out]
    exact ⟨_, _, rfl, hone, fun b o e => Or.inl (by simp at e; omega), hb0.alloc hb0.size _⟩
def Qbj (bs : List (Int × List Nd)) (t : List Nd) : List Nd := if (putAll bs t).length ≤ 300 then putAll bs t else []
theorem Qft {bs : List (Int × List Nd)} (h : Qaq bs = true) (x : Nd) : 0 < (putSub bs x).length ∧ (putSub bs x).length ≤ 300 := by
  unfold putSub
  split
  · cases hg : bs[placeIn (bs.map Prod.fst) x.num]? with
    | none => simp
    | some b =>
      have hm := List.mem_of_getElem? hg
      have ht := (Qak bs).1 h b hm
      exact ⟨typeb_pos ht, typeb_len ht⟩
  · simp
set_option maxRecDepth 100000 in
set_option maxHeartbeats 2000000 in
theorem Qga (bs : List (Int × List Nd)) (HB : Hid (Qaq bs = true)) (ps : List (Int × (Option Addr × Nat × Nat))) (bx mb q : Nat) (D : DataW Value) (t : List Nd) (m : Nat) (HM : Hid (t.length = m)) (hm : m ≤ 300) (HW : Hid (∀ n ∈ t, (Lit.int .i64 n.num).wf = true)) (ao : Option Addr) (cap : Nat) (w : World) (hx : Nodes w ao t) (h : PutAt w bx mb q D bs ps) :
    Calls Tryz.prog 86 #[.slice ao m cap, .func (.func 87) #[] #[.pointer (some ⟨bx, 0, none⟩)]] w fun e w' =>
      ∃ ag l cg, e = .returned (.slice ag l cg) ∧ (Qbj bs t).length = l ∧ Ans w' w.heap.size ag (Qbj bs t) ∧ Below w.heap.size w w' := by
  obtain ⟨i0, hi, hz0, hz1, hz2⟩ := info_parts Tryz.infoN
  have hO := OwnN.empty (w := w) (B := w.heap.size) (Nat.le_refl _)
  go_enter Tryz.func86, Tryz.ntmps86
  go_wp2
  go_loopw [5, 12] (fun v p wr => ∃ (k g c l : Nat), k ≤ m ∧ p = .int .i64 k ∧ v = .slice (some ⟨g, 0, none⟩) l c ∧ l ≤ 300 ∧ OwnN wr w.heap.size g c l (putAll bs (t.take k)) ∧ Below w.heap.size w wr) (fun _ p _ => m - (intOf p).toNat)
  case atStart => exact ⟨0, w.heap.size, 0, 0, Nat.zero_le _, rfl, rfl, by omega, by simpa [putAll] using hO, (Below.refl _ _).alloc (Nat.le_refl _) _⟩
  case round =>
    obtain ⟨k, g, c, l, hk, rfl, rfl, hl3, hown, hb⟩ := hrel
    by_cases hlt : k < m
    · have hltx : k < t.length := by have := HM.out; omega
      have hstep := putAll_take bs t k hltx
      have hall := putAll_le bs t (k + 1)
      have hwx := HW.out t[k] (List.getElem_mem hltx)
      obtain ⟨x, hxk⟩ : ∃ x, t[k] = x := ⟨_, rfl⟩
      obtain ⟨b, o, rfl, hcx⟩ := hx.below hb k hltx
      rw [hxk] at hcx hstep hwx
      obtain ⟨c0, c1, c2, c3, c4⟩ := hcx
      have hlb : b < wr.heap.size := lt_of_cell c0
      have hob := owns_block hown.2
      have hpl := Qft HB.out x
      have hA1 : Below wr.heap.size wr (wr.alloc (.cells #[.int .i64 x.kind, .int .i64 x.num, .string x.text, .int .i64 x.kids, .int .i64 x.place] 43)) := (Below.refl _ wr).alloc (Nat.le_refl _) _
      have hP := Jbg bs ps bx mb q D x hwx _ ((h.below hb).below hA1)
      have hown1 := hown.alloc (.cells #[.int .i64 x.kind, .int .i64 x.num, .string x.text, .int .i64 x.kids, .int .i64 x.place] 43)
      have hb1 := hb.alloc hb.size (.cells #[.int .i64 x.kind, .int .i64 x.num, .string x.text, .int .i64 x.kids, .int .i64 x.place] 43)
      have hn9 := hown.1
      generalize putAll bs (t.take k) = Z at *
      generalize hR : putSub bs x = R at *
      obtain ⟨p, hp⟩ : ∃ p, R.length = p := ⟨_, rfl⟩
      rw [hp] at hP hpl
      have HP : Hid (R.length = p) := hp
      have HS : Hid (putAll bs (t.take (k + 1)) = Z ++ R) := hstep
      have hsum : (Z ++ R).length = l + p := by simp [hn9, hp]
      have HN : Hid (l + p ≤ (putAll bs t).length) := by rw [Hid, ← hsum, ← HS.out]; exact hall
      clear hx hxk hstep hall h hsum hp hR hown hb HW
      go_wp2_with fail
      refine hP.mono ?_
      rintro e w1 ⟨ag, cg, rfl, hng, _, hb2⟩
      have hown2 := hown1.below hb2
      have hbb := Below.step hb1 hb2
      clear hP hown1 hb1 hb2 c0 c1 c2 c3 c4 hA1
      have tp : ((p : Int) == 0) = false := by simp; omega
      by_cases hbig : l + p ≤ 300
      · have tb : decide ((l : Int) + (p : Int) > 300) = false := decide_eq_false (by omega)
        obtain ⟨b1, o1, rfl, _⟩ := hng 0 (by have := HP.out; omega)
        have hnews := Qcu hng
        clear hng
        go_wp2_with (at_builtin; refine wpList_append2 _ rfl (.tmp 30) (.tmp 31) 23 rfl w.heap.size 43 i0 _ 5 48 Tryz.underlying23 hi hz0 hz1 hz2 rfl (by decide) g l c _ rfl hown2.2 ⟨b1, o1, none⟩ p cg (flat R) rfl ?a1 hnews (nd_flat_one R) ?a3 ?a4 ?a5 ?_)
        case a1 => rw [flat_length, HP.out]
        case a3 => unfold maxLen; omega
        case a4 => omega
        case a5 => exact hbb.size
        intro g2 c2 w2 hown3 hgrow3 hwh
        have hF : OwnN w2 w.heap.size g2 c2 (l + p) (Z ++ R) := ⟨by simp [hn9, HP.out], by rw [flat_append]; exact hown3⟩
        have hb3 : Below w.heap.size w w2 := hbb.grown hgrow3 hbb.size (fun q hq => by cases hq; exact hob.1)
        clear hown3 hgrow3 hwh hown2 hbb hnews
        go_wp2
        go_roundw
        case rel => exact ⟨k + 1, g2, c2, l + p, by omega, by go_num, rfl, hbig, by rw [HS.out]; exact hF, hb3⟩
        case measure => simp [intOf]; omega
      · have tb : decide ((l : Int) + (p : Int) > 300) = true := decide_eq_true (by omega)
        have HV : Hid ((Qbj bs t) = []) := by
          rw [Hid, Qbj, if_neg (by have := HN.out; omega)]
        clear hng hown2
        go_wp2
        go_ret
        rw [HV.out]
        exact ⟨_, _, _, rfl, rfl, Or.inl rfl, hbb⟩
    · have hkm : k = m := by omega
      subst hkm
      have HV : Hid ((Qbj bs t) = putAll bs (t.take k)) := by
        have e9 : t.take k = t := List.take_of_length_le (by have := HM.out; omega)
        rw [e9] at hown ⊢
        rw [Hid, Qbj, if_pos (by have := hown.1; omega)]
      obtain ⟨hg, hr⟩ := hown.row
      have hn := hown.1
      clear hx h hown
      go_wp2
      go_ret
      rw [HV.out]
      exact ⟨_, _, _, rfl, hn, hr.ans hg, hb⟩
set_option maxHeartbeats 1000000 in
theorem Jbf (bs : List (Int × List Nd)) (HB : Hid (Qaq bs = true)) (ps : List (Int × (Option Addr × Nat × Nat))) (mb q : Nat) (D : DataW Value) (t : List Nd) (m : Nat) (HM : Hid (t.length = m)) (hm : m ≤ 300) (HW : Hid (∀ n ∈ t, (Lit.int .i64 n.num).wf = true)) (ao : Option Addr) (cap : Nat) (w : World) (hx : Nodes w ao t)
    (hown : w.ownsMap Tryz.prog 2 Jac mb q D) (hF : FirstD ps D) (hlen : ps.length = bs.length) (hnums : ps.map Prod.fst = bs.map Prod.fst) (hat : ∀ i (hp : i < ps.length) (hb : i < bs.length), ps[i].2.2.1 = bs[i].2.length ∧ Nodes w ps[i].2.1 bs[i].2) :
    Calls Tryz.prog 50 #[.map (some mb), .slice ao m cap] w fun e w' =>
      ∃ ag l cg, e = .returned (.slice ag l cg) ∧ (Qbj bs t).length = l ∧ Ans w' w.heap.size ag (Qbj bs t) ∧ Below w.heap.size w w' := by
  have hb0 : Below w.heap.size w (w.alloc (.cells #[.map (some mb)] 67)) := (Below.refl _ _).alloc (Nat.le_refl _) _
  have hP : PutAt (w.alloc (.cells #[.map (some mb)] 67)) w.heap.size mb q D bs ps :=
    ⟨Box1.new _ _ _, hown.alloc _, hF, hlen, hnums, fun i hp hb => ⟨(hat i hp hb).1, (hat i hp hb).2.below hb0⟩⟩
  have HF := Qga bs HB ps w.heap.size mb q D t m HM hm HW ao cap _ (hx.below hb0) hP
  clear hx hP hown hF hlen hnums hat
  go_enter Tryz.func50, Tryz.ntmps50
  go_wp2_with fail
  refine HF.mono ?_
  rintro e w1 ⟨ag, l, cg, rfl, hl, ha, hb1⟩
  have hb := Below.step hb0 hb1
  have ha2 := ha.mono (B' := w.heap.size) (by simp)
  clear HF ha hb0 hb1
  go_wp2
  go_ret
  exact ⟨_, _, _, rfl, hl, ha2, hb⟩
set_option maxHeartbeats 1000000 in
theorem Qff (bs : List (Int × List Nd)) (n : Nat) (HN : Hid (bs.length = n)) (hn : n ≤ 1048576) (HK : Hid (∀ b ∈ bs, b.2.length ≤ 1048576)) (HWB : Hid (∀ b ∈ bs, (Lit.int .i64 b.1).wf = true)) (t : List Nd) (m : Nat) (HM : Hid (t.length = m)) (hm : m ≤ 1048576) (HW : Hid (∀ n ∈ t, (Lit.int .i64 n.num).wf = true)) (ao bo : Option Addr) (ca cb : Nat) (w : World) (hbs : Binds w ao bs) (hx : Nodes w bo t) :
    Calls Tryz.prog 22 #[.slice ao n ca, .slice bo m cb] w fun e w' => ∃ ag cg, e = .returned (.slice ag (putOf bs t).length cg) ∧ Ans w' w.heap.size ag (putOf bs t) ∧ Below w.heap.size w w' := by
  have HT := iIsType_any t m HM hm bo cb w hx
  cases ht : typeb t
  · rw [ht] at HT
    have HV : Hid (putOf bs t = []) := by rw [Hid, putOf, if_neg (by simp [ht])]
    clear hx hbs
    go_enter Tryz.func22, Tryz.ntmps22
    go_wp2_with fail
    refine HT.mono ?_
    rintro e w1 ⟨rfl, hb1⟩
    clear HT
    go_wp2
    go_ret
    rw [HV.out]
    exact ⟨_, _, rfl, Or.inl rfl, hb1.alloc hb1.size _⟩
  · rw [ht] at HT
    have h3 : m ≤ 300 := by have := typeb_len ht; have := HM.out; omega
    go_enter Tryz.func22, Tryz.ntmps22
    go_wp2_with fail
    refine HT.mono ?_
    rintro e w1 ⟨rfl, hb1⟩
    have HH := Qdl bs n HN ao ca w1 (hbs.below hb1) hn HK
    clear HT
    cases hts : Qaq bs
    · rw [hts] at HH
      have HV : Hid (putOf bs t = []) := by
        rw [Hid, putOf, if_neg]
        rintro ⟨_, h2, _⟩
        rw [(Qak bs).2 h2] at hts
        cases hts
      clear hx hbs
      go_wp2_with fail
      refine HH.mono ?_
      rintro e w2 ⟨rfl, hb2⟩
      have hb := Below.step hb1 hb2
      clear HH hb1 hb2
      go_wp2
      go_ret
      rw [HV.out]
      exact ⟨_, _, rfl, Or.inl rfl, hb.alloc hb.size _⟩
    · rw [hts] at HH
      have HV : Hid (putOf bs t = Qbj bs t) := by
        rw [Hid, putOf, Qbj]
        by_cases h9 : (putAll bs t).length ≤ 300
        · rw [if_pos h9, if_pos ⟨ht, (Qak bs).1 hts, h9⟩]
        · rw [if_neg h9, if_neg (fun h => h9 h.2.2)]
      have HB : Hid (Qaq bs = true) := hts
      go_wp2_with fail
      refine HH.mono ?_
      rintro e w2 ⟨rfl, hb2⟩
      have hb := Below.step hb1 hb2
      clear HH hb1 hb2 hts ht
      obtain ⟨ps, hlen, hnums, hprs, hat⟩ := (hbs.below hb).prs
      have hwp : ∀ p ∈ ps, (Lit.int .i64 p.1).wf = true := by
        intro p hp
        have h9 : p.1 ∈ ps.map Prod.fst := List.mem_map_of_mem hp
        rw [hnums] at h9
        obtain ⟨b, hb9, e9⟩ := List.mem_map.1 h9
        rw [← e9]
        exact HWB.out b hb9
      have HTY := Qeu ps n (by rw [Hid, hlen]; exact HN.out) hn hwp ao ca w2 hprs
      have hx2 := hx.below hb
      clear hx hbs hprs
      go_wp2_with fail
      refine HTY.mono ?_
      rintro e w3 ⟨D, rfl, hown, hF, hb3⟩
      have HPT := Jbf bs HB ps w2.heap.size n D t m HM h3 HW bo cb w3 (hx2.below hb3) hown hF hlen hnums (fun i hp hb' => ⟨(hat i hp hb').1, (hat i hp hb').2.below hb3⟩)
      have hbb := Below.step hb hb3
      have hsz := hbb.size
      clear HTY hx2 hown hF hat hb hb3
      go_wp2_with fail
      refine HPT.mono ?_
      rintro e w4 ⟨ag, l, cg, rfl, hl, ha, hb4⟩
      have hb := Below.step hbb hb4
      have ha2 := ha.mono (B' := w.heap.size) (by omega)
      clear HPT ha hb4 hbb
      go_wp2
      go_ret
      rw [HV.out, hl]
      exact ⟨_, _, rfl, ha2, hb⟩
end Go.Proofs.YtoiiibplkhedcaaGreatDoor

namespace Go.Proofs.YtoiiibplkhedcaaGreatDoor
open Go.RowKit
def fsAt (bs : List (Int × List Nd)) (x : Int) : Option (List Nd) := (bs[placeIn (bs.map Prod.fst) x]?).map Prod.snd
theorem fsAt_some {bs : List (Int × List Nd)} {x : Int} : (fsAt bs x).isSome = true ↔ ∃ b ∈ bs, b.1 = x := by
  unfold fsAt
  rw [Option.isSome_map]
  constructor
  · intro h
    obtain ⟨b, hb⟩ := Option.isSome_iff_exists.1 h
    obtain ⟨hlt, e⟩ := List.getElem?_eq_some_iff.1 hb
    refine ⟨b, List.mem_of_getElem? hb, ?_⟩
    have h9 : placeIn (bs.map Prod.fst) x < (bs.map Prod.fst).length := by simpa using hlt
    have h8 : ((bs.map Prod.fst)[placeIn (bs.map Prod.fst) x] == x) = true := List.findIdx_getElem (w := h9)
    rw [List.getElem_map, e] at h8
    simpa using h8
  · rintro ⟨b, hb, e⟩
    have h8 : (bs.map Prod.fst).findIdx (· == x) < (bs.map Prod.fst).length := List.findIdx_lt_length_of_exists ⟨b.1, List.mem_map_of_mem hb, by simp [e]⟩
    have h9 : placeIn (bs.map Prod.fst) x < bs.length := by simpa [placeIn] using h8
    rw [List.getElem?_eq_getElem h9]
    rfl
theorem Jar {bs : List (Int × List Nd)} {x : Int} {t : List Nd} (h : fsAt bs x = some t) : ∃ hl : placeIn (bs.map Prod.fst) x < bs.length, bs[placeIn (bs.map Prod.fst) x].2 = t := by
  unfold fsAt at h
  obtain ⟨b, hb, e⟩ := Option.map_eq_some_iff.1 h
  obtain ⟨hl, e9⟩ := List.getElem?_eq_some_iff.1 hb
  exact ⟨hl, by rw [e9]; exact e⟩
theorem Qbz {bs : List (Int × List Nd)} {x : Int} {t : List Nd} (h : fsAt bs x = some t) : ∃ b ∈ bs, b.2 = t := by
  obtain ⟨hl, e⟩ := Jar h
  exact ⟨_, List.getElem_mem hl, e⟩
end Go.Proofs.YtoiiibplkhedcaaGreatDoor

namespace Go.Proofs.YtoiiibplkhedcaaGreatDoor
open Go.RowKit
def Jaf (x : Int) : Nd := ⟨61, x, ByteArray.empty, 0, 0⟩
theorem Qfc {n : Nd} (h : n.plainb = true) (hk : n.kind = 61) : n = Jaf n.num := by
  obtain ⟨a, b, c, d, e⟩ := n
  simp only at hk
  subst hk
  unfold Nd.plainb at h
  simp at h
  obtain ⟨h1, h2⟩ := h
  obtain ⟨⟨h3, _⟩, h4⟩ := h2
  simp only [Jaf]
  subst h4
  subst h1
  subst h3
  rfl
theorem Qef (x : Int) : One [Jaf x] := One.join (A := []) (n := Jaf x) (by simp) (by simp [Jaf])
theorem Qdy {t : List Nd} (h : t.all Nd.plainb = true) : Leafy t := by
  intro n hn h61
  have := List.all_eq_true.1 h n hn
  unfold Nd.plainb at this
  simp [h61] at this
  exact this.2.1.1
theorem Qco {α β : Type} {l : List α} {f g : α → List β} (h : ∀ x ∈ l, f x = g x) : l.flatMap f = l.flatMap g := by
  induction l with
  | nil => rfl
  | cons a l ih => simp only [List.flatMap_cons]; rw [h a (by simp), ih (fun x hx => h x (by simp [hx]))]
theorem Jbs {a : List Nd} (h : One a) (hl : a.length ≤ 300) : 0 < deepOf a := by
  obtain ⟨s, ys, ha⟩ := h
  have hf := after_fine ha
  have hlen := hf.len
  have hmem := hf.mem 0 (by simp)
  simp only [List.getElem_cons_zero] at hmem
  obtain ⟨hrl, hrs⟩ := List.getElem?_eq_some_iff.1 hmem
  obtain ⟨h1, h2⟩ := hf.chain.2.2.1 (by simp)
  simp only [List.getElem_cons_zero, List.length_cons, List.length_nil, Nat.zero_add, Nat.sub_self] at h1 h2
  have hroot := hf.root s.rt hrl
  rw [hrs] at hroot
  have hlast : ys.getLast? = some s := by
    rw [List.getLast?_eq_getElem?]
    have e : ys.length - 1 = s.rt := by omega
    rw [e]
    exact hmem
  unfold deepOf
  rw [if_neg (by omega), ha]
  simp only
  rw [hlast]
  simp only
  rw [if_pos ⟨h1, by omega⟩]
  omega
theorem Jbj {t : List Nd} (h : 0 < deepOf t) : One t := by
  obtain ⟨h0, h6, S, ys, ha, hl⟩ := deep_after rfl h
  unfold deepOf at h
  rw [if_neg (by omega), ha] at h
  simp only at h
  cases hg : ys.getLast? with
  | none => rw [hg] at h; simp at h
  | some s =>
    rw [hg] at h
    simp only at h
    by_cases hc : s.fr = 0 ∧ s.dp ≤ 300
    · rw [List.getLast?_eq_getElem?] at hg
      have h9 := sub_one ha (i := ys.length - 1) (by omega) hg
      rw [hc.1, hl] at h9
      have e : span t 0 (t.length - 1) = t := by
        unfold span
        rw [List.take_of_length_le (by omega)]
        simp
      rw [e] at h9
      exact h9
    · rw [if_neg hc] at h
      omega
theorem Qbw {t : List Nd} (h : typeb t = true) : One t := by
  simp only [typeb, Bool.and_eq_true, decide_eq_true_eq] at h
  exact Jbj h.1.2
theorem Qcs {t : List Nd} (h : typeb t = true) : t.all Nd.plainb = true := by
  simp only [typeb, Bool.and_eq_true, decide_eq_true_eq] at h
  exact h.2
theorem Qdg {a : List Nd} (h : One a) (hl : a.length ≤ 300) (hp : a.all Nd.plainb = true) : typeb a = true := by
  simp only [typeb, Bool.and_eq_true, decide_eq_true_eq]
  exact ⟨⟨hl, Jbs h hl⟩, hp⟩
theorem Qax (bs : List (Int × List Nd)) (n : Nd) : putSub bs n = if n.kind = 61 then (fsAt bs n.num).getD [n] else [n] := rfl
theorem Qbl (ts : List (Int × List Nd)) {b : List Nd} (hp : b.all Nd.plainb = true) : putAll ts b = fill (fun x => (fsAt ts x).getD [Jaf x]) b := by
  unfold putAll fill
  apply Qco
  intro n hn
  rw [Qax, fillN]
  have hpn : n.plainb = true := List.all_eq_true.1 hp n hn
  by_cases hk : n.kind = 61
  · rw [if_pos hk, if_pos hk, ← Qfc hpn hk]
  · rw [if_neg hk, if_neg hk]
theorem Qel {ts : List (Int × List Nd)} (ht : Qaq ts = true) {x : Int} {t : List Nd} (h : fsAt ts x = some t) : typeb t = true := by
  obtain ⟨b, hb, rfl⟩ := Qbz h
  exact (Qak ts).1 ht b hb
theorem Qfb {ts : List (Int × List Nd)} {b : List Nd} (ht : Qaq ts = true) (hb : typeb b = true) (hl : (putAll ts b).length ≤ 300) : typeb (putAll ts b) = true := by
  have hp := Qcs hb
  refine Qdg ?_ hl ?_
  · rw [Qbl ts hp]
    refine fill_one (fun x => ?_) (Qdy hp) (Qbw hb)
    cases hx : fsAt ts x with
    | none => exact Qef x
    | some t => exact Qbw (Qel ht hx)
  · rw [List.all_eq_true]
    intro n hn
    obtain ⟨m, hm, hn⟩ := List.mem_flatMap.1 hn
    have hpm : m.plainb = true := List.all_eq_true.1 hp m hm
    rw [Qax] at hn
    by_cases hk : m.kind = 61
    · rw [if_pos hk] at hn
      cases hx : fsAt ts m.num with
      | none =>
        rw [hx] at hn
        simp at hn
        rw [hn]
        exact hpm
      | some t =>
        rw [hx] at hn
        exact List.all_eq_true.1 (Qcs (Qel ht hx)) n hn
    · rw [if_neg hk] at hn
      simp at hn
      rw [hn]
      exact hpm
theorem Qfl {bs : List (Int × List Nd)} {t : List Nd} (h : putOf bs t ≠ []) : typeb t = true ∧ Qaq bs = true ∧ (putAll bs t).length ≤ 300 ∧ putOf bs t = putAll bs t := by
  unfold putOf at h ⊢
  by_cases hc : typeb t = true ∧ (∀ b ∈ bs, typeb b.2 = true) ∧ (putAll bs t).length ≤ 300
  · rw [if_pos hc] at h ⊢
    exact ⟨hc.1, (Qak bs).2 hc.2.1, hc.2.2, rfl⟩
  · rw [if_neg hc] at h
    exact absurd rfl h
theorem Jbe {bs : List (Int × List Nd)} {t : List Nd} (h1 : typeb t = true) (h2 : Qaq bs = true) (h3 : (putAll bs t).length ≤ 300) : putOf bs t = putAll bs t := by
  rw [putOf, if_pos ⟨h1, (Qak bs).1 h2, h3⟩]
end Go.Proofs.YtoiiibplkhedcaaGreatDoor

namespace Go.Proofs.YtoiiibplkhedcaaGreatDoor
def renN (ρ : Int → Int) (n : Nd) : Nd := if n.kind = 61 then ⟨n.kind, ρ n.num, n.text, n.kids, n.place⟩ else n
def ren (ρ : Int → Int) (t : List Nd) : List Nd := t.map (renN ρ)
theorem Qaz (ρ : Int → Int) (n : Nd) : (renN ρ n).kind = n.kind := by unfold renN; split <;> rfl
theorem Jaj (ρ : Int → Int) (n : Nd) : (renN ρ n).kids = n.kids := by unfold renN; split <;> rfl
theorem Qah (ρ : Int → Int) (t : List Nd) : (ren ρ t).length = t.length := by simp [ren]
theorem Qao (ρ : Int → Int) (a b : List Nd) : ren ρ (a ++ b) = ren ρ a ++ ren ρ b := by simp [ren]
theorem Qdx (ρ : Int → Int) (t : List Nd) : ∀ k, after (ren ρ t) k = after t k := by
  intro k
  induction k with
  | zero => rfl
  | succ k ih =>
    simp only [after, ih]
    cases after t k with
    | none => rfl
    | some p =>
      obtain ⟨S, ys⟩ := p
      simp only [ren, List.getElem?_map]
      cases t[k]? with
      | none => rfl
      | some x => simp only [Option.map_some, Jaj]
theorem Qez {ρ : Int → Int} {t : List Nd} (h : One t) : One (ren ρ t) := by
  obtain ⟨s, ys, e⟩ := h
  exact ⟨s, ys, by rw [Qah, Qdx]; exact e⟩
theorem Jbd (ρ : Int → Int) (t : List Nd) : deepOf (ren ρ t) = deepOf t := by
  unfold deepOf
  rw [Qah, Qdx]
theorem Qfs {ρ : Int → Int} (hρ : ∀ x, 1 ≤ ρ x ↔ 1 ≤ x) (n : Nd) : (renN ρ n).plainb = n.plainb := by
  unfold renN
  split
  · next h =>
    unfold Nd.plainb
    simp only [h]
    have : decide (1 ≤ ρ n.num) = decide (1 ≤ n.num) := by simp only [hρ]
    rw [this]
    rfl
  · rfl
theorem Qdw {ρ : Int → Int} (hρ : ∀ x, 1 ≤ ρ x ↔ 1 ≤ x) (t : List Nd) : (ren ρ t).all Nd.plainb = t.all Nd.plainb := by
  unfold ren
  rw [List.all_map]
  congr 1
  funext n
  exact Qfs hρ n
theorem Qay {ρ : Int → Int} (hρ : ∀ x, 1 ≤ ρ x ↔ 1 ≤ x) (t : List Nd) : typeb (ren ρ t) = typeb t := by
  unfold typeb
  rw [Qah, Jbd, Qdw hρ]
theorem Qar (θ : Int → List Nd) (ρ : Int → Int) (t : List Nd) : fill θ (ren ρ t) = fill (fun x => θ (ρ x)) t := by
  induction t with
  | nil => rfl
  | cons n t ih =>
    have e1 : ren ρ (n :: t) = renN ρ n :: ren ρ t := rfl
    have e2 : ∀ (θ : Int → List Nd) (n : Nd) (t : List Nd), fill θ (n :: t) = fillN θ n ++ fill θ t := fun θ n t => by simp [fill]
    rw [e1, e2, e2, ih]
    congr 1
    unfold fillN
    rw [Qaz]
    by_cases h : n.kind = 61
    · rw [if_pos h, if_pos h]; simp only [renN, if_pos h]
    · rw [if_neg h, if_neg h]; simp only [renN, if_neg h]
theorem Qbx (θ : Int → List Nd) (ρ : Int → Int) (t : List Nd) : ren ρ (fill θ t) = fill (fun x => ren ρ (θ x)) t := by
  induction t with
  | nil => rfl
  | cons n t ih =>
    have e2 : ∀ (θ : Int → List Nd) (n : Nd) (t : List Nd), fill θ (n :: t) = fillN θ n ++ fill θ t := fun θ n t => by simp [fill]
    rw [e2, e2, Qao, ih]
    congr 1
    unfold fillN
    by_cases h : n.kind = 61
    · rw [if_pos h, if_pos h]
    · rw [if_neg h, if_neg h]; simp only [ren, renN, List.map_cons, List.map_nil, if_neg h]
theorem Qbo (ρ : Int → Int) (t : List Nd) : metas (ren ρ t) = (metas t).map ρ := by
  induction t with
  | nil => rfl
  | cons n t ih =>
    have e1 : ren ρ (n :: t) = renN ρ n :: ren ρ t := rfl
    have e2 : ∀ (n : Nd) (t : List Nd), metas (n :: t) = metas [n] ++ metas t := fun n t => by rw [← metas_append]; rfl
    rw [e1, e2, e2 n, ih, List.map_append]
    congr 1
    by_cases h : n.kind = 61
    · simp [metas, renN, h]
    · simp [metas, renN, h]
theorem Jce {ρ : Int → Int} {t : List Nd} (h : ∀ x ∈ metas t, ρ x = x) : ren ρ t = t := by
  induction t with
  | nil => rfl
  | cons n t ih =>
    have e1 : ren ρ (n :: t) = renN ρ n :: ren ρ t := rfl
    have e2 : metas (n :: t) = metas [n] ++ metas t := by rw [← metas_append]; rfl
    rw [e2] at h
    rw [e1, ih (fun x hx => h x (by simp [hx]))]
    congr 1
    unfold renN
    split
    · next hk =>
      have := h n.num (by simp [metas, hk])
      rw [this]
    · rfl
def renP (ρ : Int → Int) (ps : List (List Nd × List Nd)) : List (List Nd × List Nd) := ps.map fun p => (ren ρ p.1, ren ρ p.2)
theorem Qbf {θ : Int → List Nd} {ρ : Int → Int} {ps : List (List Nd × List Nd)} : Solves θ (renP ρ ps) ↔ Solves (fun x => θ (ρ x)) ps := by
  constructor
  · intro h p hp
    have := h (ren ρ p.1, ren ρ p.2) (List.mem_map.2 ⟨p, hp, rfl⟩)
    simp only [Qar] at this
    exact this
  · intro h p hp
    obtain ⟨q, hq, rfl⟩ := List.mem_map.1 hp
    simp only [Qar]
    exact h q hq
noncomputable def back (ρ : Int → Int) (y : Int) : Option Int := by
  classical
  exact if h : ∃ x, ρ x = y then some h.choose else none
theorem Jaw {ρ : Int → Int} (hi : ∀ x y, ρ x = ρ y → x = y) (x : Int) : back ρ (ρ x) = some x := by
  unfold back
  have h : ∃ z, ρ z = ρ x := ⟨x, rfl⟩
  rw [dif_pos h]
  rw [hi _ _ h.choose_spec]
theorem Qck {ρ : Int → Int} {y x : Int} (h : back ρ y = some x) : ρ x = y := by
  unfold back at h
  split at h
  · next hh =>
    simp only [Option.some.injEq] at h
    rw [← h]
    exact hh.choose_spec
  · cases h
noncomputable def renS (ρ : Int → Int) (σ : Int → List Nd) (y : Int) : List Nd := match back ρ y with
  | some x => ren ρ (σ x)
  | none => [metaN y]
theorem Qfa {ρ : Int → Int} (hi : ∀ x y, ρ x = ρ y → x = y) (σ : Int → List Nd) (x : Int) : renS ρ σ (ρ x) = ren ρ (σ x) := by
  unfold renS
  rw [Jaw hi]
theorem Qcc {ρ : Int → Int} (hi : ∀ x y, ρ x = ρ y → x = y) (hm : ∀ x y, x ≤ y → ρ x ≤ ρ y) (hρ : ∀ x, 1 ≤ ρ x ↔ 1 ≤ x) {ps : List (List Nd × List Nd)} {σ : Int → List Nd} (h : SolveOk ps σ) : SolveOk (renP ρ ps) (renS ρ σ) := by
  refine ⟨fun y => ?_, fun y hy => ?_, ?_, fun θ hθ hs y => ?_, fun y z e => ?_⟩
  · unfold renS
    split
    · exact Qez (h.one _)
    · exact metaN_one _
  · unfold renS
    split
    · next x hx =>
      rw [Qdw hρ]
      refine h.plain x ((hρ x).1 ?_)
      rw [Qck hx]; exact hy
    · simp only [List.all_cons, List.all_nil, Bool.and_true, metaN, Nd.plainb]
      simp [hy]
  · rw [Qbf]
    intro p hp
    have e : (fun x => renS ρ σ (ρ x)) = fun x => ren ρ (σ x) := by funext x; exact Qfa hi σ x
    rw [e, ← Qbx, ← Qbx, h.sol p hp]
  · rw [Qbf] at hs
    have hg := h.gen _ (fun x => hθ (ρ x)) hs
    unfold renS
    split
    · next x hx =>
      rw [Qar, hg x, Qck hx]
    · simp [fill, fillN, metaN]
  · unfold renS at e
    split at e
    · next x hx =>
      obtain ⟨n, hn⟩ : ∃ n, σ x = [n] := List.length_eq_one_iff.1 (by rw [← Qah ρ, e]; rfl)
      rw [hn] at e
      simp only [ren, List.map_cons, List.map_nil, List.cons.injEq, and_true] at e
      have hk : n.kind = 61 := by rw [← Qaz ρ, e]; rfl
      have hn2 : n = metaN n.num ∧ z = ρ n.num := by
        obtain ⟨a, b, c, d, f⟩ := n
        simp only at hk
        subst hk
        simp only [renN, metaN, if_true, Nd.mk.injEq, true_and] at e
        obtain ⟨e1, e2, e3, e4⟩ := e
        subst e2; subst e3; subst e4
        exact ⟨rfl, e1.symm⟩
      have hl := h.low x n.num (by rw [hn, ← hn2.1])
      rw [hn2.2, ← Qck hx]
      exact hm _ _ hl
    · have := metaN_inj e
      omega
theorem occ_ren {ρ : Int → Int} {ps : List (List Nd × List Nd)} {x : Int} : Occ (renP ρ ps) x ↔ ∃ y, Occ ps y ∧ ρ y = x := by
  constructor
  · rintro ⟨p, hp, h⟩
    obtain ⟨q, hq, rfl⟩ := List.mem_map.1 hp
    simp only [Qbo, List.mem_map] at h
    rcases h with ⟨y, h1, h2⟩ | ⟨y, h1, h2⟩
    · exact ⟨y, ⟨q, hq, .inl h1⟩, h2⟩
    · exact ⟨y, ⟨q, hq, .inr h1⟩, h2⟩
  · rintro ⟨y, ⟨q, hq, h⟩, rfl⟩
    refine ⟨(ren ρ q.1, ren ρ q.2), List.mem_map.2 ⟨q, hq, rfl⟩, ?_⟩
    simp only [Qbo, List.mem_map]
    rcases h with h | h
    · exact .inl ⟨y, h, rfl⟩
    · exact .inr ⟨y, h, rfl⟩
theorem Qbm {ρ : Int → Int} (hρ : ∀ x, 1 ≤ ρ x ↔ 1 ≤ x) {ps : List (List Nd × List Nd)} : Valid (renP ρ ps) ↔ Valid ps := by
  unfold Valid
  have e1 : ((renP ρ ps).map fun p => p.1.length + p.2.length) = ps.map fun p => p.1.length + p.2.length := by
    simp [renP, Qah, Function.comp_def]
  rw [e1]
  refine and_congr Iff.rfl ⟨fun h p hp => ?_, fun h p hp => ?_⟩
  · have := h (ren ρ p.1, ren ρ p.2) (List.mem_map.2 ⟨p, hp, rfl⟩)
    simp only [Qay hρ] at this
    exact this
  · obtain ⟨q, hq, rfl⟩ := List.mem_map.1 hp
    simp only [Qay hρ]
    exact h q hq
theorem Qds (ρ : Int → Int) (ps : List (List Nd × List Nd)) (i : Nat) : (renP ρ ps).take i = renP ρ (ps.take i) := by
  simp [renP, List.map_take]
theorem Qdu {ρ : Int → Int} (hi : ∀ x y, ρ x = ρ y → x = y) (hm : ∀ x y, x ≤ y → ρ x ≤ ρ y) (hρ : ∀ x, 1 ≤ ρ x ↔ 1 ≤ x) {ps : List (List Nd × List Nd)} {ok : Bool} {at' : Int} {bs : List (Int × List Nd)} (h : SolveRes ps ok at' bs) :
    SolveRes (renP ρ ps) ok at' (bs.map fun p => (ρ p.1, ren ρ p.2)) := by
  cases h with
  | bad h => exact .bad (fun h' => h ((Qbm hρ).1 h'))
  | no i h1 h2 h3 h4 =>
    refine .no i ((Qbm hρ).2 h1) (by simpa [renP] using h2) ?_ ?_
    · obtain ⟨θ, hθ, hs⟩ := h3
      refine ⟨fun y => match back ρ y with | some x => θ x | none => [metaN y], fun y => ?_, ?_⟩
      · simp only
        split
        · exact hθ _
        · exact metaN_one _
      · rw [Qds, Qbf]
        simp only [Jaw hi]
        exact hs
    · intro θ hθ hs
      rw [Qds, Qbf] at hs
      exact h4 _ (fun x => hθ (ρ x)) hs
  | large σ x h1 h2 h3 h4 =>
    refine .large (renS ρ σ) (ρ x) ((Qbm hρ).2 h1) (Qcc hi hm hρ h2) (occ_ren.2 ⟨x, h3, rfl⟩) ?_
    rw [Qfa hi, Qah]
    exact h4
  | ok σ _ h1 h2 h3 h4 h5 =>
    refine .ok (renS ρ σ) _ ((Qbm hρ).2 h1) (Qcc hi hm hρ h2) ?_ ?_ ?_
    · have e : nums (bs.map fun p => (ρ p.1, ren ρ p.2)) = (nums bs).map ρ := by simp [nums, Function.comp_def]
      rw [e]
      unfold Up at h3 ⊢
      rw [List.pairwise_map]
      refine h3.imp (fun {x y} hxy => ?_)
      have h9 := hm x y (by omega)
      rcases Int.lt_or_eq_of_le h9 with h8 | h8
      · exact h8
      · have := hi _ _ h8; omega
    · intro x
      have e : nums (bs.map fun p => (ρ p.1, ren ρ p.2)) = (nums bs).map ρ := by simp [nums, Function.comp_def]
      rw [e, List.mem_map, occ_ren]
      constructor
      · rintro ⟨y, hy, rfl⟩; exact ⟨y, (h4 y).1 hy, rfl⟩
      · rintro ⟨y, hy, rfl⟩; exact ⟨y, (h4 y).2 hy, rfl⟩
    · intro p hp
      obtain ⟨q, hq, rfl⟩ := List.mem_map.1 hp
      simp only [Qfa hi, Qah]
      exact ⟨by rw [(h5 q hq).1], (h5 q hq).2⟩
theorem Jcg {ρ : Int → Int} (hi : ∀ x y, ρ x = ρ y → x = y) (f : Int) (t : List Nd) : ∀ k, k ≤ t.length → nmTo f (ren ρ t) k = ((nmTo f t k).1.map ρ, (nmTo f t k).2) := by
  have hpl : ∀ (met : List Int) (x : Int), placeIn (met.map ρ) (ρ x) = placeIn met x := by
    intro met x
    unfold placeIn
    rw [List.findIdx_map]
    congr 1
    funext y
    simp only [Function.comp]
    by_cases e : y = x
    · subst e; simp
    · have : ρ y ≠ ρ x := fun h => e (hi _ _ h)
      rw [beq_eq_false_iff_ne.2 this, beq_eq_false_iff_ne.2 e]
  intro k
  induction k with
  | zero => intro _; rfl
  | succ k ih =>
    intro hk
    have hk' : k < (ren ρ t).length := by rw [Qah]; omega
    rw [Qab f _ k hk', Qab f t k (by omega), ih (by omega)]
    have e : (ren ρ t)[k] = renN ρ (t[k]'(by omega)) := by simp [ren]
    rw [e]
    generalize t[k]'(by omega) = n
    generalize nmTo f t k = s
    unfold Qae
    rw [Qaz]
    by_cases h61 : n.kind = 61
    · rw [if_pos h61, if_pos h61]
      have hn : (renN ρ n).num = ρ n.num := by simp [renN, h61]
      have e3 : (renN ρ n).text = n.text ∧ (renN ρ n).kids = n.kids ∧ (renN ρ n).place = n.place := by simp [renN, h61]
      simp only [hn, hpl, List.length_map, e3.1, e3.2.1, e3.2.2]
      split
      · simp
      · rfl
    · rw [if_neg h61, if_neg h61]
      have e2 : renN ρ n = n := by simp [renN, h61]
      rw [e2]
theorem Jav {ρ : Int → Int} (hi : ∀ x y, ρ x = ρ y → x = y) (hρ : ∀ x, 1 ≤ ρ x ↔ 1 ≤ x) (t : List Nd) : canonOf (ren ρ t) = canonOf t := by
  unfold canonOf
  rw [Qay hρ, Qah, ← Qby, Jcg hi 1 t t.length (Nat.le_refl _), ← Qby]
theorem Qfn (f g : Int) (t : List Nd) : ∀ k, k ≤ t.length → (nmTo g t k).1 = (nmTo f t k).1 ∧ (nmTo g t k).2 = ren (fun x => x + (g - f)) (nmTo f t k).2 := by
  intro k
  induction k with
  | zero => intro _; exact ⟨rfl, rfl⟩
  | succ k ih =>
    intro hk
    obtain ⟨h1, h2⟩ := ih (by omega)
    rw [Qab f t k (by omega), Qab g t k (by omega)]
    generalize t[k]'(by omega) = n
    revert h1 h2
    generalize nmTo f t k = s
    generalize nmTo g t k = u
    intro h1 h2
    unfold Qae
    by_cases h61 : n.kind = 61
    · rw [if_pos h61, if_pos h61, h1, h2]
      refine ⟨rfl, ?_⟩
      simp only [Qao]
      congr 1
      simp only [ren, renN, List.map_cons, List.map_nil, if_pos h61]
      congr 2
      omega
    · rw [if_neg h61, if_neg h61, h1, h2]
      refine ⟨rfl, ?_⟩
      simp only [Qao]
      congr 1
      simp only [ren, renN, List.map_cons, List.map_nil, if_neg h61]
theorem Qbh (f : Int) (t : List Nd) : ∀ k, k ≤ t.length → ∀ x ∈ metas (nmTo f t k).2, f ≤ x ∧ x < f + (k : Int) := by
  intro k
  induction k with
  | zero => intro _ x hx; simp [nmTo, metas] at hx
  | succ k ih =>
    intro hk x hx
    have hl := (Qal f t k (by omega)).2
    rw [Qab f t k (by omega)] at hx
    have ih' := ih (by omega)
    revert hl ih' hx
    generalize t[k]'(by omega) = n
    generalize nmTo f t k = s
    intro hx hl ih'
    unfold Qae at hx
    by_cases h61 : n.kind = 61
    · rw [if_pos h61] at hx
      simp only [metas_append, List.mem_append] at hx
      rcases hx with hx | hx
      · have := ih' x hx; omega
      · simp only [metas, List.filter_cons, h61, beq_self_eq_true, if_true, List.filter_nil, List.map_cons, List.map_nil, List.mem_singleton] at hx
        have := Qau s.1 n.num
        omega
    · rw [if_neg h61] at hx
      simp only [metas_append, List.mem_append] at hx
      rcases hx with hx | hx
      · have := ih' x hx; omega
      · simp [metas, h61] at hx
theorem Qfm (f : Int) (hf : 1 ≤ f) (t : List Nd) : ∀ k, k ≤ t.length → ∀ i, ∀ (h1 : i < (nmTo f t k).2.length) (h2 : i < t.length), (nmTo f t k).2[i].kids = t[i].kids ∧ (t[i].plainb = true → ((nmTo f t k).2[i]).plainb = true) := by
  intro k
  induction k with
  | zero => intro _ i h1; simp [nmTo] at h1
  | succ k ih =>
    intro hk i h1 h2
    have hl := (Qal f t k (by omega)).1
    have ih' := ih (by omega) i
    have hl2 := (Qal f t (k + 1) (by omega)).1
    have key : ∀ (s : List Int × List Nd), s.2.length = k → (∀ (h1 : i < s.2.length) (h2 : i < t.length), (s.2[i]).kids = t[i].kids ∧ (t[i].plainb = true → (s.2[i]).plainb = true)) → ∀ (h1 : i < (Qae f s (t[k]'(by omega))).2.length), ((Qae f s (t[k]'(by omega))).2[i]).kids = t[i].kids ∧ (t[i].plainb = true → ((Qae f s (t[k]'(by omega))).2[i]).plainb = true) := by
      intro s hs hi' h1'
      by_cases h61 : (t[k]'(by omega)).kind = 61
      · have e : (Qae f s (t[k]'(by omega))).2 = s.2 ++ [{ t[k]'(by omega) with num := f + (placeIn s.1 (t[k]'(by omega)).num : Int) }] := by
          unfold Qae; rw [if_pos h61]
        simp only [e] at h1' ⊢
        by_cases hik : i < s.2.length
        · rw [List.getElem_append_left hik]
          exact hi' hik h2
        · have hie : i = k := by simp at h1'; omega
          subst hie
          rw [List.getElem_append_right (by omega)]
          simp only [hs, Nat.sub_self, List.getElem_cons_zero]
          refine ⟨trivial, fun hp => ?_⟩
          unfold Nd.plainb at hp ⊢
          simp only [h61] at hp ⊢
          simp at hp ⊢
          refine ⟨hp.1, ⟨hp.2.1.1, ?_⟩, hp.2.2⟩
          omega
      · have e : (Qae f s (t[k]'(by omega))).2 = s.2 ++ [t[k]'(by omega)] := by
          unfold Qae; rw [if_neg h61]
        simp only [e] at h1' ⊢
        by_cases hik : i < s.2.length
        · rw [List.getElem_append_left hik]
          exact hi' hik h2
        · have hie : i = k := by simp at h1'; omega
          subst hie
          rw [List.getElem_append_right (by omega)]
          simp only [hs, Nat.sub_self, List.getElem_cons_zero]
          exact ⟨trivial, fun hp => hp⟩
    have e := Qab f t k (by omega)
    simp only [e] at h1 ⊢
    exact key _ hl ih' h1
theorem Qcz {a b : List Nd} (h : a.map Nd.kids = b.map Nd.kids) : ∀ k, after a k = after b k := by
  intro k
  induction k with
  | zero => rfl
  | succ k ih =>
    simp only [after, ih]
    cases after b k with
    | none => rfl
    | some p =>
      obtain ⟨S, ys⟩ := p
      have e : (a.map Nd.kids)[k]? = (b.map Nd.kids)[k]? := by rw [h]
      simp only [List.getElem?_map] at e
      cases ha : a[k]? <;> cases hb : b[k]? <;> simp [ha, hb] at e
      · rfl
      · simp only [e]
theorem Qdh (f : Int) (hf : 1 ≤ f) {t : List Nd} (h : typeb t = true) : typeb (nmTo f t t.length).2 = true := by
  have hl := (Qal f t t.length (Nat.le_refl _)).1
  have hk : (nmTo f t t.length).2.map Nd.kids = t.map Nd.kids := by
    refine List.ext_getElem (by simp [hl]) (fun i h1 h2 => ?_)
    simp only [List.getElem_map]
    exact (Qfm f hf t t.length (Nat.le_refl _) i (by simpa using h1) (by simpa using h2)).1
  simp only [typeb, Bool.and_eq_true, decide_eq_true_eq] at h ⊢
  obtain ⟨⟨h1, h2⟩, h3⟩ := h
  refine ⟨⟨by omega, ?_⟩, ?_⟩
  · have e : deepOf (nmTo f t t.length).2 = deepOf t := by
      unfold deepOf
      rw [hl, Qcz hk]
    rw [e]; exact h2
  · rw [List.all_eq_true]
    intro n hn
    obtain ⟨i, hi, rfl⟩ := List.getElem_of_mem hn
    exact (Qfm f hf t t.length (Nat.le_refl _) i hi (by omega)).2 (List.all_eq_true.1 h3 _ (List.getElem_mem _))
theorem Jai {ρ ρ' : Int → Int} {t : List Nd} (h : ∀ x ∈ metas t, ρ x = ρ' x) : ren ρ t = ren ρ' t := by
  induction t with
  | nil => rfl
  | cons n t ih =>
    have e1 : ∀ ρ, ren ρ (n :: t) = renN ρ n :: ren ρ t := fun _ => rfl
    have e2 : metas (n :: t) = metas [n] ++ metas t := by rw [← metas_append]; rfl
    rw [e2] at h
    rw [e1, e1, ih (fun x hx => h x (by simp [hx]))]
    congr 1
    unfold renN
    split
    · next hk =>
      rw [h n.num (by simp [metas, hk])]
    · rfl
theorem Qfu {ρ : Int → Int} (hi : ∀ x y, ρ x = ρ y → x = y) (bs : List (Int × List Nd)) (t : List Nd) : putAll (bs.map fun p => (ρ p.1, ren ρ p.2)) (ren ρ t) = ren ρ (putAll bs t) := by
  have hpl : ∀ (met : List Int) (x : Int), placeIn (met.map ρ) (ρ x) = placeIn met x := by
    intro met x
    unfold placeIn
    rw [List.findIdx_map]
    congr 1
    funext y
    simp only [Function.comp]
    by_cases e : y = x
    · subst e; simp
    · have : ρ y ≠ ρ x := fun h => e (hi _ _ h)
      rw [beq_eq_false_iff_ne.2 this, beq_eq_false_iff_ne.2 e]
  have hs : ∀ n, putSub (bs.map fun p => (ρ p.1, ren ρ p.2)) (renN ρ n) = ren ρ (putSub bs n) := by
    intro n
    unfold putSub
    rw [Qaz]
    by_cases hk : n.kind = 61
    · rw [if_pos hk, if_pos hk]
      have hn : (renN ρ n).num = ρ n.num := by simp [renN, hk]
      have e1 : ((bs.map fun p => (ρ p.1, ren ρ p.2)).map Prod.fst) = (bs.map Prod.fst).map ρ := by simp [Function.comp_def]
      rw [hn, e1, hpl, List.getElem?_map]
      cases bs[placeIn (bs.map Prod.fst) n.num]? with
      | none => rfl
      | some p => rfl
    · rw [if_neg hk, if_neg hk]
      rfl
  unfold putAll
  induction t with
  | nil => rfl
  | cons n t ih =>
    have e1 : ren ρ (n :: t) = renN ρ n :: ren ρ t := rfl
    rw [e1, List.flatMap_cons, List.flatMap_cons, hs, ih, Qao]
theorem Jak {ρ : Int → Int} (hi : ∀ x y, ρ x = ρ y → x = y) (hρ : ∀ x, 1 ≤ ρ x ↔ 1 ≤ x) (bs : List (Int × List Nd)) (t : List Nd) : putOf (bs.map fun p => (ρ p.1, ren ρ p.2)) (ren ρ t) = ren ρ (putOf bs t) := by
  unfold putOf
  rw [Qfu hi, Qay hρ, Qah]
  have e : (∀ b ∈ (bs.map fun p => (ρ p.1, ren ρ p.2)), typeb b.2 = true) ↔ ∀ b ∈ bs, typeb b.2 = true := by
    simp only [List.forall_mem_map, Qay hρ]
  by_cases hc : typeb t = true ∧ (∀ b ∈ bs, typeb b.2 = true) ∧ (putAll bs t).length ≤ 300
  · rw [if_pos hc, if_pos ⟨hc.1, e.2 hc.2.1, hc.2.2⟩]
  · rw [if_neg hc, if_neg (fun h => hc ⟨h.1, e.1 h.2.1, h.2.2⟩)]
    rfl
def Jab (f : Int) (b : List Nd) : List Nd := (nmTo f b b.length).2
theorem Qad {a : List Nd} (ha : typeb a = true) : canonOf a = (nmTo 1 a a.length).2 := by
  unfold canonOf
  rw [if_pos ha, Qby]
theorem Qeg {a b : List Nd} (ha : typeb a = true) {f g : Int} (hf : (a.length : Int) < f) (hg : f ≤ g) {ok ok' : Bool} {i i' : Int} {bs bs' : List (Int × List Nd)}
    (h : SolveRes [(canonOf a, Jab f b)] ok i bs) (h' : SolveRes [(canonOf a, Jab g b)] ok' i' bs') : ok = ok' ∧ canonOf (putOf bs (canonOf a)) = canonOf (putOf bs' (canonOf a)) := by
  obtain ⟨ρ, hρd⟩ : ∃ ρ : Int → Int, ρ = fun x => if x ≤ (a.length : Int) then x else x + (g - f) := ⟨_, rfl⟩
  have hi : ∀ x y, ρ x = ρ y → x = y := by
    intro x y e
    subst hρd
    simp only at e
    split at e <;> split at e <;> omega
  have hm : ∀ x y, x ≤ y → ρ x ≤ ρ y := by
    intro x y e
    subst hρd
    simp only
    split <;> split <;> omega
  have hρ : ∀ x, 1 ≤ ρ x ↔ 1 ≤ x := by
    intro x
    subst hρd
    simp only
    split <;> omega
  have ex : ren ρ (canonOf a) = canonOf a := by
    refine Jce (fun x hx => ?_)
    rw [Qad ha] at hx
    have := Qbh 1 a a.length (Nat.le_refl _) x hx
    subst hρd
    simp only
    rw [if_pos (by omega)]
  have ey : ren ρ (Jab f b) = Jab g b := by
    unfold Jab
    rw [(Qfn f g b b.length (Nat.le_refl _)).2]
    refine Jai (fun x hx => ?_)
    have := Qbh f b b.length (Nat.le_refl _) x hx
    subst hρd
    simp only
    rw [if_neg (by omega)]
  have h2 := Qdu hi hm hρ h
  have e : renP ρ [(canonOf a, Jab f b)] = [(canonOf a, Jab g b)] := by simp [renP, ex, ey]
  rw [e] at h2
  obtain ⟨e1, _, e3⟩ := solve_res_same h2 h'
  refine ⟨e1, ?_⟩
  rw [← e3]
  have e4 := Jak hi hρ bs (canonOf a)
  rw [ex] at e4
  rw [e4, Jav hi hρ]
theorem Qer (bs : List (Int × List Nd)) (x : List Nd) : 0 < (canonOf (putOf bs x)).length ↔ 0 < (putOf bs x).length := by
  constructor
  · intro h
    rcases Nat.eq_zero_or_pos (putOf bs x).length with h0 | h0
    · have : putOf bs x = [] := List.length_eq_zero_iff.1 h0
      rw [this] at h
      simp [canonOf, typeb, deepOf, after] at h
    · exact h0
  · intro h
    obtain ⟨h1, h2, h3, h4⟩ := Qfl (bs := bs) (t := x) (by intro e; rw [e] at h; simp at h)
    have ht := Qfb h2 h1 h3
    rw [h4] at h ⊢
    unfold canonOf
    rw [if_pos ht, (canonTo_len _ _ (Nat.le_refl _)).1]
    exact h
end Go.Proofs.YtoiiibplkhedcaaGreatDoor

namespace Go.Proofs.YtoiiibplkhedcaaGreatDoor
def Qac (a b out : List Nd) (fl : Bool) : Prop :=
  ((typeb a = false ∨ typeb b = false) ∧ out = [] ∧ fl = false) ∨
    (typeb a = true ∧ typeb b = true ∧ fl = decide (0 < out.length) ∧ ∃ (f : Int) (ok : Bool) (i : Int) (bs : List (Int × List Nd)), (a.length : Int) < f ∧ SolveRes [(canonOf a, Jab f b)] ok i bs ∧ out = if ok = true then canonOf (putOf bs (canonOf a)) else [])
theorem Qeh {a b out out' : List Nd} {fl fl' : Bool} (h : Qac a b out fl) (h' : Qac a b out' fl') : out = out' ∧ fl = fl' := by
  rcases h with ⟨h1, h2, h3⟩ | ⟨h1, h2, h3, f, ok, i, bs, hf, hs, ho⟩
  · rcases h' with ⟨_, h5, h6⟩ | ⟨h4, h5, _⟩
    · exact ⟨by rw [h2, h5], by rw [h3, h6]⟩
    · rcases h1 with h1 | h1
      · rw [h4] at h1; cases h1
      · rw [h5] at h1; cases h1
  · rcases h' with ⟨h4, _, _⟩ | ⟨_, _, h6, g, ok', i', bs', hg, hs', ho'⟩
    · rcases h4 with h4 | h4
      · rw [h1] at h4; cases h4
      · rw [h2] at h4; cases h4
    · have key : ok = ok' ∧ canonOf (putOf bs (canonOf a)) = canonOf (putOf bs' (canonOf a)) := by
        rcases Int.le_total f g with hle | hle
        · exact Qeg h1 hf hle hs hs'
        · have := Qeg h1 hg hle hs' hs
          exact ⟨this.1.symm, this.2.symm⟩
      have e : out = out' := by rw [ho, ho', key.1, key.2]
      exact ⟨e, by rw [h3, h6, e]⟩
theorem canon_empty {a : List Nd} : (canonOf a).length = 0 ↔ typeb a = false := by
  unfold canonOf
  cases h : typeb a
  · simp
  · simp only [if_true, (canonTo_len a a.length (Nat.le_refl _)).1]
    have := typeb_pos h
    constructor
    · intro h9; omega
    · intro h9; cases h9
theorem Qbe {a : List Nd} (h : typeb a = true) : (canonOf a).length = a.length := by
  unfold canonOf
  rw [if_pos h, (canonTo_len a a.length (Nat.le_refl _)).1]
theorem Qbg (f : Int) (t : List Nd) : ∀ k, k ≤ t.length → ∀ n ∈ (nmTo f t k).2, (n ∈ t ∧ n.kind ≠ 61) ∨ (n.kind = 61 ∧ f ≤ n.num ∧ n.num < f + (k : Int)) := by
  intro k
  induction k with
  | zero => intro _ n hn; simp [nmTo] at hn
  | succ k ih =>
    intro hk n hn
    have hl := (Qal f t k (by omega)).2
    have ih' := ih (by omega)
    rw [Qab f t k (by omega)] at hn
    have hmem : t[k]'(by omega) ∈ t := List.getElem_mem _
    revert hn ih' hl hmem
    generalize t[k]'(by omega) = x
    generalize nmTo f t k = s
    intro hn hl ih' hmem
    unfold Qae at hn
    have old : ∀ {n}, n ∈ s.2 → (n ∈ t ∧ n.kind ≠ 61) ∨ (n.kind = 61 ∧ f ≤ n.num ∧ n.num < f + ((k + 1 : Nat) : Int)) := by
      intro n hn
      rcases ih' n hn with h | h
      · exact .inl h
      · exact .inr ⟨h.1, h.2.1, by have := h.2.2; omega⟩
    by_cases h61 : x.kind = 61
    · rw [if_pos h61] at hn
      rcases List.mem_append.1 hn with h | h
      · exact old h
      · simp only [List.mem_singleton] at h
        subst h
        have := Qau s.1 x.num
        exact .inr ⟨h61, by simp only; omega, by simp only; omega⟩
    · rw [if_neg h61] at hn
      rcases List.mem_append.1 hn with h | h
      · exact old h
      · simp only [List.mem_singleton] at h
        subst h
        exact .inl ⟨hmem, h61⟩
theorem Jcf (f : Int) (hf : 1 ≤ f) (hf2 : f ≤ 1000) {t : List Nd} (hl : t.length ≤ 300) (hw : ∀ n ∈ t, (Go.Lit.int .i64 n.num).wf = true) : ∀ n ∈ (nmTo f t t.length).2, (Go.Lit.int .i64 n.num).wf = true := by
  intro n hn
  rcases Qbg f t t.length (Nat.le_refl _) n hn with h | h
  · exact hw n h.1
  · exact Go.WalkArith.wf_i64 (by omega)
theorem Jal {ps : List (List Nd × List Nd)} {σ : Int → List Nd} (hv : Valid ps) (h : SolveOk ps σ) {x : Int} (hx : Occ ps x) : ∀ y ∈ metas (σ x), Occ ps y := by
  classical
  intro y hy
  by_cases hoy : Occ ps y
  · exact hoy
  · exfalso
    have hx1 := occ_num hv hx
    have hpl := h.plain x hx1
    have h1 : ∀ y ∈ metas (σ x), σ y = [metaN y] := by
      have e : fill σ (σ x) = fill (fun x => [metaN x]) (σ x) := by rw [h.gen σ h.one h.sol x, fill_id hpl]
      exact fill_inj_one h.one metaN_one (plain_leafy hpl) (h.one x) e
    obtain ⟨θ, hθ⟩ : ∃ θ : Int → List Nd, θ = fun z => if Occ ps z then σ z else [⟨12, 0, ByteArray.empty, 0, 0⟩] := ⟨_, rfl⟩
    have ho : ∀ z, One (θ z) := by
      intro z
      subst hθ
      simp only
      split
      · exact h.one z
      · exact leaf_one _ rfl
    have hs : Solves θ ps := by
      intro p hp
      have e1 : fill θ p.1 = fill σ p.1 := fill_congr (fun z hz => by subst hθ; simp only; rw [if_pos ⟨p, hp, .inl hz⟩])
      have e2 : fill θ p.2 = fill σ p.2 := fill_congr (fun z hz => by subst hθ; simp only; rw [if_pos ⟨p, hp, .inr hz⟩])
      rw [e1, e2, h.sol p hp]
    have g1 := h.gen θ ho hs x
    have g2 : θ x = σ x := by subst hθ; simp only; rw [if_pos hx]
    have e : fill θ (σ x) = fill σ (σ x) := by rw [g1, g2, h.gen σ h.one h.sol x]
    have h2 := fill_inj_one ho h.one (plain_leafy hpl) (h.one x) e y hy
    rw [h1 y hy] at h2
    subst hθ
    simp only [if_neg hoy, metaN, List.cons.injEq, Nd.mk.injEq] at h2
    omega
theorem Qcw {f : Int} (hf : 1 ≤ f) {b : List Nd} (hb : typeb b = true) : typeb (Jab f b) = true := Qdh f hf hb
theorem Qfo {a b : List Nd} (ha : typeb a = true) (hb : typeb b = true) {f : Int} (hf : 1 ≤ f) (hf2 : f ≤ 301) {x : Int} (h : Occ [(canonOf a, Jab f b)] x) : 1 ≤ x ∧ x ≤ 1000 := by
  obtain ⟨p, hp, h⟩ := h
  simp only [List.mem_singleton] at hp
  subst hp
  have hla := typeb_len ha
  have hlb := typeb_len hb
  rcases h with h | h
  · simp only [Qad ha] at h
    have := Qbh 1 a a.length (Nat.le_refl _) x h
    omega
  · have := Qbh f b b.length (Nat.le_refl _) x h
    omega
theorem Jby {a b : List Nd} (ha : typeb a = true) (hb : typeb b = true) {f : Int} (hf : 1 ≤ f) (hf2 : f ≤ 301) {ok : Bool} {i : Int} {bs : List (Int × List Nd)} (h : SolveRes [(canonOf a, Jab f b)] ok i bs) :
    (∀ b ∈ bs, (Go.Lit.int .i64 b.1).wf = true) ∧ ∀ n ∈ putOf bs (canonOf a), n.kind = 61 → (Go.Lit.int .i64 n.num).wf = true := by
  have hb1 : ∀ b ∈ bs, (1 ≤ b.1 ∧ b.1 ≤ 1000) ∧ ∀ y ∈ metas b.2, 1 ≤ y ∧ y ≤ 1000 := by
    cases h with
    | bad _ => intro b hb; simp at hb
    | no _ _ _ _ _ => intro b hb; simp at hb
    | large _ _ _ _ _ _ => intro b hb; simp at hb
    | ok σ _ h1 h2 h3 h4 h5 =>
      intro q hq
      have ho : Occ _ q.1 := (h4 q.1).1 (List.mem_map.2 ⟨q, hq, rfl⟩)
      refine ⟨Qfo ha hb hf hf2 ho, fun y hy => ?_⟩
      rw [(h5 q hq).1] at hy
      exact Qfo ha hb hf hf2 (Jal h1 h2 ho y hy)
  refine ⟨fun b hb => Go.WalkArith.wf_i64 (by have := (hb1 b hb).1; omega), fun n hn hk => ?_⟩
  have hn2 : n ∈ putAll bs (canonOf a) := by
    unfold putOf at hn
    split at hn
    · exact hn
    · simp at hn
  obtain ⟨m, hm, hnm⟩ := List.mem_flatMap.1 hn2
  have hla := typeb_len ha
  have own : m.kind = 61 → 1 ≤ m.num ∧ m.num ≤ 300 := by
    intro hk'
    rw [Qad ha] at hm
    rcases Qbg 1 a a.length (Nat.le_refl _) m hm with h | h
    · exact absurd hk' h.2
    · omega
  unfold putSub at hnm
  split at hnm
  · next hk' =>
    cases hq : bs[placeIn (bs.map Prod.fst) m.num]? with
    | none =>
      rw [hq] at hnm
      simp only [Option.map_none, Option.getD_none, List.mem_singleton] at hnm
      subst hnm
      exact Go.WalkArith.wf_i64 (by have := own hk'; omega)
    | some q =>
      rw [hq] at hnm
      simp only [Option.map_some, Option.getD_some] at hnm
      obtain ⟨hl, he⟩ := List.getElem?_eq_some_iff.1 hq
      have hqm : q ∈ bs := by rw [← he]; exact List.getElem_mem hl
      have := (hb1 q hqm).2 n.num (List.mem_map.2 ⟨n, List.mem_filter.2 ⟨hnm, by simpa using hk⟩, rfl⟩)
      exact Go.WalkArith.wf_i64 (by omega)
  · simp only [List.mem_singleton] at hnm
    subst hnm
    exact Go.WalkArith.wf_i64 (by have := own hk; omega)
end Go.Proofs.YtoiiibplkhedcaaGreatDoor

namespace Go.Proofs.YtoiiibplkhedcaaGreatDoor
theorem Qex {ps : List (List Nd × List Nd)} {σ : Int → List Nd} (hv : Valid ps) (h : SolveOk ps σ) {x : Int} (hx : Occ ps x) (P : Nd → Prop) (hP : ∀ p ∈ ps, (∀ n ∈ p.1, n.kind ≠ 61 → P n) ∧ ∀ n ∈ p.2, n.kind ≠ 61 → P n) : ∀ n ∈ σ x, n.kind ≠ 61 → P n := by
  classical
  obtain ⟨μ, hμ⟩ : ∃ μ : Nd → Nd, μ = fun n => if n.kind = 61 ∨ P n then n else ⟨n.kind, n.num + 1, n.text, n.kids, n.place⟩ := ⟨_, rfl⟩
  have hk : ∀ n, (μ n).kids = n.kids := by
    intro n
    subst hμ
    simp only
    split <;> rfl
  have hfix : ∀ n, (n.kind = 61 ∨ P n) → μ n = n := by
    intro n hn
    subst hμ
    simp only
    rw [if_pos hn]
  have hback : ∀ n, μ n = n → n.kind ≠ 61 → P n := by
    intro n hn h61
    by_cases hp : P n
    · exact hp
    · exfalso
      subst hμ
      simp only at hn
      rw [if_neg (fun h => h.elim h61 hp)] at hn
      have := congrArg Nd.num hn
      simp only at this
      omega
  have hx1 := occ_num hv hx
  have hpl := h.plain x hx1
  have h1 : ∀ y ∈ metas (σ x), σ y = [metaN y] := by
    have e : fill σ (σ x) = fill (fun x => [metaN x]) (σ x) := by rw [h.gen σ h.one h.sol x, fill_id hpl]
    exact fill_inj_one h.one metaN_one (plain_leafy hpl) (h.one x) e
  obtain ⟨θ, hθ⟩ : ∃ θ : Int → List Nd, θ = fun z => (σ z).map μ := ⟨_, rfl⟩
  have ho : ∀ z, One (θ z) := by
    intro z
    subst hθ
    obtain ⟨s, ys, e⟩ := h.one z
    refine ⟨s, ys, ?_⟩
    have ek : ((σ z).map μ).map Nd.kids = (σ z).map Nd.kids := by
      rw [List.map_map]
      congr 1
      funext n
      exact hk n
    rw [List.length_map, Qcz ek]
    exact e
  have hside : ∀ t : List Nd, (∀ n ∈ t, n.kind ≠ 61 → P n) → fill θ t = (fill σ t).map μ := by
    intro t
    induction t with
    | nil => intro _; rfl
    | cons n t ih =>
      intro ht
      have e2 : ∀ (θ : Int → List Nd) (n : Nd) (t : List Nd), fill θ (n :: t) = fillN θ n ++ fill θ t := fun θ n t => by simp [fill]
      rw [e2, e2, List.map_append, ih (fun m hm => ht m (by simp [hm]))]
      congr 1
      unfold fillN
      by_cases h61 : n.kind = 61
      · rw [if_pos h61, if_pos h61]; subst hθ; rfl
      · rw [if_neg h61, if_neg h61]
        simp only [List.map_cons, List.map_nil]
        rw [hfix n (.inr (ht n (by simp) h61))]
  have hs : Solves θ ps := by
    intro p hp
    rw [hside p.1 (hP p hp).1, hside p.2 (hP p hp).2, h.sol p hp]
  have g1 := h.gen θ ho hs x
  have g2 : fill θ (σ x) = σ x := by
    have e : fill θ (σ x) = fill (fun x => [metaN x]) (σ x) := by
      refine fill_congr (fun y hy => ?_)
      subst hθ
      simp only [h1 y hy, List.map_cons, List.map_nil]
      rw [hfix _ (.inl rfl)]
    rw [e, fill_id hpl]
  rw [g2] at g1
  have g3 : σ x = (σ x).map μ := by subst hθ; exact g1
  intro n hn h61
  obtain ⟨i, hi, rfl⟩ := List.getElem_of_mem hn
  refine hback _ ?_ h61
  have : (σ x)[i]? = ((σ x).map μ)[i]? := by rw [← g3]
  rw [List.getElem?_map, List.getElem?_eq_getElem hi] at this
  simp only [Option.map_some, Option.some.injEq] at this
  exact this.symm
theorem Jaq {bs : List (Int × List Nd)} {σ : Int → List Nd} (h : ∀ p ∈ bs, p.2 = σ p.1) {x : Int} (hx : x ∈ nums bs) : fsAt bs x = some (σ x) := by
  obtain ⟨p, hp, e⟩ := List.mem_map.1 hx
  have hs := fsAt_some.2 ⟨p, hp, e⟩
  obtain ⟨t, ht⟩ := Option.isSome_iff_exists.1 hs
  obtain ⟨hl, et⟩ := Jar ht
  have h9 : placeIn (bs.map Prod.fst) x < (bs.map Prod.fst).length := by simpa using hl
  have h8 : ((bs.map Prod.fst)[placeIn (bs.map Prod.fst) x] == x) = true := List.findIdx_getElem (w := h9)
  rw [List.getElem_map] at h8
  have h7 : bs[placeIn (bs.map Prod.fst) x].1 = x := by simpa using h8
  rw [ht, ← et, h _ (List.getElem_mem hl), h7]
end Go.Proofs.YtoiiibplkhedcaaGreatDoor

namespace Go.Proofs.YtoiiibplkhedcaaGreatDoor
open Go.RowKit
theorem Qbs {t : List Nd} (h : typeb t = true) : 0 < t.length ∧ t.length ≤ 300 := by
  simp only [typeb, Bool.and_eq_true, decide_eq_true_eq] at h
  obtain ⟨⟨h1, h2⟩, _⟩ := h
  refine ⟨?_, h1⟩
  obtain ⟨h3, _⟩ := deep_after rfl h2
  exact h3
set_option maxHeartbeats 1000000 in
theorem Qcn (t : List Nd) (m : Nat) (HM : Hid (t.length = m)) (hm : m ≤ 1048576) (HW : Hid (∀ n ∈ t, n.kind = 61 → (Lit.int .i64 n.num).wf = true)) (ao : Option Addr) (cap : Nat) (w : World) (hx : Nodes w ao t) :
    Calls Tryz.prog 21 #[.slice ao m cap] w fun e w' => ∃ ag cg, e = .returned (.slice ag (canonOf t).length cg) ∧ Ans w' w.heap.size ag (canonOf t) ∧ Below w.heap.size w w' := by
  have HT := iIsType_any t m HM hm ao cap w hx
  cases ht : typeb t
  · rw [ht] at HT
    have HV : Hid (canonOf t = []) := by simp [Hid, canonOf, ht]
    clear hx
    go_enter Tryz.func21, Tryz.ntmps21
    go_wp2_with fail
    refine HT.mono ?_
    rintro e w1 ⟨rfl, hb1⟩
    clear HT
    go_wp2
    go_ret
    rw [HV.out]
    exact ⟨_, _, rfl, Or.inl rfl, hb1.alloc hb1.size _⟩
  · rw [ht] at HT
    obtain ⟨h0, h3⟩ := Qbs ht
    have h3m : m ≤ 300 := by have := HM.out; omega
    obtain ⟨b, o, rfl, hn0⟩ := hx 0 h0
    have HV : Hid (canonOf t = (nmTo 1 t m).2) := by
      rw [Hid, canonOf, if_pos ht, Qby, HM.out]
    have HL : Hid ((nmTo 1 t m).2.length = m) := (Qal 1 t m (by have := HM.out; omega)).1
    clear hn0 h0 h3
    go_enter Tryz.func21, Tryz.ntmps21
    go_wp2_with fail
    refine HT.mono ?_
    rintro e w1 ⟨rfl, hb1⟩
    have hx1 := hx.below hb1
    clear HT hx
    go_wp2_with fail
    refine (Qan 1 (by omega) (by omega) t m HM h3m HW b o cap w1 hx1).mono ?_
    rintro e w2 ⟨g, c, rfl, hg, hr, hb2⟩
    have hs := hb1.size
    have hb := Below.step hb1 hb2
    clear hb1 hb2 hx1
    go_wp2
    go_ret
    rw [HV.out, HL.out]
    exact ⟨_, _, rfl, hr.ans (by omega), hb⟩
end Go.Proofs.YtoiiibplkhedcaaGreatDoor

namespace Go.Proofs.YtoiiibplkhedcaaGreatDoor
open Go.RowKit
theorem Qgd (t : List Nd) : (canonOf t).length ≤ t.length := by
  unfold canonOf
  split
  · have := (canonTo_len t t.length (Nat.le_refl _)).1
    omega
  · simp
end Go.Proofs.YtoiiibplkhedcaaGreatDoor

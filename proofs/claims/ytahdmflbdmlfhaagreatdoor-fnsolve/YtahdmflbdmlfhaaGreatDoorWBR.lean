import Derived.Test.YtahdmflbdmlfhaaGreatDoorWBD
import Derived.Test.YtahdmflbdmlfhaaGreatDoorWBC
import Derived.Maps.OwnSet
import Derived.Test.YtahdmflbdmlfhaaGreatDoorWBE
import Derived.Test.YtahdmflbdmlfhaaGreatDoorWBJ
import Derived.Test.YtahdmflbdmlfhaaGreatDoorWAF
import Derived.Test.YtahdmflbdmlfhaaGreatDoorWAP
namespace Go.Proofs.YtahdmflbdmlfhaaGreatDoor

open Go.RowKit Go.Maps

set_option maxHeartbeats 1000000 in
theorem haveType1_any (x : Int) (ks : List Nd) (l : Nat) (HL : Hid (ks.length = l)) (hl : l ≤ 1048576) (ai : Option Addr) (ci : Nat) (w : World) (hn : Nodes w ai ks) :
    Calls Tryz.prog 58 #[.agg #[.int .i64 x, .slice ai l ci]] w fun e w' => e = .returned (.bool (!typeb ks)) ∧ Below w.heap.size w w' := by
  have hb0 : Below w.heap.size w (w.alloc (Obj.cells #[.int .i64 x, .slice ai l ci] 91)) := (Below.refl _ _).alloc (Nat.le_refl _) _
  have HT := iIsType_any ks l HL hl ai ci _ (hn.below hb0)
  obtain ⟨d, hd⟩ : ∃ d, typeb ks = d := ⟨_, rfl⟩
  rw [hd] at HT ⊢
  clear hn
  go_enter Tryz.func58, Tryz.ntmps58
  go_wp2_with fail
  refine HT.mono ?_
  rintro e w1 ⟨rfl, hb1⟩
  have hb2 := Below.step hb0 hb1
  clear HT hb0 hb1
  go_wp2
  go_ret
  exact ⟨rfl, hb2⟩

set_option maxHeartbeats 2000000 in
theorem indexFuncB_any (bs : List (Int × List Nd)) (n : Nat) (HX : Hid (bs.length = n)) (ao : Option Addr) (cap : Nat) (w : World) (hx : Binds w ao bs) (hlx : n ≤ 1048576) (HK : Hid (∀ b ∈ bs, b.2.length ≤ 1048576)) :
    Calls Tryz.prog 82 #[.slice ao n cap, .func (.func 58) #[] #[]] w fun e w' =>
      (∃ r : Int, e = .returned (.int .i64 r) ∧ decide (r ≥ 0) = bs.any (fun b => !typeb b.2)) ∧ Below w.heap.size w w' := by
  go_enter Tryz.func82, Tryz.ntmps82
  go_wp2
  go_loopw [8] (fun i wr => ∃ (k : Nat), k ≤ n ∧ i = .int .i64 k ∧ (bs.take k).any (fun b => !typeb b.2) = false ∧ Below w.heap.size w wr) (fun i _ => n - (intOf i).toNat)
  case atStart => exact ⟨0, Nat.zero_le _, rfl, by simp, Below.refl _ _⟩
  case round =>
    obtain ⟨k, hk, rfl, hall, hb⟩ := hrel
    by_cases hlt : k < n
    · have hltx : k < bs.length := by have := HX.out; omega
      have hkl := HK.out bs[k] (List.getElem_mem hltx)
      obtain ⟨⟨nm, ks⟩, hxk⟩ : ∃ x, bs[k] = x := ⟨_, rfl⟩
      obtain ⟨b, o, ai, ci, rfl, c0, c1, hn⟩ := hx.below hb k hltx
      rw [hxk] at c0 c1 hn hkl
      simp only at c0 c1 hn hkl
      obtain ⟨l, hl⟩ : ∃ l, ks.length = l := ⟨_, rfl⟩
      rw [hl] at c1 hkl
      have hlb : b < wr.heap.size := lt_of_cell c0
      have HXK : Hid (bs[k] = (nm, ks)) := hxk
      have HC := haveType1_any nm ks l hl hkl ai ci wr hn
      clear hx hxk hn hl
      cases hq : (!typeb ks)
      · have HA : Hid ((bs.take (k + 1)).any (fun b => !typeb b.2) = false) := takeL_any k hltx (by rw [HXK.out]; exact hq) hall
        rw [hq] at HC
        clear hall hq
        go_wp2_with fail
        refine HC.mono ?_
        rintro e w1 ⟨rfl, hb1⟩
        have hbb := Below.step hb hb1
        clear hb hb1 c0 c1 HC
        go_wp2
        go_roundw
        case rel => exact ⟨k + 1, by omega, by go_num, HA.out, hbb⟩
        case measure => simp [intOf]; omega
      · have HA : Hid (bs.any (fun b => !typeb b.2) = true) := any_true k hltx (by rw [HXK.out]; exact hq)
        rw [hq] at HC
        clear hall hq
        go_wp2_with fail
        refine HC.mono ?_
        rintro e w1 ⟨rfl, hb1⟩
        have hbb := Below.step hb hb1
        clear hb hb1 c0 c1 HC
        go_wp2
        go_ret
        exact ⟨⟨(k : Int), rfl, by rw [HA.out]; simp⟩, hbb⟩
    · have HA : Hid (bs.any (fun b => !typeb b.2) = false) := by
        have h9 := hall
        rw [List.take_of_length_le (by have := HX.out; omega)] at h9
        exact h9
      clear hall hx
      go_wp2
      go_ret
      exact ⟨⟨-1, rfl, by rw [HA.out]; rfl⟩, hb⟩

set_option maxHeartbeats 400000 in
theorem containsFuncB_any (bs : List (Int × List Nd)) (n : Nat) (HX : Hid (bs.length = n)) (ao : Option Addr) (cap : Nat) (w : World) (hx : Binds w ao bs) (hlx : n ≤ 1048576) (HK : Hid (∀ b ∈ bs, b.2.length ≤ 1048576)) :
    Calls Tryz.prog 57 #[.slice ao n cap, .func (.func 58) #[] #[]] w fun e w' =>
      e = .returned (.bool (bs.any (fun b => !typeb b.2))) ∧ Below w.heap.size w w' := by
  go_enter Tryz.func57, Tryz.ntmps57
  go_wp2_with fail
  refine (indexFuncB_any bs n HX ao cap w hx hlx HK).mono ?_
  rintro e w1 ⟨⟨r, rfl, hr⟩, hb⟩
  have HR : Hid (decide (r ≥ 0) = bs.any (fun b => !typeb b.2)) := hr
  clear hr hx
  go_wp2
  go_ret
  exact ⟨by rw [← HR.out]; rfl, hb⟩

/-- All types of Binds are types. -/
def typesb (bs : List (Int × List Nd)) : Bool := bs.all (fun b => typeb b.2)

theorem typesb_any (bs : List (Int × List Nd)) : typesb bs = !bs.any (fun b => !typeb b.2) := by
  unfold typesb
  induction bs with
  | nil => rfl
  | cons x xs ih => simp only [List.all_cons, List.any_cons, Bool.not_or, ← ih, Bool.not_not]

theorem typesb_iff (bs : List (Int × List Nd)) : typesb bs = true ↔ ∀ b ∈ bs, typeb b.2 = true := by
  unfold typesb
  rw [List.all_eq_true]

set_option maxHeartbeats 400000 in
theorem haveTypes_any (bs : List (Int × List Nd)) (n : Nat) (HX : Hid (bs.length = n)) (ao : Option Addr) (cap : Nat) (w : World) (hx : Binds w ao bs) (hlx : n ≤ 1048576) (HK : Hid (∀ b ∈ bs, b.2.length ≤ 1048576)) :
    Calls Tryz.prog 26 #[.slice ao n cap] w fun e w' => e = .returned (.bool (typesb bs)) ∧ Below w.heap.size w w' := by
  have HV : Hid (typesb bs = !bs.any (fun b => !typeb b.2)) := typesb_any bs
  go_enter Tryz.func26, Tryz.ntmps26
  go_wp2_with fail
  refine (containsFuncB_any bs n HX ao cap w hx hlx HK).mono ?_
  rintro e w1 ⟨rfl, hb⟩
  clear hx
  go_wp2
  go_ret
  exact ⟨by rw [HV.out]; rfl, hb⟩

/-- What put's closure sees: the map of types, and the types. -/
structure PutAt (W : World) (bx mb n : Nat) (D : DataW Value) (bs : List (Int × List Nd)) (ps : List (Int × (Option Addr × Nat × Nat))) : Prop where
  box : Box1 W bx 71 (.map (some mb))
  own : W.ownsMap Tryz.prog 2 heldE mb n D
  first : FirstD ps D
  len : ps.length = bs.length
  nums : ps.map Prod.fst = bs.map Prod.fst
  at' : ∀ i (hp : i < ps.length) (hb : i < bs.length), ps[i].2.2.1 = bs[i].2.length ∧ Nodes W ps[i].2.1 bs[i].2

theorem PutAt.below {W W' : World} {bx mb n : Nat} {D : DataW Value} {bs : List (Int × List Nd)} {ps : List (Int × (Option Addr × Nat × Nat))} (h : PutAt W bx mb n D bs ps) (hb : Below W.heap.size W W') : PutAt W' bx mb n D bs ps :=
  ⟨h.box.below hb h.box.lt, owns_same h.own (hb.block mb h.own.lt), h.first, h.len, h.nums, fun i hp hl => ⟨(h.at' i hp hl).1, (h.at' i hp hl).2.below hb⟩⟩

theorem nodes_one (W : World) (n : Nd) : Nodes (W.alloc (.cells #[.int .i64 n.kind, .int .i64 n.num, .string n.text, .int .i64 n.kids, .int .i64 n.place] 40)) (some ⟨W.heap.size, 0, none⟩) [n] :=
  ((OwnN.one (w := W) (B := W.heap.size) (Nat.le_refl _) n).row).2.nodes

set_option maxRecDepth 100000 in
set_option maxHeartbeats 2000000 in
theorem put1_any (bs : List (Int × List Nd)) (ps : List (Int × (Option Addr × Nat × Nat))) (bx mb q : Nat) (D : DataW Value) (x : Nd) (hw : (Lit.int .i64 x.num).wf = true) (W : World) (h : PutAt W bx mb q D bs ps) :
    Calls Tryz.prog 60 #[.agg #[.int .i64 x.kind, .int .i64 x.num, .string x.text, .int .i64 x.kids, .int .i64 x.place], .pointer (some ⟨bx, 0, none⟩)] W fun e w' =>
      ∃ ao c, e = .returned (.slice ao (putSub bs x).length c) ∧ Nodes w' ao (putSub bs x) ∧ (∀ b o, ao = some ⟨b, o, none⟩ → W.heap.size ≤ b ∨ ∃ i, ∃ h : i < ps.length, ps[i].2.1 = ao) ∧ Below W.heap.size W w' := by
  have hb0 : Below W.heap.size W (W.alloc (Obj.cells #[.int .i64 x.kind, .int .i64 x.num, .string x.text, .int .i64 x.kids, .int .i64 x.place] 40)) := (Below.refl _ _).alloc (Nat.le_refl _) _
  have hA := h.below hb0
  have hkey : keyOf Tryz.prog 2 (.int .i64 x.num) = some (.int .i64 x.num) := keyOf_int_mk Tryz.underlying2 hw
  have hc := hA.box.cell
  have hown := hA.own
  have hbl := h.box.lt
  have hone := nodes_one (W.alloc (Obj.cells #[.int .i64 x.kind, .int .i64 x.num, .string x.text, .int .i64 x.kids, .int .i64 x.place] 40)) x
  rw [World.size_alloc] at hone
  have hz : ∀ w, (zeroValue 29).run Tryz.prog w = .ok (.slice none 0 0) w := fun w => by kernel_rfl
  obtain ⟨hh, hat⟩ := h.first.2 x.num
  by_cases hp : placeIn (ps.map Prod.fst) x.num < ps.length
  · have hh1 : Maps.has D (.int .i64 x.num) = true := by rw [hh]; exact decide_eq_true hp
    clear hh
    have hv := hat hp (.held (.slice none 0 0))
    have hpb : placeIn (ps.map Prod.fst) x.num < bs.length := by rw [← h.len]; exact hp
    obtain ⟨hl9, hn9⟩ := hA.at' _ hp hpb
    obtain ⟨⟨nm, sa, sn, sc⟩, hpe⟩ : ∃ p, ps[placeIn (ps.map Prod.fst) x.num] = p := ⟨_, rfl⟩
    have HPE : Hid (∃ i, ∃ h : i < ps.length, ps[i].2.1 = sa) := ⟨_, hp, by rw [hpe]⟩
    rw [hpe] at hv hl9 hn9
    simp only [sl] at hv hl9 hn9
    by_cases h61 : x.kind = 61
    · have HS : Hid (putSub bs x = bs[placeIn (ps.map Prod.fst) x.num].2) := by
        rw [Hid, putSub, if_pos h61, ← h.nums, List.getElem?_eq_getElem hpb]
        rfl
      rw [← HS.out] at hl9 hn9
      generalize putSub bs x = R at hl9 hn9 ⊢
      subst hl9
      clear HS hat hone hpe h hA hp hpb
      obtain ⟨kd, nm', tx, ks, pl⟩ := x
      simp only at h61 hw hb0 hkey hc hown hh1 hv hn9 ⊢
      subst h61
      go_enter Tryz.func60, Tryz.ntmps60
      go_wp2_with (first
        | (at_lookup; refine wpList_lookup_held _ rfl _ _ 71 rfl 2 29 Tryz.law2 Tryz.underlying71 (hz _) mb q D rfl hown _ _ rfl hkey rfl hh1 hv ?_)
        | go_in)
      go_ret
      exact ⟨sa, sc, rfl, hn9, fun b o e => Or.inr (by obtain ⟨i, hi, e9⟩ := HPE.out; exact ⟨i, hi, e9⟩), hb0⟩
    · have t61 : ((x.kind : Int) == 61) = false := by simpa using h61
      have HS : Hid (putSub bs x = [x]) := by rw [Hid, putSub, if_neg h61]
      clear hat hn9 hl9 hpe h hA HPE
      go_enter Tryz.func60, Tryz.ntmps60
      go_wp2_with (first
        | (at_lookup; refine wpList_lookup_held _ rfl _ _ 71 rfl 2 29 Tryz.law2 Tryz.underlying71 (hz _) mb q D rfl hown _ _ rfl hkey rfl hh1 hv ?_)
        | go_in)
      go_ret
      rw [HS.out]
      exact ⟨_, _, rfl, hone, fun b o e => Or.inl (by simp at e; omega), hb0.alloc hb0.size _⟩
  · have hh : Maps.has D (.int .i64 x.num) = false := by rw [hh]; exact decide_eq_false hp
    have hv : D.atKey (.int .i64 x.num) (.held (.slice none 0 0)) = .held (.slice none 0 0) := atKey_of_not_has hh _
    have HS : Hid (putSub bs x = [x]) := by
      have hpb : bs[placeIn (bs.map Prod.fst) x.num]? = none := List.getElem?_eq_none (by rw [← h.nums, ← h.len]; omega)
      rw [Hid, putSub, hpb]
      split <;> rfl
    clear hat h hA
    go_enter Tryz.func60, Tryz.ntmps60
    go_wp2_with (first
        | (at_lookup; refine wpList_lookup_held _ rfl _ _ 71 rfl 2 29 Tryz.law2 Tryz.underlying71 (hz _) mb q D rfl hown _ _ rfl hkey rfl hh hv ?_)
        | go_in)
    go_ret
    rw [HS.out]
    exact ⟨_, _, rfl, hone, fun b o e => Or.inl (by simp at e; omega), hb0.alloc hb0.size _⟩

/-- What filled answers. -/
def fillOf (bs : List (Int × List Nd)) (t : List Nd) : List Nd := if (putAll bs t).length ≤ 300 then putAll bs t else []

theorem putSub_pos {bs : List (Int × List Nd)} (h : typesb bs = true) (x : Nd) : 0 < (putSub bs x).length ∧ (putSub bs x).length ≤ 300 := by
  unfold putSub
  split
  · cases hg : bs[placeIn (bs.map Prod.fst) x.num]? with
    | none => simp
    | some b =>
      have hm := List.mem_of_getElem? hg
      have ht := (typesb_iff bs).1 h b hm
      exact ⟨typeb_pos ht, typeb_len ht⟩
  · simp

set_option maxRecDepth 100000 in
set_option maxHeartbeats 2000000 in
theorem filled_any (bs : List (Int × List Nd)) (HB : Hid (typesb bs = true)) (ps : List (Int × (Option Addr × Nat × Nat))) (bx mb q : Nat) (D : DataW Value) (t : List Nd) (m : Nat) (HM : Hid (t.length = m)) (hm : m ≤ 300) (HW : Hid (∀ n ∈ t, (Lit.int .i64 n.num).wf = true)) (ao : Option Addr) (cap : Nat) (w : World) (hx : Nodes w ao t) (h : PutAt w bx mb q D bs ps) :
    Calls Tryz.prog 59 #[.slice ao m cap, .func (.func 60) #[] #[.pointer (some ⟨bx, 0, none⟩)]] w fun e w' =>
      ∃ ag l cg, e = .returned (.slice ag l cg) ∧ (fillOf bs t).length = l ∧ Ans w' w.heap.size ag (fillOf bs t) ∧ Below w.heap.size w w' := by
  obtain ⟨i0, hi, hz0, hz1, hz2⟩ := info_parts Tryz.infoN
  have hO := OwnN.empty (w := w) (B := w.heap.size) (Nat.le_refl _)
  go_enter Tryz.func59, Tryz.ntmps59
  go_wp2
  go_loopw [5, 12] (fun v p wr => ∃ (k g c l : Nat), k ≤ m ∧ p = .int .i64 k ∧ v = .slice (some ⟨g, 0, none⟩) l c ∧ l ≤ 300 ∧ OwnN wr w.heap.size g c l (putAll bs (t.take k)) ∧ Below w.heap.size w wr) (fun _ p _ => m - (intOf p).toNat)
  case atStart => exact ⟨0, w.heap.size, 0, 0, Nat.zero_le _, rfl, rfl, by omega, by simpa [putAll] using hO, (Below.refl _ _).alloc (Nat.le_refl _) _⟩
  case round =>
    obtain ⟨k, g, c, l, hk, rfl, rfl, hl3, hown, hb⟩ := hrel
    by_cases hlt : k < m
    · have hltx : k < t.length := by have := HM.out; omega
      have hstep := putAll_take bs t k hltx
      have hall := putAll_le bs t (k + 1)
      have hwx := HW.out t[k] (List.getElem_mem hltx)
      obtain ⟨x, hxk⟩ : ∃ x, t[k] = x := ⟨_, rfl⟩
      obtain ⟨b, o, rfl, hcx⟩ := hx.below hb k hltx
      rw [hxk] at hcx hstep hwx
      obtain ⟨c0, c1, c2, c3, c4⟩ := hcx
      have hlb : b < wr.heap.size := lt_of_cell c0
      have hob := owns_block hown.2
      have hpl := putSub_pos HB.out x
      have hA1 : Below wr.heap.size wr (wr.alloc (.cells #[.int .i64 x.kind, .int .i64 x.num, .string x.text, .int .i64 x.kids, .int .i64 x.place] 40)) := (Below.refl _ wr).alloc (Nat.le_refl _) _
      have hP := put1_any bs ps bx mb q D x hwx _ ((h.below hb).below hA1)
      have hown1 := hown.alloc (.cells #[.int .i64 x.kind, .int .i64 x.num, .string x.text, .int .i64 x.kids, .int .i64 x.place] 40)
      have hb1 := hb.alloc hb.size (.cells #[.int .i64 x.kind, .int .i64 x.num, .string x.text, .int .i64 x.kids, .int .i64 x.place] 40)
      have hn9 := hown.1
      generalize putAll bs (t.take k) = Z at *
      generalize hR : putSub bs x = R at *
      obtain ⟨p, hp⟩ : ∃ p, R.length = p := ⟨_, rfl⟩
      rw [hp] at hP hpl
      have HP : Hid (R.length = p) := hp
      have HS : Hid (putAll bs (t.take (k + 1)) = Z ++ R) := hstep
      have hsum : (Z ++ R).length = l + p := by simp [hn9, hp]
      have HN : Hid (l + p ≤ (putAll bs t).length) := by rw [Hid, ← hsum, ← HS.out]; exact hall
      clear hx hxk hstep hall h hsum hp hR hown hb HW
      go_wp2_with fail
      refine hP.mono ?_
      rintro e w1 ⟨ag, cg, rfl, hng, _, hb2⟩
      have hown2 := hown1.below hb2
      have hbb := Below.step hb1 hb2
      clear hP hown1 hb1 hb2 c0 c1 c2 c3 c4 hA1
      have tp : ((p : Int) == 0) = false := by simp; omega
      by_cases hbig : l + p ≤ 300
      · have tb : decide ((l : Int) + (p : Int) > 300) = false := decide_eq_false (by omega)
        obtain ⟨b1, o1, rfl, _⟩ := hng 0 (by have := HP.out; omega)
        have hnews := nodes_news hng
        clear hng
        go_wp2_with (at_builtin; refine wpList_append2 _ rfl (.tmp 30) (.tmp 31) 29 rfl w.heap.size 40 i0 _ 5 48 Tryz.underlying29 hi hz0 hz1 hz2 rfl (by decide) g l c _ rfl hown2.2 ⟨b1, o1, none⟩ p cg (flat R) rfl ?a1 hnews (nd_flat_one R) ?a3 ?a4 ?a5 ?_)
        case a1 => rw [flat_length, HP.out]
        case a3 => unfold maxLen; omega
        case a4 => omega
        case a5 => exact hbb.size
        intro g2 c2 w2 hown3 hgrow3 hwh
        have hF : OwnN w2 w.heap.size g2 c2 (l + p) (Z ++ R) := ⟨by simp [hn9, HP.out], by rw [flat_append]; exact hown3⟩
        have hb3 : Below w.heap.size w w2 := hbb.grown hgrow3 hbb.size (fun q hq => by cases hq; exact hob.1)
        clear hown3 hgrow3 hwh hown2 hbb hnews
        go_wp2
        go_roundw
        case rel => exact ⟨k + 1, g2, c2, l + p, by omega, by go_num, rfl, hbig, by rw [HS.out]; exact hF, hb3⟩
        case measure => simp [intOf]; omega
      · have tb : decide ((l : Int) + (p : Int) > 300) = true := decide_eq_true (by omega)
        have HV : Hid ((fillOf bs t) = []) := by
          rw [Hid, fillOf, if_neg (by have := HN.out; omega)]
        clear hng hown2
        go_wp2
        go_ret
        rw [HV.out]
        exact ⟨_, _, _, rfl, rfl, Or.inl rfl, hbb⟩
    · have hkm : k = m := by omega
      subst hkm
      have HV : Hid ((fillOf bs t) = putAll bs (t.take k)) := by
        have e9 : t.take k = t := List.take_of_length_le (by have := HM.out; omega)
        rw [e9] at hown ⊢
        rw [Hid, fillOf, if_pos (by have := hown.1; omega)]
      obtain ⟨hg, hr⟩ := hown.row
      have hn := hown.1
      clear hx h hown
      go_wp2
      go_ret
      rw [HV.out]
      exact ⟨_, _, _, rfl, hn, hr.ans hg, hb⟩

set_option maxHeartbeats 1000000 in
theorem putI_any (bs : List (Int × List Nd)) (HB : Hid (typesb bs = true)) (ps : List (Int × (Option Addr × Nat × Nat))) (mb q : Nat) (D : DataW Value) (t : List Nd) (m : Nat) (HM : Hid (t.length = m)) (hm : m ≤ 300) (HW : Hid (∀ n ∈ t, (Lit.int .i64 n.num).wf = true)) (ao : Option Addr) (cap : Nat) (w : World) (hx : Nodes w ao t)
    (hown : w.ownsMap Tryz.prog 2 heldE mb q D) (hF : FirstD ps D) (hlen : ps.length = bs.length) (hnums : ps.map Prod.fst = bs.map Prod.fst) (hat : ∀ i (hp : i < ps.length) (hb : i < bs.length), ps[i].2.2.1 = bs[i].2.length ∧ Nodes w ps[i].2.1 bs[i].2) :
    Calls Tryz.prog 27 #[.map (some mb), .slice ao m cap] w fun e w' =>
      ∃ ag l cg, e = .returned (.slice ag l cg) ∧ (fillOf bs t).length = l ∧ Ans w' w.heap.size ag (fillOf bs t) ∧ Below w.heap.size w w' := by
  have hb0 : Below w.heap.size w (w.alloc (.cells #[.map (some mb)] 71)) := (Below.refl _ _).alloc (Nat.le_refl _) _
  have hP : PutAt (w.alloc (.cells #[.map (some mb)] 71)) w.heap.size mb q D bs ps :=
    ⟨Box1.new _ _ _, hown.alloc _, hF, hlen, hnums, fun i hp hb => ⟨(hat i hp hb).1, (hat i hp hb).2.below hb0⟩⟩
  have HF := filled_any bs HB ps w.heap.size mb q D t m HM hm HW ao cap _ (hx.below hb0) hP
  clear hx hP hown hF hlen hnums hat
  go_enter Tryz.func27, Tryz.ntmps27
  go_wp2_with fail
  refine HF.mono ?_
  rintro e w1 ⟨ag, l, cg, rfl, hl, ha, hb1⟩
  have hb := Below.step hb0 hb1
  have ha2 := ha.mono (B' := w.heap.size) (by simp)
  clear HF ha hb0 hb1
  go_wp2
  go_ret
  exact ⟨_, _, _, rfl, hl, ha2, hb⟩

set_option maxHeartbeats 1000000 in
theorem implPut_any (bs : List (Int × List Nd)) (n : Nat) (HN : Hid (bs.length = n)) (hn : n ≤ 1048576) (HK : Hid (∀ b ∈ bs, b.2.length ≤ 1048576)) (HWB : Hid (∀ b ∈ bs, (Lit.int .i64 b.1).wf = true)) (t : List Nd) (m : Nat) (HM : Hid (t.length = m)) (hm : m ≤ 1048576) (HW : Hid (∀ n ∈ t, (Lit.int .i64 n.num).wf = true)) (ao bo : Option Addr) (ca cb : Nat) (w : World) (hbs : Binds w ao bs) (hx : Nodes w bo t) :
    Calls Tryz.prog 7 #[.slice ao n ca, .slice bo m cb] w fun e w' => ∃ ag cg, e = .returned (.slice ag (putOf bs t).length cg) ∧ Ans w' w.heap.size ag (putOf bs t) ∧ Below w.heap.size w w' := by
  have HT := iIsType_any t m HM hm bo cb w hx
  cases ht : typeb t
  · rw [ht] at HT
    have HV : Hid (putOf bs t = []) := by rw [Hid, putOf, if_neg (by simp [ht])]
    clear hx hbs
    go_enter Tryz.func7, Tryz.ntmps7
    go_wp2_with fail
    refine HT.mono ?_
    rintro e w1 ⟨rfl, hb1⟩
    clear HT
    go_wp2
    go_ret
    rw [HV.out]
    exact ⟨_, _, rfl, Or.inl rfl, hb1.alloc hb1.size _⟩
  · rw [ht] at HT
    have h3 : m ≤ 300 := by have := typeb_len ht; have := HM.out; omega
    go_enter Tryz.func7, Tryz.ntmps7
    go_wp2_with fail
    refine HT.mono ?_
    rintro e w1 ⟨rfl, hb1⟩
    have HH := haveTypes_any bs n HN ao ca w1 (hbs.below hb1) hn HK
    clear HT
    cases hts : typesb bs
    · rw [hts] at HH
      have HV : Hid (putOf bs t = []) := by
        rw [Hid, putOf, if_neg]
        rintro ⟨_, h2, _⟩
        rw [(typesb_iff bs).2 h2] at hts
        cases hts
      clear hx hbs
      go_wp2_with fail
      refine HH.mono ?_
      rintro e w2 ⟨rfl, hb2⟩
      have hb := Below.step hb1 hb2
      clear HH hb1 hb2
      go_wp2
      go_ret
      rw [HV.out]
      exact ⟨_, _, rfl, Or.inl rfl, hb.alloc hb.size _⟩
    · rw [hts] at HH
      have HV : Hid (putOf bs t = fillOf bs t) := by
        rw [Hid, putOf, fillOf]
        by_cases h9 : (putAll bs t).length ≤ 300
        · rw [if_pos h9, if_pos ⟨ht, (typesb_iff bs).1 hts, h9⟩]
        · rw [if_neg h9, if_neg (fun h => h9 h.2.2)]
      have HB : Hid (typesb bs = true) := hts
      go_wp2_with fail
      refine HH.mono ?_
      rintro e w2 ⟨rfl, hb2⟩
      have hb := Below.step hb1 hb2
      clear HH hb1 hb2 hts ht
      obtain ⟨ps, hlen, hnums, hprs, hat⟩ := (hbs.below hb).prs
      have hwp : ∀ p ∈ ps, (Lit.int .i64 p.1).wf = true := by
        intro p hp
        have h9 : p.1 ∈ ps.map Prod.fst := List.mem_map_of_mem hp
        rw [hnums] at h9
        obtain ⟨b, hb9, e9⟩ := List.mem_map.1 h9
        rw [← e9]
        exact HWB.out b hb9
      have HTY := typesOf_any ps n (by rw [Hid, hlen]; exact HN.out) hn hwp ao ca w2 hprs
      have hx2 := hx.below hb
      clear hx hbs hprs
      go_wp2_with fail
      refine HTY.mono ?_
      rintro e w3 ⟨D, rfl, hown, hF, hb3⟩
      have HPT := putI_any bs HB ps w2.heap.size n D t m HM h3 HW bo cb w3 (hx2.below hb3) hown hF hlen hnums (fun i hp hb' => ⟨(hat i hp hb').1, (hat i hp hb').2.below hb3⟩)
      have hbb := Below.step hb hb3
      have hsz := hbb.size
      clear HTY hx2 hown hF hat hb hb3
      go_wp2_with fail
      refine HPT.mono ?_
      rintro e w4 ⟨ag, l, cg, rfl, hl, ha, hb4⟩
      have hb := Below.step hbb hb4
      have ha2 := ha.mono (B' := w.heap.size) (by omega)
      clear HPT ha hb4 hbb
      go_wp2
      go_ret
      rw [HV.out, hl]
      exact ⟨_, _, rfl, ha2, hb⟩

end Go.Proofs.YtahdmflbdmlfhaaGreatDoor

namespace Go.Proofs.YtahdmflbdmlfhaaGreatDoor

open Go.RowKit

/-- What Binds have for a number: of several the first. -/
def fsAt (bs : List (Int × List Nd)) (x : Int) : Option (List Nd) := (bs[placeIn (bs.map Prod.fst) x]?).map Prod.snd

theorem fsAt_some {bs : List (Int × List Nd)} {x : Int} : (fsAt bs x).isSome = true ↔ ∃ b ∈ bs, b.1 = x := by
  unfold fsAt
  rw [Option.isSome_map]
  constructor
  · intro h
    obtain ⟨b, hb⟩ := Option.isSome_iff_exists.1 h
    obtain ⟨hlt, e⟩ := List.getElem?_eq_some_iff.1 hb
    refine ⟨b, List.mem_of_getElem? hb, ?_⟩
    have h9 : placeIn (bs.map Prod.fst) x < (bs.map Prod.fst).length := by simpa using hlt
    have h8 : ((bs.map Prod.fst)[placeIn (bs.map Prod.fst) x] == x) = true := List.findIdx_getElem (w := h9)
    rw [List.getElem_map, e] at h8
    simpa using h8
  · rintro ⟨b, hb, e⟩
    have h8 : (bs.map Prod.fst).findIdx (· == x) < (bs.map Prod.fst).length := List.findIdx_lt_length_of_exists ⟨b.1, List.mem_map_of_mem hb, by simp [e]⟩
    have h9 : placeIn (bs.map Prod.fst) x < bs.length := by simpa [placeIn] using h8
    rw [List.getElem?_eq_getElem h9]
    rfl

theorem fsAt_lt {bs : List (Int × List Nd)} {x : Int} {t : List Nd} (h : fsAt bs x = some t) : ∃ hl : placeIn (bs.map Prod.fst) x < bs.length, bs[placeIn (bs.map Prod.fst) x].2 = t := by
  unfold fsAt at h
  obtain ⟨b, hb, e⟩ := Option.map_eq_some_iff.1 h
  obtain ⟨hl, e9⟩ := List.getElem?_eq_some_iff.1 hb
  exact ⟨hl, by rw [e9]; exact e⟩

theorem fsAt_mem {bs : List (Int × List Nd)} {x : Int} {t : List Nd} (h : fsAt bs x = some t) : ∃ b ∈ bs, b.2 = t := by
  obtain ⟨hl, e⟩ := fsAt_lt h
  exact ⟨_, List.getElem_mem hl, e⟩

/-- An unknown as a node. -/
def metaC (x : Int) : Nd := ⟨61, x, ByteArray.empty, 0, 0⟩

theorem plain_metaC {n : Nd} (h : n.plainb = true) (hk : n.kind = 61) : n = metaC n.num := by
  obtain ⟨a, b, c, d, e⟩ := n
  simp only at hk
  subst hk
  unfold Nd.plainb at h
  simp at h
  obtain ⟨h1, h2⟩ := h
  obtain ⟨⟨h3, _⟩, h4⟩ := h2
  simp only [metaC]
  subst h4
  subst h1
  subst h3
  rfl

theorem metaC_one (x : Int) : One [metaC x] := One.join (A := []) (n := metaC x) (by simp) (by simp [metaC])

theorem plain_leafyC {t : List Nd} (h : t.all Nd.plainb = true) : Leafy t := by
  intro n hn h61
  have := List.all_eq_true.1 h n hn
  unfold Nd.plainb at this
  simp [h61] at this
  exact this.2.1.1

theorem flatMap_congrC {α β : Type} {l : List α} {f g : α → List β} (h : ∀ x ∈ l, f x = g x) : l.flatMap f = l.flatMap g := by
  induction l with
  | nil => rfl
  | cons a l ih => simp only [List.flatMap_cons]; rw [h a (by simp), ih (fun x hx => h x (by simp [hx]))]

theorem deep_one {a : List Nd} (h : One a) (hl : a.length ≤ 300) : 0 < deepOf a := by
  obtain ⟨s, ys, ha⟩ := h
  have hf := after_fine ha
  have hlen := hf.len
  have hmem := hf.mem 0 (by simp)
  simp only [List.getElem_cons_zero] at hmem
  obtain ⟨hrl, hrs⟩ := List.getElem?_eq_some_iff.1 hmem
  obtain ⟨h1, h2⟩ := hf.chain.2.2.1 (by simp)
  simp only [List.getElem_cons_zero, List.length_cons, List.length_nil, Nat.zero_add, Nat.sub_self] at h1 h2
  have hroot := hf.root s.rt hrl
  rw [hrs] at hroot
  have hlast : ys.getLast? = some s := by
    rw [List.getLast?_eq_getElem?]
    have e : ys.length - 1 = s.rt := by omega
    rw [e]
    exact hmem
  unfold deepOf
  rw [if_neg (by omega), ha]
  simp only
  rw [hlast]
  simp only
  rw [if_pos ⟨h1, by omega⟩]
  omega

theorem one_deep {t : List Nd} (h : 0 < deepOf t) : One t := by
  obtain ⟨h0, h6, S, ys, ha, hl⟩ := deep_after rfl h
  unfold deepOf at h
  rw [if_neg (by omega), ha] at h
  simp only at h
  cases hg : ys.getLast? with
  | none => rw [hg] at h; simp at h
  | some s =>
    rw [hg] at h
    simp only at h
    by_cases hc : s.fr = 0 ∧ s.dp ≤ 300
    · rw [List.getLast?_eq_getElem?] at hg
      have h9 := sub_one ha (i := ys.length - 1) (by omega) hg
      rw [hc.1, hl] at h9
      have e : span t 0 (t.length - 1) = t := by
        unfold span
        rw [List.take_of_length_le (by omega)]
        simp
      rw [e] at h9
      exact h9
    · rw [if_neg hc] at h
      omega

theorem type_one {t : List Nd} (h : typeb t = true) : One t := by
  simp only [typeb, Bool.and_eq_true, decide_eq_true_eq] at h
  exact one_deep h.1.2

theorem type_plain {t : List Nd} (h : typeb t = true) : t.all Nd.plainb = true := by
  simp only [typeb, Bool.and_eq_true, decide_eq_true_eq] at h
  exact h.2

theorem one_type {a : List Nd} (h : One a) (hl : a.length ≤ 300) (hp : a.all Nd.plainb = true) : typeb a = true := by
  simp only [typeb, Bool.and_eq_true, decide_eq_true_eq]
  exact ⟨⟨hl, deep_one h hl⟩, hp⟩

theorem putSub_fsAt (bs : List (Int × List Nd)) (n : Nd) : putSub bs n = if n.kind = 61 then (fsAt bs n.num).getD [n] else [n] := rfl

/-- Put is a filling. -/
theorem putAll_fill (ts : List (Int × List Nd)) {b : List Nd} (hp : b.all Nd.plainb = true) : putAll ts b = fill (fun x => (fsAt ts x).getD [metaC x]) b := by
  unfold putAll fill
  apply flatMap_congrC
  intro n hn
  rw [putSub_fsAt, fillN]
  have hpn : n.plainb = true := List.all_eq_true.1 hp n hn
  by_cases hk : n.kind = 61
  · rw [if_pos hk, if_pos hk, ← plain_metaC hpn hk]
  · rw [if_neg hk, if_neg hk]

theorem fsAt_type {ts : List (Int × List Nd)} (ht : typesb ts = true) {x : Int} {t : List Nd} (h : fsAt ts x = some t) : typeb t = true := by
  obtain ⟨b, hb, rfl⟩ := fsAt_mem h
  exact (typesb_iff ts).1 ht b hb

theorem putAll_type {ts : List (Int × List Nd)} {b : List Nd} (ht : typesb ts = true) (hb : typeb b = true) (hl : (putAll ts b).length ≤ 300) : typeb (putAll ts b) = true := by
  have hp := type_plain hb
  refine one_type ?_ hl ?_
  · rw [putAll_fill ts hp]
    refine fill_one (fun x => ?_) (plain_leafyC hp) (type_one hb)
    cases hx : fsAt ts x with
    | none => exact metaC_one x
    | some t => exact type_one (fsAt_type ht hx)
  · rw [List.all_eq_true]
    intro n hn
    obtain ⟨m, hm, hn⟩ := List.mem_flatMap.1 hn
    have hpm : m.plainb = true := List.all_eq_true.1 hp m hm
    rw [putSub_fsAt] at hn
    by_cases hk : m.kind = 61
    · rw [if_pos hk] at hn
      cases hx : fsAt ts m.num with
      | none =>
        rw [hx] at hn
        simp at hn
        rw [hn]
        exact hpm
      | some t =>
        rw [hx] at hn
        exact List.all_eq_true.1 (type_plain (fsAt_type ht hx)) n hn
    · rw [if_neg hk] at hn
      simp at hn
      rw [hn]
      exact hpm

theorem putOf_ne {bs : List (Int × List Nd)} {t : List Nd} (h : putOf bs t ≠ []) : typeb t = true ∧ typesb bs = true ∧ (putAll bs t).length ≤ 300 ∧ putOf bs t = putAll bs t := by
  unfold putOf at h ⊢
  by_cases hc : typeb t = true ∧ (∀ b ∈ bs, typeb b.2 = true) ∧ (putAll bs t).length ≤ 300
  · rw [if_pos hc] at h ⊢
    exact ⟨hc.1, (typesb_iff bs).2 hc.2.1, hc.2.2, rfl⟩
  · rw [if_neg hc] at h
    exact absurd rfl h

theorem putOf_eq {bs : List (Int × List Nd)} {t : List Nd} (h1 : typeb t = true) (h2 : typesb bs = true) (h3 : (putAll bs t).length ≤ 300) : putOf bs t = putAll bs t := by
  rw [putOf, if_pos ⟨h1, (typesb_iff bs).1 h2, h3⟩]

end Go.Proofs.YtahdmflbdmlfhaaGreatDoor

namespace Go.Proofs.YtahdmflbdmlfhaaGreatDoor

/-- The number that is renamed to this one. -/
def back (dec : ∀ p : Prop, Decidable p) (ep : (Int → Prop) → Int) (rh : Int → Int) (y : Int) : Option Int := @ite _ (∃ x, rh x = y) (dec _) (some (ep fun x => rh x = y)) none

theorem after_kids {a b : List Nd} (h : a.map Nd.kids = b.map Nd.kids) : ∀ k, after a k = after b k := by
  intro k
  induction k with
  | zero => rfl
  | succ k ih =>
    simp only [after, ih]
    cases after b k with
    | none => rfl
    | some p =>
      obtain ⟨S, ys⟩ := p
      have e : (a.map Nd.kids)[k]? = (b.map Nd.kids)[k]? := by rw [h]
      simp only [List.getElem?_map] at e
      cases ha : a[k]? <;> cases hb : b[k]? <;> simp [ha, hb] at e
      · rfl
      · simp only [e]

/-- What a solution puts for the unknowns of the pairs has no others in it. -/
theorem occ_metas {ps : List (List Nd × List Nd)} {σ : Int → List Nd} (hv : Valid ps) (h : SolveOk ps σ) {x : Int} (hx : Occ ps x) : ∀ y ∈ metas (σ x), Occ ps y := by
  classical
  intro y hy
  by_cases hoy : Occ ps y
  · exact hoy
  · exfalso
    have hx1 := occ_num hv hx
    have hpl := h.plain x hx1
    have h1 : ∀ y ∈ metas (σ x), σ y = [metaN y] := by
      have e : fill σ (σ x) = fill (fun x => [metaN x]) (σ x) := by rw [h.gen σ h.one h.sol x, fill_id hpl]
      exact fill_inj_one h.one metaN_one (plain_leafy hpl) (h.one x) e
    obtain ⟨θ, hθ⟩ : ∃ θ : Int → List Nd, θ = fun z => if Occ ps z then σ z else [⟨12, 0, ByteArray.empty, 0, 0⟩] := ⟨_, rfl⟩
    have ho : ∀ z, One (θ z) := by
      intro z
      subst hθ
      simp only
      split
      · exact h.one z
      · exact leaf_one _ rfl
    have hs : Solves θ ps := by
      intro p hp
      have e1 : fill θ p.1 = fill σ p.1 := fill_congr (fun z hz => by subst hθ; simp only; rw [if_pos ⟨p, hp, .inl hz⟩])
      have e2 : fill θ p.2 = fill σ p.2 := fill_congr (fun z hz => by subst hθ; simp only; rw [if_pos ⟨p, hp, .inr hz⟩])
      rw [e1, e2, h.sol p hp]
    have g1 := h.gen θ ho hs x
    have g2 : θ x = σ x := by subst hθ; simp only; rw [if_pos hx]
    have e : fill θ (σ x) = fill σ (σ x) := by rw [g1, g2, h.gen σ h.one h.sol x]
    have h2 := fill_inj_one ho h.one (plain_leafy hpl) (h.one x) e y hy
    rw [h1 y hy] at h2
    subst hθ
    simp only [if_neg hoy, metaN, List.cons.injEq, Nd.mk.injEq] at h2
    omega

end Go.Proofs.YtahdmflbdmlfhaaGreatDoor

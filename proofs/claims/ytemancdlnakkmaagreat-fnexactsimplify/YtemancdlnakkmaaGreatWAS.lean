import Derived.Test.YtemancdlnakkmaaGreatWAR
import Derived.Deep.RegionWith
namespace Go.Proofs.YtemancdlnakkmaaGreat
open Go.RowKit
def fitAll : List (Nd → Bool) → List Nd → Bool
  | [], [] => true
  | p :: ps, x :: xs => p x && fitAll ps xs
  | _, _ => false
theorem fitAll_ne : ∀ (ps : List (Nd → Bool)) (xs : List Nd), xs.length ≠ ps.length → fitAll ps xs = false
  | [], [], h => absurd rfl h
  | [], _ :: _, _ => rfl
  | _ :: _, [], _ => rfl
  | p :: ps, x :: xs, h => by
    have := fitAll_ne ps xs (by simpa using h)
    simp [fitAll, this]
theorem fitAll_no : ∀ (ps : List (Nd → Bool)) (xs : List Nd) (k : Nat) (h : k < ps.length) (h' : k < xs.length), ps[k] xs[k] = false → fitAll ps xs = false
  | [], _, _, h, _, _ => by simp at h
  | _ :: _, [], _, _, h', _ => by simp at h'
  | p :: ps, x :: xs, 0, _, _, e => by simp at e; simp [fitAll, e]
  | p :: ps, x :: xs, k + 1, h, h', e => by
    have := fitAll_no ps xs k (by simpa using h) (by simpa using h') (by simpa using e)
    simp [fitAll, this]
theorem fitAll_yes : ∀ (ps : List (Nd → Bool)) (xs : List Nd), xs.length = ps.length → (∀ k (h : k < ps.length) (h' : k < xs.length), ps[k] xs[k] = true) → fitAll ps xs = true
  | [], [], _, _ => rfl
  | [], _ :: _, h, _ => by simp at h
  | _ :: _, [], h, _ => by simp at h
  | p :: ps, x :: xs, h, e => by
    have h1 := e 0 (by simp) (by simp)
    have h2 := fitAll_yes ps xs (by simpa using h) (fun k hk hk' => e (k + 1) (by simpa using hk) (by simpa using hk'))
    simp at h1
    simp [fitAll, h1, h2]
def FitsAt (w : World) (ao : Option Addr) (ps : List (Nd → Bool)) : Prop :=
  ∀ i (h : i < ps.length), ∃ b o v, ao = some ⟨b, o, none⟩ ∧ w.cell? ⟨b, o + i, none⟩ = some v ∧ FitV w v ps[i]
theorem FitsAt.below {w w' : World} {ao : Option Addr} {ps : List (Nd → Bool)} (h : FitsAt w ao ps) (hb : Below w.heap.size w w') : FitsAt w' ao ps := by
  intro i hi
  obtain ⟨b, o, v, e, hc, hv⟩ := h i hi
  exact ⟨b, o, v, e, (hb.cell (p := ⟨b, o + i, none⟩) (lt_of_cell hc)).trans hc, hv.below hb⟩
set_option maxHeartbeats 1000000 in
theorem just11_any (x : Nd) (v : Value) (p : Nd → Bool) (w : World) (hv : FitV w v p) :
    Calls Tryz.prog 85 #[.agg #[.int .i64 x.kind, .int .i64 x.num, .string x.text, .int .i64 x.kids, .int .i64 x.place], v] w fun e w' =>
      e = .returned (.bool (p x)) ∧ Below w.heap.size w w' := by
  obtain ⟨N, lb, rfl, hN, HF⟩ := hv
  have HP := HF x
  obtain ⟨z, hz⟩ : ∃ z, p x = z := ⟨_, rfl⟩
  rw [hz] at HP ⊢
  clear HF hz
  obtain ⟨kd, nm, tx, ks, pl⟩ := x
  have hb0 : Below w.heap.size w (w.alloc (Obj.cells #[.int .i64 kd, .int .i64 nm, .string tx, .int .i64 ks, .int .i64 pl] 34)) := (Below.refl _ _).alloc (Nat.le_refl _) _
  simp only at HP
  go_enter Tryz.func85, Tryz.ntmps85
  go_wp2_with fail
  refine (HP _ hb0).mono ?_
  rintro e w1 ⟨rfl, hb1⟩
  have hb2 := Below.step hb0 hb1
  clear HP hb0 hb1
  go_wp2
  go_ret
  exact ⟨rfl, hb2⟩
set_option maxHeartbeats 2000000 in
theorem equalFit_any (xs : List Nd) (n : Nat) (HX : Hid (xs.length = n)) (ps : List (Nd → Bool)) (l : Nat) (HL : Hid (ps.length = l)) (ao ap : Option Addr) (cap cp : Nat) (w : World) (hx : Nodes w ao xs) (hp : FitsAt w ap ps) (hlx : n ≤ 60000) (hlp : l ≤ 60000) :
    Calls Tryz.prog 84 #[.slice ao n cap, .slice ap l cp, .func (.func 85) #[] #[]] w fun e w' =>
      e = .returned (.bool (fitAll ps xs)) ∧ Below w.heap.size w w' := by
  by_cases hnl : n = l
  · subst hnl
    go_enter Tryz.func84, Tryz.ntmps84
    go_wp2
    go_loopw [17] (fun i wr => ∃ (k : Nat), k ≤ n ∧ i = .int .i64 k ∧ (∀ j (h : j < ps.length) (h' : j < xs.length), j < k → ps[j] xs[j] = true) ∧ Below w.heap.size w wr) (fun i _ => n - (intOf i).toNat)
    case atStart => exact ⟨0, Nat.zero_le _, rfl, fun j _ _ h => absurd h (by omega), Below.refl _ _⟩
    case round =>
      obtain ⟨k, hk, rfl, hall, hb⟩ := hrel
      have HALL : Hid (∀ j (h : j < ps.length) (h' : j < xs.length), j < k → ps[j] xs[j] = true) := hall
      clear hall
      by_cases hlt : k < n
      · have hltx : k < xs.length := by have := HX.out; omega
        have hltp : k < ps.length := by have := HL.out; omega
        obtain ⟨x, hxk⟩ : ∃ x, xs[k] = x := ⟨_, rfl⟩
        obtain ⟨b, o, rfl, hcx⟩ := hx.below hb k hltx
        obtain ⟨b', o', v, rfl, hcv, hfv⟩ := hp.below hb k hltp
        rw [hxk] at hcx
        obtain ⟨c0, c1, c2, c3, c4⟩ := hcx
        have hlb : b < wr.heap.size := lt_of_cell c0
        have hlb' : b' < wr.heap.size := lt_of_cell hcv
        obtain ⟨z, hz⟩ : ∃ z, ps[k] x = z := ⟨_, rfl⟩
        have HZ : Hid (ps[k] xs[k] = z) := by show ps[k] xs[k] = z; rw [hxk]; exact hz
        obtain ⟨kd, nm, tx, ks, pl⟩ := x
        have hb0 : Below wr.heap.size wr (wr.alloc (Obj.cells #[.int .i64 kd, .int .i64 nm, .string tx, .int .i64 ks, .int .i64 pl] 34)) := (Below.refl _ _).alloc (Nat.le_refl _) _
        have HC := just11_any ⟨kd, nm, tx, ks, pl⟩ v ps[k] _ (hfv.below hb0)
        rw [hz] at HC
        obtain ⟨N, lb, rfl, -, -⟩ := hfv
        have hbA := Below.step hb hb0
        clear hx hxk hp hb hb0 hz
        go_wp2_with fail
        refine HC.mono ?_
        rintro e w1 ⟨rfl, hb1⟩
        have hbb := Below.step hbA hb1
        clear hbA hb1 HC c0 c1 c2 c3 c4 hcv
        cases z
        · have HV : Hid (fitAll ps xs = false) := fitAll_no ps xs k hltp hltx HZ.out
          go_wp2
          go_ret
          exact ⟨by rw [HV.out]; rfl, hbb⟩
        · go_wp2
          go_roundw
          case rel =>
            refine ⟨k + 1, by omega, by go_num, ?_, hbb⟩
            intro j h h' hj
            by_cases hjk : j = k
            · subst hjk; exact HZ.out
            · exact HALL.out j h h' (by omega)
          case measure => simp [intOf]; omega
      · have HV : Hid (fitAll ps xs = true) := fitAll_yes ps xs (by rw [HX.out, HL.out]) (fun j h h' => HALL.out j h h' (by have := HX.out; omega))
        clear hx hp
        go_wp2
        go_ret
        exact ⟨by rw [HV.out]; rfl, hb⟩
  · have HV : Hid (fitAll ps xs = false) := fitAll_ne ps xs (by rw [HX.out, HL.out]; exact hnl)
    have hnl' : ((n : Int) != (l : Int)) = true := by simp; omega
    clear hx hp
    go_enter Tryz.func84, Tryz.ntmps84
    go_wp2
    go_ret
    exact ⟨by rw [HV.out]; rfl, Below.refl _ _⟩
theorem allFit_later (p : Nd → Bool) (v : Value) (ks : List Nd) (q : Nat) (HQ : Hid (ks.length = q)) (hq : q ≤ 60000) (ao : Option Addr) (W : World) (hx : Nodes W ao ks) (hv : FitV W v p) :
    Hid (∀ (W' : World) (cap : Nat), Below W.heap.size W W' → Calls Tryz.prog 96 #[.slice ao q cap, v] W' fun e w' => e = .returned (.bool (ks.all p)) ∧ Below W'.heap.size W' w') :=
  fun W' cap hb => allFit_any p v ks q HQ ao cap W' (hx.below hb) hq (hv.below hb)
theorem new_node (x : Nd) (W : World) : Below W.heap.size W (W.alloc (Obj.cells #[.int .i64 x.kind, .int .i64 x.num, .string x.text, .int .i64 x.kids, .int .i64 x.place] 34)) := (Below.refl _ _).alloc (Nat.le_refl _) _
set_option maxHeartbeats 1000000 in
theorem some1_any (x : Nd) (ks : List Nd) (q : Nat) (HQ : Hid (ks.length = q)) (hq : q ≤ 60000) (ao : Option Addr) (cap : Nat) (b1 b2 : Nat) (least : Int) (v : Value) (p : Nd → Bool) (W : World)
    (c1 : W.cell? ⟨b1, 0, none⟩ = some (.int .i64 least)) (c2 : W.cell? ⟨b2, 0, none⟩ = some v) (hx : Nodes W ao ks) (hv : FitV W v p) :
    Calls Tryz.prog 95 #[.agg #[.int .i64 x.kind, .int .i64 x.num, .string x.text, .int .i64 x.kids, .int .i64 x.place], .slice ao q cap, .pointer (some ⟨b1, 0, none⟩), .pointer (some ⟨b2, 0, none⟩)] W fun e w' =>
      e = .returned (.bool (decide (least ≤ (ks.length : Int)) && ks.all p)) ∧ Below W.heap.size W w' := by
  have hl2 := lt_of_cell c2
  have hl1 := lt_of_cell c1
  simp only at hl1 hl2
  have HC := allFit_later p v ks q HQ hq ao W hx hv
  obtain ⟨N, lb, rfl, -, -⟩ := hv
  rw [HQ.out]
  have hb0 := new_node x W
  by_cases h : least ≤ (q : Int)
  · have t : decide ((q : Int) ≥ least) = true := by exact decide_eq_true (by omega)
    have HB : Hid (decide (least ≤ (q : Int)) = true) := by show decide (least ≤ (q : Int)) = true; exact decide_eq_true (by omega)
    clear hx
    go_enter Tryz.func95, Tryz.ntmps95
    go_wp2_with fail
    refine (HC.out _ _ hb0).mono ?_
    rintro e w1 ⟨rfl, hb1⟩
    have hbb := Below.step hb0 hb1
    clear hb0 hb1
    go_wp2
    go_ret
    exact ⟨by rw [HB.out]; rfl, hbb⟩
  · have t : decide ((q : Int) ≥ least) = false := by exact decide_eq_false (by omega)
    have HB : Hid (decide (least ≤ (q : Int)) = false) := by show decide (least ≤ (q : Int)) = false; exact decide_eq_false (by omega)
    clear hx
    go_enter Tryz.func95, Tryz.ntmps95
    go_wp2
    go_ret
    exact ⟨by first | (rw [HB.out]; rfl) | rfl, hb0⟩
set_option maxHeartbeats 1000000 in
theorem notOne1_any (x : Nd) (ks : List Nd) (q : Nat) (HQ : Hid (ks.length = q)) (hq : q ≤ 60000) (ao : Option Addr) (cap : Nat) (b2 : Nat) (v : Value) (p : Nd → Bool) (W : World)
     (c2 : W.cell? ⟨b2, 0, none⟩ = some v) (hx : Nodes W ao ks) (hv : FitV W v p) :
    Calls Tryz.prog 97 #[.agg #[.int .i64 x.kind, .int .i64 x.num, .string x.text, .int .i64 x.kids, .int .i64 x.place], .slice ao q cap, .pointer (some ⟨b2, 0, none⟩)] W fun e w' =>
      e = .returned (.bool (((ks.length : Int) != 1) && ks.all p)) ∧ Below W.heap.size W w' := by
  have hl2 := lt_of_cell c2
  skip
  simp only at hl2
  have HC := allFit_later p v ks q HQ hq ao W hx hv
  obtain ⟨N, lb, rfl, -, -⟩ := hv
  rw [HQ.out]
  have hb0 := new_node x W
  by_cases h : q ≠ 1
  · have t : ((q : Int) != 1) = true := by simp; omega
    have HB : Hid (((q : Int) != 1) = true) := by show ((q : Int) != 1) = true; simp; omega
    clear hx
    go_enter Tryz.func97, Tryz.ntmps97
    go_wp2_with fail
    refine (HC.out _ _ hb0).mono ?_
    rintro e w1 ⟨rfl, hb1⟩
    have hbb := Below.step hb0 hb1
    clear hb0 hb1
    go_wp2
    go_ret
    exact ⟨by rw [HB.out]; rfl, hbb⟩
  · have t : ((q : Int) != 1) = false := by simp; omega
    have HB : Hid (((q : Int) != 1) = false) := by show ((q : Int) != 1) = false; simp; omega
    clear hx
    go_enter Tryz.func97, Tryz.ntmps97
    go_wp2
    go_ret
    exact ⟨by first | (rw [HB.out]; rfl) | rfl, hb0⟩
set_option maxHeartbeats 1000000 in
theorem atMostOne1_any (x : Nd) (ks : List Nd) (q : Nat) (HQ : Hid (ks.length = q)) (hq : q ≤ 60000) (ao : Option Addr) (cap : Nat) (b2 : Nat) (v : Value) (p : Nd → Bool) (W : World)
     (c2 : W.cell? ⟨b2, 0, none⟩ = some v) (hx : Nodes W ao ks) (hv : FitV W v p) :
    Calls Tryz.prog 98 #[.agg #[.int .i64 x.kind, .int .i64 x.num, .string x.text, .int .i64 x.kids, .int .i64 x.place], .slice ao q cap, .pointer (some ⟨b2, 0, none⟩)] W fun e w' =>
      e = .returned (.bool (decide ((ks.length : Int) ≤ 1) && ks.all p)) ∧ Below W.heap.size W w' := by
  have hl2 := lt_of_cell c2
  skip
  simp only at hl2
  have HC := allFit_later p v ks q HQ hq ao W hx hv
  obtain ⟨N, lb, rfl, -, -⟩ := hv
  rw [HQ.out]
  have hb0 := new_node x W
  by_cases h : q ≤ 1
  · have t : decide ((q : Int) ≤ 1) = true := by exact decide_eq_true (by omega)
    have HB : Hid (decide ((q : Int) ≤ 1) = true) := by show decide ((q : Int) ≤ 1) = true; exact decide_eq_true (by omega)
    clear hx
    go_enter Tryz.func98, Tryz.ntmps98
    go_wp2_with fail
    refine (HC.out _ _ hb0).mono ?_
    rintro e w1 ⟨rfl, hb1⟩
    have hbb := Below.step hb0 hb1
    clear hb0 hb1
    go_wp2
    go_ret
    exact ⟨by rw [HB.out]; rfl, hbb⟩
  · have t : decide ((q : Int) ≤ 1) = false := by exact decide_eq_false (by omega)
    have HB : Hid (decide ((q : Int) ≤ 1) = false) := by show decide ((q : Int) ≤ 1) = false; exact decide_eq_false (by omega)
    clear hx
    go_enter Tryz.func98, Tryz.ntmps98
    go_wp2
    go_ret
    exact ⟨by first | (rw [HB.out]; rfl) | rfl, hb0⟩
set_option maxHeartbeats 1000000 in
theorem just1_any (x : Nd) (ks : List Nd) (q : Nat) (HQ : Hid (ks.length = q)) (hq : q ≤ 60000) (ao : Option Addr) (cap : Nat) (b : Nat) (ap : Option Addr) (l cp : Nat) (ps : List (Nd → Bool)) (HL : Hid (ps.length = l)) (hl : l ≤ 60000) (W : World)
    (c1 : W.cell? ⟨b, 0, none⟩ = some (.slice ap l cp)) (hx : Nodes W ao ks) (hp : FitsAt W ap ps) :
    Calls Tryz.prog 83 #[.agg #[.int .i64 x.kind, .int .i64 x.num, .string x.text, .int .i64 x.kids, .int .i64 x.place], .slice ao q cap, .pointer (some ⟨b, 0, none⟩)] W fun e w' =>
      e = .returned (.bool (fitAll ps ks)) ∧ Below W.heap.size W w' := by
  have hl1 := lt_of_cell c1
  simp only at hl1
  have hb0 := new_node x W
  have HC := equalFit_any ks q HQ ps l HL ao ap cap cp _ (hx.below hb0) (hp.below hb0) hq hl
  clear hx hp
  go_enter Tryz.func83, Tryz.ntmps83
  go_wp2_with fail
  refine HC.mono ?_
  rintro e w1 ⟨rfl, hb1⟩
  have hbb := Below.step hb0 hb1
  clear hb0 hb1
  go_wp2
  go_ret
  exact ⟨rfl, hbb⟩
def firstB (p0 p : Nd → Bool) (ks : List Nd) : Bool := decide (2 ≤ ks.length) && p0 (ndAt ks 0) && (ks.drop 1).all p
def lastB (p pl : Nd → Bool) (ks : List Nd) : Bool := decide (2 ≤ ks.length) && (ks.take (ks.length - 1)).all p && pl (ndAt ks (ks.length - 1))
theorem Nodes.tail {w : World} {b o : Nat} {ks : List Nd} (h : Nodes w (some ⟨b, o, none⟩) ks) : Nodes w (some ⟨b, o + 5, none⟩) (ks.drop 1) := by
  intro i hi
  obtain ⟨b', o', e, hn⟩ := h (1 + i) (by simp at hi; omega)
  simp only [Option.some.injEq, Addr.mk.injEq, and_true] at e
  obtain ⟨rfl, rfl⟩ := e
  refine ⟨b, o + 5, rfl, ?_⟩
  rw [List.getElem_drop]
  have e : o + (1 + i) * 5 = o + 5 + i * 5 := by omega
  rw [e] at hn
  exact hn
theorem Nodes.front {w : World} {ao : Option Addr} {ks : List Nd} (h : Nodes w ao ks) (m : Nat) : Nodes w ao (ks.take m) := by
  intro i hi
  obtain ⟨b', o', e, hn⟩ := h i (by simp at hi; omega)
  refine ⟨b', o', e, ?_⟩
  rw [List.getElem_take]
  exact hn
theorem FitV.later {p : Nd → Bool} {w : World} {N : Nat} {lb : Array Value} (h : FitV w (.func (.func N) #[] lb) p) :
    (∀ (args : Array Value) (w : World), (callFunc N args).run Tryz.prog w = .ok (.enter N args) w) ∧
    Hid (∀ (x : Nd) (W : World), Below w.heap.size w W → Calls Tryz.prog N (#[.agg #[.int .i64 x.kind, .int .i64 x.num, .string x.text, .int .i64 x.kids, .int .i64 x.place]] ++ lb) W fun e w' => e = .returned (.bool (p x)) ∧ Below W.heap.size W w') := by
  obtain ⟨N', lb', e, hN, HF⟩ := h
  simp only [Value.func.injEq, Fn.func.injEq, true_and] at e
  obtain ⟨rfl, rfl⟩ := e
  exact ⟨hN, HF⟩
set_option maxHeartbeats 1000000 in
theorem lastApart1_any (x : Nd) (ks : List Nd) (q : Nat) (HQ : Hid (ks.length = q)) (hq : q ≤ 60000) (ao : Option Addr) (cap : Nat) (hcap : q ≤ cap) (b1 b2 : Nat) (v vl : Value) (p pl : Nd → Bool) (W : World)
    (c1 : W.cell? ⟨b1, 0, none⟩ = some v) (c2 : W.cell? ⟨b2, 0, none⟩ = some vl) (hx : Nodes W ao ks) (hv : FitV W v p) (hvl : FitV W vl pl) :
    Calls Tryz.prog 99 #[.agg #[.int .i64 x.kind, .int .i64 x.num, .string x.text, .int .i64 x.kids, .int .i64 x.place], .slice ao q cap, .pointer (some ⟨b1, 0, none⟩), .pointer (some ⟨b2, 0, none⟩)] W fun e w' =>
      e = .returned (.bool (lastB p pl ks)) ∧ Below W.heap.size W w' := by
  have hl1 := lt_of_cell c1
  have hl2 := lt_of_cell c2
  simp only at hl1 hl2
  have hb0 := new_node x W
  by_cases h : 2 ≤ q
  · obtain ⟨r, rfl⟩ : ∃ r, q = r + 1 := ⟨q - 1, by omega⟩
    have h0 : r < ks.length := by have := HQ.out; omega
    obtain ⟨b, o, rfl, hn⟩ := hx r h0
    have hn0 : NodeAt W b (o + r * 5) (ndAt ks r) := by rw [ndAt_get h0]; exact hn
    obtain ⟨y, hy⟩ : ∃ y, ndAt ks r = y := ⟨_, rfl⟩
    rw [hy] at hn0
    have HC := allFit_later p v (ks.take r) r (by show (ks.take r).length = r; simp; omega) (by omega) _ W (hx.front r) hv
    have HB : Hid (lastB p pl ks = ((ks.take r).all p && pl y)) := by
      show lastB p pl ks = _
      unfold lastB
      have e : ks.length - 1 = r := by have := HQ.out; omega
      rw [e, hy, decide_eq_true (by have := HQ.out; omega)]
      simp
    obtain ⟨N, lb, rfl, -, -⟩ := hv
    have hvl' := hvl
    obtain ⟨N0, lb0, rfl, -, -⟩ := hvl'
    obtain ⟨hN0, HF0⟩ := hvl.later
    have HP := HF0.out y
    obtain ⟨z, hz⟩ : ∃ z, (ks.take r).all p = z := ⟨_, rfl⟩
    rw [hz] at HC HB
    obtain ⟨s, hs⟩ : ∃ s, pl y = s := ⟨_, rfl⟩
    rw [hs] at HP HB
    obtain ⟨ykd, ynm, ytx, yks, ypl⟩ := y
    have t : decide ((1 : Int) ≤ (r : Int)) = true := decide_eq_true (by omega)
    have hlb := lt_of_cell hn0.1
    simp only at HP hlb
    clear hx hn hvl HF0 hy hz hs
    have hbd := hb0.drew
    cases z
    · go_enter Tryz.func99, Tryz.ntmps99
      go_wp2
      first | go_region_with (refine (HC.out _ _ hbd).mono ?_; rintro e w1 ⟨rfl, hb1⟩; have hbb := Below.step hbd hb1) | fail
      all_goals
        go_wp2
        go_ret
        exact ⟨by rw [HB.out]; rfl, hbb⟩
    · go_enter Tryz.func99, Tryz.ntmps99
      go_wp2
      go_region_with (first
        | (refine (HC.out _ _ hbd).mono ?_; rintro e w1 ⟨rfl, hb1⟩; have hbb := Below.step hbd hb1; have e2 := (hbb.cell (p := ⟨b2, 0, none⟩) hl2).trans c2; have hl2' : b2 < w1.heap.size := Nat.lt_of_lt_of_le hl2 hbb.size; obtain ⟨d0, d1, d2, d3, d4⟩ := hn0.below hbb; have hlb' : b < w1.heap.size := Nat.lt_of_lt_of_le hlb hbb.size)
        | (refine (HP _ hbb).mono ?_; rintro e w2 ⟨rfl, hb2⟩; have hbc := Below.step hbb hb2))
      all_goals
        go_wp2
        go_ret
        exact ⟨by rw [HB.out]; rfl, hbc⟩
  · have HB : Hid (lastB p pl ks = false) := by
      show lastB p pl ks = false
      unfold lastB
      rw [decide_eq_false (by have := HQ.out; omega)]
      rfl
    have t : decide ((1 : Int) ≤ (q : Int) - 1) = false := decide_eq_false (by omega)
    clear hx
    have hbd := hb0.drew
    go_enter Tryz.func99, Tryz.ntmps99
    go_wp2
    go_region
    all_goals
      go_wp2
      go_ret
      exact ⟨by first | (rw [HB.out]; rfl) | rfl, hbd⟩
set_option maxHeartbeats 1000000 in
theorem firstApart1_any (x : Nd) (ks : List Nd) (q : Nat) (HQ : Hid (ks.length = q)) (hq : q ≤ 60000) (ao : Option Addr) (cap : Nat) (hcap : q ≤ cap) (b1 b2 : Nat) (v0 v : Value) (p0 p : Nd → Bool) (W : World)
    (c1 : W.cell? ⟨b1, 0, none⟩ = some v0) (c2 : W.cell? ⟨b2, 0, none⟩ = some v) (hx : Nodes W ao ks) (hv0 : FitV W v0 p0) (hv : FitV W v p) :
    Calls Tryz.prog 100 #[.agg #[.int .i64 x.kind, .int .i64 x.num, .string x.text, .int .i64 x.kids, .int .i64 x.place], .slice ao q cap, .pointer (some ⟨b1, 0, none⟩), .pointer (some ⟨b2, 0, none⟩)] W fun e w' =>
      e = .returned (.bool (firstB p0 p ks)) ∧ Below W.heap.size W w' := by
  have hl1 := lt_of_cell c1
  have hl2 := lt_of_cell c2
  simp only at hl1 hl2
  have hb0 := new_node x W
  by_cases h : 2 ≤ q
  · have h0 : 0 < ks.length := by have := HQ.out; omega
    obtain ⟨b, o, rfl, hn⟩ := hx 0 h0
    have hn0 : NodeAt W b o (ndAt ks 0) := by rw [ndAt_get h0]; simpa using hn
    obtain ⟨y, hy⟩ : ∃ y, ndAt ks 0 = y := ⟨_, rfl⟩
    rw [hy] at hn0
    obtain ⟨d0, d1, d2, d3, d4⟩ := hn0
    have hlb := lt_of_cell d0
    simp only at hlb
    have HC := allFit_later p v (ks.drop 1) (q - 1) (by show (ks.drop 1).length = q - 1; have := HQ.out; simp; omega) (by omega) _ W hx.tail hv
    have HB : Hid (firstB p0 p ks = (p0 y && (ks.drop 1).all p)) := by
      show firstB p0 p ks = _
      unfold firstB
      rw [hy, decide_eq_true (by have := HQ.out; omega)]
      rfl
    obtain ⟨N, lb, rfl, -, -⟩ := hv
    have hv0' := hv0
    obtain ⟨N0, lb0, rfl, -, -⟩ := hv0'
    obtain ⟨hN0, HF0⟩ := hv0.later
    have HP := HF0.out y
    obtain ⟨z, hz⟩ : ∃ z, p0 y = z := ⟨_, rfl⟩
    rw [hz] at HP HB
    obtain ⟨r, hr⟩ : ∃ r, (ks.drop 1).all p = r := ⟨_, rfl⟩
    rw [hr] at HC HB
    obtain ⟨ykd, ynm, ytx, yks, ypl⟩ := y
    simp only at HP d0 d1 d2 d3 d4
    clear hx hn hv0 HF0 hy hz hr
    have t0 : decide ((2 : Int) ≤ (q : Int)) = true := decide_eq_true (by omega)
    have hbd := hb0.drew
    cases z
    · go_enter Tryz.func100, Tryz.ntmps100
      go_wp2
      first | go_region_with (refine (HP _ hbd).mono ?_; rintro e w1 ⟨rfl, hb1⟩; have hbb := Below.step hbd hb1; have e2 := (hbb.cell (p := ⟨b2, 0, none⟩) hl2).trans c2; have hl2' : b2 < w1.heap.size := Nat.lt_of_lt_of_le hl2 hbb.size) | fail
      all_goals
        go_wp2
        go_ret
        exact ⟨by rw [HB.out]; rfl, hbb⟩
    · go_enter Tryz.func100, Tryz.ntmps100
      go_wp2
      go_region_with (first
        | (refine (HP _ hbd).mono ?_; rintro e w1 ⟨rfl, hb1⟩; have hbb := Below.step hbd hb1; have e2 := (hbb.cell (p := ⟨b2, 0, none⟩) hl2).trans c2; have hl2' : b2 < w1.heap.size := Nat.lt_of_lt_of_le hl2 hbb.size)
        | (refine (HC.out _ _ hbb).mono ?_; rintro e w2 ⟨rfl, hb2⟩; have hbc := Below.step hbb hb2))
      all_goals
        go_wp2
        go_ret
        exact ⟨by rw [HB.out]; rfl, hbc⟩
  · have HB : Hid (firstB p0 p ks = false) := by
      show firstB p0 p ks = false
      unfold firstB
      rw [decide_eq_false (by have := HQ.out; omega)]
      rfl
    have t : decide ((2 : Int) ≤ (q : Int)) = false := decide_eq_false (by omega)
    clear hx
    have hbd := hb0.drew
    go_enter Tryz.func100, Tryz.ntmps100
    go_wp2
    go_region
    all_goals
      go_wp2
      go_ret
      exact ⟨by first | (rw [HB.out]; rfl) | rfl, hbd⟩
end Go.Proofs.YtemancdlnakkmaaGreat

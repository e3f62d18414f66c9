import Derived.Test.YtekogjmmfhbinaaFit
namespace Go.Proofs.Ytekogjmmfhbinaa

open Go.RowKit

/-- As many nodes as are asked for, each as it is asked for. -/
def fitAll : List (Nd → Bool) → List Nd → Bool
  | [], [] => true
  | p :: ps, x :: xs => p x && fitAll ps xs
  | _, _ => false

theorem fitAll_ne : ∀ (ps : List (Nd → Bool)) (xs : List Nd), xs.length ≠ ps.length → fitAll ps xs = false
  | [], [], h => absurd rfl h
  | [], _ :: _, _ => rfl
  | _ :: _, [], _ => rfl
  | p :: ps, x :: xs, h => by
    have := fitAll_ne ps xs (by simpa using h)
    simp [fitAll, this]

theorem fitAll_no : ∀ (ps : List (Nd → Bool)) (xs : List Nd) (k : Nat) (h : k < ps.length) (h' : k < xs.length), ps[k] xs[k] = false → fitAll ps xs = false
  | [], _, _, h, _, _ => by simp at h
  | _ :: _, [], _, _, h', _ => by simp at h'
  | p :: ps, x :: xs, 0, _, _, e => by simp at e; simp [fitAll, e]
  | p :: ps, x :: xs, k + 1, h, h', e => by
    have := fitAll_no ps xs k (by simpa using h) (by simpa using h') (by simpa using e)
    simp [fitAll, this]

theorem fitAll_yes : ∀ (ps : List (Nd → Bool)) (xs : List Nd), xs.length = ps.length → (∀ k (h : k < ps.length) (h' : k < xs.length), ps[k] xs[k] = true) → fitAll ps xs = true
  | [], [], _, _ => rfl
  | [], _ :: _, h, _ => by simp at h
  | _ :: _, [], h, _ => by simp at h
  | p :: ps, x :: xs, h, e => by
    have h1 := e 0 (by simp) (by simp)
    have h2 := fitAll_yes ps xs (by simpa using h) (fun k hk hk' => e (k + 1) (by simpa using hk) (by simpa using hk'))
    simp at h1
    simp [fitAll, h1, h2]

/-- A slice of functions. -/
def FitsAt (w : World) (ao : Option Addr) (ps : List (Nd → Bool)) : Prop :=
  ∀ i (h : i < ps.length), ∃ b o v, ao = some ⟨b, o, none⟩ ∧ w.cell? ⟨b, o + i, none⟩ = some v ∧ FitV w v ps[i]

theorem FitsAt.below {w w' : World} {ao : Option Addr} {ps : List (Nd → Bool)} (h : FitsAt w ao ps) (hb : Below w.heap.size w w') : FitsAt w' ao ps := by
  intro i hi
  obtain ⟨b, o, v, e, hc, hv⟩ := h i hi
  exact ⟨b, o, v, e, (hb.cell (p := ⟨b, o + i, none⟩) (lt_of_cell hc)).trans hc, hv.below hb⟩

set_option maxHeartbeats 1000000 in
theorem just11_any (x : Nd) (v : Value) (p : Nd → Bool) (w : World) (hv : FitV w v p) :
    Calls Try.prog 79 #[.agg #[.int .i64 x.kind, .int .i64 x.num, .string x.text, .int .i64 x.kids, .int .i64 x.place], v] w fun e w' =>
      e = .returned (.bool (p x)) ∧ Below w.heap.size w w' := by
  obtain ⟨N, lb, rfl, hN, HF⟩ := hv
  have HP := HF x
  obtain ⟨z, hz⟩ : ∃ z, p x = z := ⟨_, rfl⟩
  rw [hz] at HP ⊢
  clear HF hz
  obtain ⟨kd, nm, tx, ks, pl⟩ := x
  have hb0 : Below w.heap.size w (w.alloc (Obj.cells #[.int .i64 kd, .int .i64 nm, .string tx, .int .i64 ks, .int .i64 pl] 39)) := (Below.refl _ _).alloc (Nat.le_refl _) _
  simp only at HP
  go_enter Try.func79, Try.ntmps79
  go_wp2_with fail
  refine (HP _ hb0).mono ?_
  rintro e w1 ⟨rfl, hb1⟩
  have hb2 := Below.step hb0 hb1
  clear HP hb0 hb1
  go_wp2
  go_ret
  exact ⟨rfl, hb2⟩

set_option maxHeartbeats 2000000 in
theorem equalFit_any (xs : List Nd) (n : Nat) (HX : Hid (xs.length = n)) (ps : List (Nd → Bool)) (l : Nat) (HL : Hid (ps.length = l)) (ao ap : Option Addr) (cap cp : Nat) (w : World) (hx : Nodes w ao xs) (hp : FitsAt w ap ps) (hlx : n ≤ 60000) (hlp : l ≤ 60000) :
    Calls Try.prog 78 #[.slice ao n cap, .slice ap l cp, .func (.func 79) #[] #[]] w fun e w' =>
      e = .returned (.bool (fitAll ps xs)) ∧ Below w.heap.size w w' := by
  by_cases hnl : n = l
  · subst hnl
    go_enter Try.func78, Try.ntmps78
    go_wp2
    go_loopw [17] (fun i wr => ∃ (k : Nat), k ≤ n ∧ i = .int .i64 k ∧ (∀ j (h : j < ps.length) (h' : j < xs.length), j < k → ps[j] xs[j] = true) ∧ Below w.heap.size w wr) (fun i _ => n - (intOf i).toNat)
    case atStart => exact ⟨0, Nat.zero_le _, rfl, fun j _ _ h => absurd h (by omega), Below.refl _ _⟩
    case round =>
      obtain ⟨k, hk, rfl, hall, hb⟩ := hrel
      have HALL : Hid (∀ j (h : j < ps.length) (h' : j < xs.length), j < k → ps[j] xs[j] = true) := hall
      clear hall
      by_cases hlt : k < n
      · have hltx : k < xs.length := by have := HX.out; omega
        have hltp : k < ps.length := by have := HL.out; omega
        obtain ⟨x, hxk⟩ : ∃ x, xs[k] = x := ⟨_, rfl⟩
        obtain ⟨b, o, rfl, hcx⟩ := hx.below hb k hltx
        obtain ⟨b', o', v, rfl, hcv, hfv⟩ := hp.below hb k hltp
        rw [hxk] at hcx
        obtain ⟨c0, c1, c2, c3, c4⟩ := hcx
        have hlb : b < wr.heap.size := lt_of_cell c0
        have hlb' : b' < wr.heap.size := lt_of_cell hcv
        obtain ⟨z, hz⟩ : ∃ z, ps[k] x = z := ⟨_, rfl⟩
        have HZ : Hid (ps[k] xs[k] = z) := by show ps[k] xs[k] = z; rw [hxk]; exact hz
        obtain ⟨kd, nm, tx, ks, pl⟩ := x
        have hb0 : Below wr.heap.size wr (wr.alloc (Obj.cells #[.int .i64 kd, .int .i64 nm, .string tx, .int .i64 ks, .int .i64 pl] 39)) := (Below.refl _ _).alloc (Nat.le_refl _) _
        have HC := just11_any ⟨kd, nm, tx, ks, pl⟩ v ps[k] _ (hfv.below hb0)
        rw [hz] at HC
        obtain ⟨N, lb, rfl, -, -⟩ := hfv
        have hbA := Below.step hb hb0
        clear hx hxk hp hb hb0 hz
        go_wp2_with fail
        refine HC.mono ?_
        rintro e w1 ⟨rfl, hb1⟩
        have hbb := Below.step hbA hb1
        clear hbA hb1 HC c0 c1 c2 c3 c4 hcv
        cases z
        · have HV : Hid (fitAll ps xs = false) := fitAll_no ps xs k hltp hltx HZ.out
          go_wp2
          go_ret
          exact ⟨by rw [HV.out]; rfl, hbb⟩
        · go_wp2
          go_roundw
          case rel =>
            refine ⟨k + 1, by omega, by go_num, ?_, hbb⟩
            intro j h h' hj
            by_cases hjk : j = k
            · subst hjk; exact HZ.out
            · exact HALL.out j h h' (by omega)
          case measure => simp [intOf]; omega
      · have HV : Hid (fitAll ps xs = true) := fitAll_yes ps xs (by rw [HX.out, HL.out]) (fun j h h' => HALL.out j h h' (by have := HX.out; omega))
        clear hx hp
        go_wp2
        go_ret
        exact ⟨by rw [HV.out]; rfl, hb⟩
  · have HV : Hid (fitAll ps xs = false) := fitAll_ne ps xs (by rw [HX.out, HL.out]; exact hnl)
    have hnl' : ((n : Int) != (l : Int)) = true := by simp; omega
    clear hx hp
    go_enter Try.func78, Try.ntmps78
    go_wp2
    go_ret
    exact ⟨by rw [HV.out]; rfl, Below.refl _ _⟩

end Go.Proofs.Ytekogjmmfhbinaa

import Derived.Test.YtdcnejhlmdkecaaGreatDoorWAM
import Derived.Maps.OwnSet
import Derived.Maps.OwnOps
import Derived.Test.YtdcnejhlmdkecaaGreatDoorWAH
import Derived.Deep.Slices
import Derived.Maps.OwnIn
namespace Go.Proofs.YtdcnejhlmdkecaaGreatDoor

open Go.RowKit Go.Maps

/-- One node, numbered from 'first' on: the numbers met, and the node. -/
def nmStep (first : Int) (s : List Int × List Nd) (n : Nd) : List Int × List Nd :=
  if n.kind = 61 then (if placeIn s.1 n.num = s.1.length then s.1 ++ [n.num] else s.1, s.2 ++ [{ n with num := first + (placeIn s.1 n.num : Int) }])
  else (s.1, s.2 ++ [n])

def nmTo (first : Int) (t : List Nd) (k : Nat) : List Int × List Nd := (t.take k).foldl (nmStep first) ([], [])

theorem nmTo_succ (first : Int) (t : List Nd) (k : Nat) (h : k < t.length) : nmTo first t (k + 1) = nmStep first (nmTo first t k) t[k] := by
  unfold nmTo
  rw [List.take_succ_eq_append_getElem h, List.foldl_append]
  rfl

theorem nmTo_one (t : List Nd) (k : Nat) : nmTo 1 t k = canonTo t k := by
  have h : nmStep 1 = canonStep := by
    funext s n
    unfold nmStep canonStep
    rw [Int.add_comm]
  unfold nmTo canonTo
  rw [h]

theorem nmTo_len (first : Int) (t : List Nd) (k : Nat) (h : k ≤ t.length) : (nmTo first t k).2.length = k ∧ (nmTo first t k).1.length ≤ k := by
  induction k with
  | zero => simp [nmTo]
  | succ k ih =>
    obtain ⟨h1, h2⟩ := ih (by omega)
    rw [nmTo_succ first t k (by omega)]
    unfold nmStep
    split
    · refine ⟨by simp [h1], ?_⟩
      simp only
      split
      · simp; omega
      · omega
    · exact ⟨by simp [h1], by simp only; omega⟩

theorem placeIn_le (met : List Int) (x : Int) : placeIn met x ≤ met.length := List.findIdx_le_length

theorem placeIn_snoc (met : List Int) (x : Int) : placeIn (met ++ [x]) x = if placeIn met x = met.length then met.length else placeIn met x := by
  unfold placeIn
  rw [List.findIdx_append]
  have h := @List.findIdx_le_length _ (fun y => y == x) met
  by_cases h1 : List.findIdx (fun y => y == x) met = met.length
  · rw [if_pos h1, if_neg (by omega)]
    simp
  · rw [if_neg h1, if_pos (by omega)]

theorem placeIn_snoc_ne (met : List Int) (x y : Int) (hne : y ≠ x) : placeIn (met ++ [x]) y = if placeIn met y = met.length then met.length + 1 else placeIn met y := by
  unfold placeIn
  rw [List.findIdx_append]
  have h := @List.findIdx_le_length _ (fun z => z == y) met
  by_cases h1 : List.findIdx (fun z => z == y) met = met.length
  · have h2 : (x == y) = false := by simpa using fun h => hne h.symm
    rw [if_pos h1, if_neg (by omega)]
    simp [h2, List.findIdx_cons, Nat.add_comm]
  · rw [if_neg h1, if_pos (by omega)]

/-- What the map of numbers says of a number: 0 where it is not met. -/
def numAt (first : Int) (met : List Int) (x : Int) : Int := if placeIn met x = met.length then 0 else first + placeIn met x

/-- The map of numbers, as a datum. -/
def NumsD (first : Int) (met : List Int) (D : DataW Unit) : Prop :=
  Tidy D ∧ Maps.size D = met.length ∧ ∀ x : Int, Maps.has D (.int .i64 x) = !(placeIn met x == met.length) ∧ D.atKey (.int .i64 x) (.lit (.int .i64 0)) = .lit (.int .i64 (numAt first met x))

theorem NumsD.start (first : Int) : NumsD first [] (.map []) := ⟨tidy_empty, rfl, fun _ => ⟨rfl, rfl⟩⟩

theorem NumsD.store {first : Int} {met : List Int} {D : DataW Unit} (h : NumsD first met D) (x : Int) (hx : placeIn met x = met.length) :
    NumsD first (met ++ [x]) (D.put (.int .i64 x) (.lit (.int .i64 (first + met.length)))) := by
  obtain ⟨h1, h2, h3⟩ := h
  have hkl : ∀ z : Int, WideAt.IsKeyLit (.int .i64 z) := fun _ => trivial
  refine ⟨h1.put (hkl x) _, ?_, ?_⟩
  · rw [size_put h1, (h3 x).1, hx]
    simp [h2]
  · intro y
    by_cases hy : y = x
    · subst hy
      refine ⟨?_, ?_⟩
      · rw [has_put_same h1.isMap (hkl y), placeIn_snoc, if_pos hx]
        simp
      · rw [atKey_put_same h1.isMap (hkl y)]
        unfold numAt
        rw [placeIn_snoc, if_pos hx, if_neg (by simp)]
    · have hne : (Lit.int .i64 y) ≠ (Lit.int .i64 x) := fun h => hy (by simpa using h)
      refine ⟨?_, ?_⟩
      · rw [has_put_other hne, (h3 y).1, placeIn_snoc_ne _ _ _ hy]
        have := placeIn_le met y
        by_cases h9 : placeIn met y = met.length
        · rw [if_pos h9]; simp [h9]
        · rw [if_neg h9]
          have q : (placeIn met y == met.length) = false := by simpa using h9
          have q2 : (placeIn met y == (met ++ [x]).length) = false := by simp; omega
          rw [q, q2]
      · rw [atKey_put_other hne, (h3 y).2]
        unfold numAt
        rw [placeIn_snoc_ne _ _ _ hy]
        have := placeIn_le met y
        by_cases h9 : placeIn met y = met.length
        · rw [if_pos h9, if_pos h9, if_pos (by simp)]
        · rw [if_neg h9, if_neg h9, if_neg (by simp; omega)]

theorem Tryz.law2 : Keyed Tryz.prog 2 := int_keyed Tryz.underlying2
theorem Tryz.zero2 (w : World) : (zeroValue 2).run Tryz.prog w = .ok (.int .i64 0) w := by kernel_rfl

theorem set_mid (ys zs : List Nd) (z y : Nd) (k : Nat) (h : ys.length = k) : (ys ++ z :: zs).set k y = ys ++ [y] ++ zs := by
  subst h
  simp

/-- One store into a row: the number of a node. -/
theorem Row.putNum {w : World} {g : Nat} {ys : List Nd} (h : Row w g ys) (i : Nat) (hi : i < ys.length) (v : Int) :
    Row (w.setCell ⟨g, i * 5 + 1, none⟩ (.int .i64 v)) g (ys.set i { ys[i] with num := v }) := by
  have hl := flat_length ys
  refine (Own.set h (i * 5 + 1) _ (by omega)).row ?_
  rw [← flat_set ys i hi]
  apply List.ext_getElem?
  intro j
  simp only [List.getElem?_set, List.length_set]
  have e0 := flat_get ys i 0 hi (by omega)
  have e2 := flat_get ys i 2 hi (by omega)
  have e3 := flat_get ys i 3 hi (by omega)
  have e4 := flat_get ys i 4 hi (by omega)
  simp only [Nd.row, Nat.add_zero] at e0 e2 e3 e4
  simp only [List.getElem?_cons_zero, List.getElem?_cons_succ] at e0 e2 e3 e4
  by_cases j4 : i * 5 + 4 = j
  · subst j4; simp [e4, hl]; omega
  · by_cases j3 : i * 5 + 3 = j
    · subst j3; simp [e3, hl]; omega
    · by_cases j2 : i * 5 + 2 = j
      · subst j2; simp [e2, hl]; omega
      · by_cases j1 : i * 5 + 1 = j
        · subst j1; simp [hl]
        · by_cases j0 : i * 5 = j
          · subst j0; simp [e0, hl]; omega
          · simp [j0, j1, j2, j3, j4]

theorem row_kept {w w' : World} {g k : Nat} {ys : List Nd} (h : Row w g ys) (hg : w.grownBy w' (some k)) (hne : g ≠ k) : Row w' g ys := by
  have hlt := h.lt
  obtain ⟨cur, rest, hb, e⟩ := h
  exact ⟨cur, rest, (hg.block g hlt (by simpa using hne)).trans hb, e⟩

theorem cell_kept {w w' : World} {g k o : Nat} (hg : w.grownBy w' (some k)) (hl : g < w.heap.size) (hne : g ≠ k) : w'.cell? ⟨g, o, none⟩ = w.cell? ⟨g, o, none⟩ := by
  have h := hg.block g hl (by simpa using hne)
  unfold World.cell?
  rw [h]

theorem Row.putMid {w : World} {g k : Nat} {out rest : List Nd} {kd nm v : Int} {tx : ByteArray} {ks pl : Int} (h : Row w g (out ++ (⟨kd, nm, tx, ks, pl⟩ : Nd) :: rest)) (hk : out.length = k) :
    Row (w.setCell ⟨g, k * 5 + 1, none⟩ (.int .i64 v)) g (out ++ [⟨kd, v, tx, ks, pl⟩] ++ rest) := by
  have hlen : k < (out ++ (⟨kd, nm, tx, ks, pl⟩ : Nd) :: rest).length := by simp [hk]
  have e9 : (out ++ (⟨kd, nm, tx, ks, pl⟩ : Nd) :: rest)[k] = ⟨kd, nm, tx, ks, pl⟩ := by
    rw [List.getElem_append_right (by omega)]
    simp [hk]
  have h9 := h.putNum k hlen v
  rw [e9, set_mid _ _ _ _ _ hk] at h9
  exact h9

theorem Row.midNum {w : World} {g k : Nat} {out rest : List Nd} {kd nm : Int} {tx : ByteArray} {ks pl : Int} (h : Row w g (out ++ (⟨kd, nm, tx, ks, pl⟩ : Nd) :: rest)) (hk : out.length = k) :
    w.cell? ⟨g, k * 5 + 1, none⟩ = some (.int .i64 nm) := by
  have hlen : k < (out ++ (⟨kd, nm, tx, ks, pl⟩ : Nd) :: rest).length := by simp [hk]
  have e9 : (out ++ (⟨kd, nm, tx, ks, pl⟩ : Nd) :: rest)[k] = ⟨kd, nm, tx, ks, pl⟩ := by
    rw [List.getElem_append_right (by omega)]
    simp [hk]
  have hn := h.node k hlen
  rw [e9] at hn
  exact hn.2.1

set_option maxHeartbeats 4000000 in
set_option maxRecDepth 100000 in
theorem numberedFrom_any (first : Int) (hf : 1 ≤ first) (hf2 : first ≤ 1000) (t : List Nd) (m : Nat) (HM : Hid (t.length = m)) (hm : m ≤ 300) (HW : Hid (∀ n ∈ t, n.kind = 61 → (Lit.int .i64 n.num).wf = true)) (b o cap : Nat) (w : World) (hx : Nodes w (some ⟨b, o, none⟩) t) :
    Calls Tryz.prog 17 #[.int .i64 first, .slice (some ⟨b, o, none⟩) m cap] w fun e w' => ∃ g c, e = .returned (.slice (some ⟨g, 0, none⟩) m c) ∧ w.heap.size ≤ g ∧ Row w' g (nmTo first t m).2 ∧ Below w.heap.size w w' := by
  have hmm := @run_makeMap Tryz.prog
  go_enter Tryz.func17, Tryz.ntmps17
  go_wp2_with fail
  refine (clone_any t m HM (by omega) _ cap w hx).mono ?_
  rintro e w1 ⟨g, c, rfl, hg, hr, hb⟩
  have hx1 := hx.below hb
  have hr1 : g < w1.heap.size := hr.lt
  go_wp2
  go_loopw [14] (fun i wr => ∃ (k : Nat) (D : DataW Unit), k ≤ m ∧ i = .int .i64 k ∧ wr.ownsMap Tryz.prog 2 (plainElem Tryz.prog 2) w1.heap.size k D ∧ NumsD first (nmTo first t k).1 D ∧ Row wr g ((nmTo first t k).2 ++ t.drop k) ∧ Below w.heap.size w wr)
    (fun i _ => m - (intOf i).toNat)
  case atStart => 
    refine ⟨0, .map [], Nat.zero_le _, rfl, World.ownsMap_made _ _ _ _, NumsD.start _, ?_, hb.alloc hb.size _⟩
    simpa [nmTo] using hr.below ((Below.refl _ _).alloc (Nat.le_refl _) _)
  case round =>
    obtain ⟨k, D, hk, rfl, hown, hN, hrow, hbl⟩ := hrel
    by_cases hlt : k < m
    · have hltx : k < t.length := by have := HM.out; omega
      obtain ⟨hol, hml⟩ := nmTo_len first t k (by omega)
      have hsucc := nmTo_succ first t k hltx
      have hdrop : t.drop k = t[k] :: t.drop (k + 1) := (List.drop_eq_getElem_cons hltx)
      have hxw := HW.out t[k] (List.getElem_mem hltx)
      obtain ⟨x, hxk⟩ : ∃ x, t[k] = x := ⟨_, rfl⟩
      obtain ⟨b', o', ebo, hcx⟩ := hx.below hbl k hltx
      simp only [Option.some.injEq, Addr.mk.injEq, and_true] at ebo
      obtain ⟨rfl, rfl⟩ := ebo
      rw [hxk] at hcx hsucc hdrop hxw
      obtain ⟨met, hmet⟩ : ∃ met, (nmTo first t k).1 = met := ⟨_, rfl⟩
      obtain ⟨out, hout⟩ : ∃ out, (nmTo first t k).2 = out := ⟨_, rfl⟩
      have hpair : nmTo first t k = (met, out) := by rw [← hmet, ← hout]
      rw [hpair] at hsucc
      rw [hmet] at hN hml
      rw [hout, hdrop] at hrow
      rw [hout] at hol
      obtain ⟨c0, c1, c2, c3, c4⟩ := hcx
      have hlb : b < wr.heap.size := lt_of_cell c0
      have HS : Hid (nmTo first t (k + 1) = nmStep first (met, out) x) := hsucc
      have HR : Hid (Row wr g (out ++ x :: t.drop (k + 1))) := hrow
      clear hx hx1 hxk hmet hout hpair hsucc hdrop hrow hr
      obtain ⟨kd, nm, tx, ks, pl⟩ := x
      simp only at c0 c1 c2 c3 c4 hxw
      by_cases h61 : kd = 61
      · subst h61
        have hxw := hxw rfl
        have hkey : keyOf Tryz.prog 2 (.int .i64 nm) = some (.int .i64 nm) := keyOf_int_mk Tryz.underlying2 hxw
        by_cases hnew : placeIn met nm = met.length
        · have hc0 : ∀ c, D.atKey (.int .i64 nm) (.lit (.int .i64 0)) = .lit (.int .i64 c) → c = 0 := by
            intro c hc
            rw [(hN.2.2 nm).2, numAt, if_pos hnew] at hc
            simpa using hc.symm
          have hsz := hN.2.1
          have hN2 := hN.store nm hnew
          have hwf : (Lit.int .i64 (first + (met.length : Int))).wf = true := WalkArith.wf_i64 (by omega)
          have hc1 : ∀ c, (D.put (.int .i64 nm) (.lit (.int .i64 (first + (met.length : Int))))).atKey (.int .i64 nm) (.lit (.int .i64 0)) = .lit (.int .i64 c) → c = first + (met.length : Int) := by
            intro c hc
            rw [(hN2.2.2 nm).2, numAt, placeIn_snoc, if_pos hnew, if_neg (by simp)] at hc
            simpa using hc.symm
          have HS2 : Hid (nmTo first t (k + 1) = (met ++ [nm], out ++ [⟨61, first + (met.length : Int), tx, ks, pl⟩])) := by
            rw [Hid, HS.out, nmStep, if_pos rfl]
            simp only
            rw [if_pos hnew, hnew]
          clear HS
          have hgr := HR.out.lt
          have hmlt := hown.lt
          have hgw : g < w1.heap.size := hr1
          have HF : Hid (∀ W2, (wr.alloc (.cells #[.int .i64 61, .int .i64 nm, .string tx, .int .i64 ks, .int .i64 pl] 35)).grownBy W2 (some w1.heap.size) → Row W2 g (out ++ (⟨61, nm, tx, ks, pl⟩ : Nd) :: t.drop (k + 1)) ∧ Below w.heap.size w W2 ∧ W2.cell? ⟨wr.heap.size, 1, none⟩ = some (.int .i64 nm) ∧ W2.cell? ⟨g, k * 5 + 1, none⟩ = some (.int .i64 nm) ∧ W2.frozen? ⟨g, k * 5 + 1, none⟩ = false) := by
            intro W2 hgw2
            have hr2 := row_kept (HR.out.below ((Below.refl _ _).alloc (Nat.le_refl _) _)) hgw2 (by omega)
            refine ⟨hr2, (hbl.alloc hbl.size _).grown hgw2 (hbl.alloc hbl.size _).size (fun j hj => by cases hj; exact hb.size), ?_, ?_, hr2.frozen _⟩
            · rw [cell_kept hgw2 (by simp) (by omega), cell_of_row _ _ _ _ _ _ (heap_alloc_new _ _)]
              rfl
            · exact hr2.midNum hol
          go_wp2_with (first
            | (at_lookup; refine wpList_lookup_own_int _ rfl _ _ 66 rfl 2 2 .i64 Tryz.law2 Tryz.underlying66 Tryz.underlying2 (Tryz.zero2 _) w1.heap.size k _ rfl (hown.alloc _) _ _ rfl hkey ?_; intro c hat hwc; obtain rfl := hc0 c hat)
            | (at_len; refine wpList_len_own _ rfl _ 66 rfl 2 2 Tryz.underlying66 _ w1.heap.size k _ rfl (hown.alloc _) ?_; rw [hsz])
            | (at_mapUpdate; refine wpList_mapUpdate_own _ rfl _ _ _ 66 rfl 2 2 Tryz.law2 Tryz.underlying66 _ w1.heap.size k _ rfl (hown.alloc _) (by unfold maxLen; omega) _ _ _ rfl rfl hkey _ [] (plainElem_int Tryz.underlying2 hwf) ?_; intro w2 hown2 hgrow2; obtain ⟨r2, b2, q1, q2, q3⟩ := HF.out w2 hgrow2)
            | (at_lookup; refine wpList_lookup_own_int _ rfl _ _ 66 rfl 2 2 .i64 Tryz.law2 Tryz.underlying66 Tryz.underlying2 (Tryz.zero2 _) w1.heap.size (k + 1) _ rfl hown2 _ _ rfl hkey ?_; intro c hat hwc; obtain rfl := hc1 c hat)
            | go_in)
          go_roundw
          case rel =>
            refine ⟨k + 1, _, by omega, by go_num, hown2.setCell (by simp; omega) _, by rw [HS2.out]; exact hN2, ?_, b2.setCell hg _⟩
            rw [HS2.out]
            exact r2.putMid hol
          case measure => simp [intOf]; omega
        · have hle := placeIn_le met nm
          have hc0 : ∀ c, D.atKey (.int .i64 nm) (.lit (.int .i64 0)) = .lit (.int .i64 c) → c = first + (placeIn met nm : Int) := by
            intro c hc
            rw [(hN.2.2 nm).2, numAt, if_neg hnew] at hc
            simpa using hc.symm
          have HS2 : Hid (nmTo first t (k + 1) = (met, out ++ [⟨61, first + (placeIn met nm : Int), tx, ks, pl⟩])) := by
            rw [Hid, HS.out, nmStep, if_pos rfl]
            simp only
            rw [if_neg hnew]
          obtain ⟨v, hv⟩ : ∃ v, first + (placeIn met nm : Int) = v := ⟨_, rfl⟩
          rw [hv] at HS2 hc0
          have hv0 : (v == 0) = false := by simp; omega
          have hr2 := HR.out.below ((Below.refl _ _).alloc (Nat.le_refl _) (.cells #[.int .i64 61, .int .i64 nm, .string tx, .int .i64 ks, .int .i64 pl] 35))
          have q2 := hr2.midNum hol
          have q3 := hr2.frozen (k * 5 + 1)
          have hgr := HR.out.lt
          have hmlt := hown.lt
          clear HS hnew hle hv
          go_wp2_with (first
            | (at_lookup; refine wpList_lookup_own_int _ rfl _ _ 66 rfl 2 2 .i64 Tryz.law2 Tryz.underlying66 Tryz.underlying2 (Tryz.zero2 _) w1.heap.size k _ rfl (hown.alloc _) _ _ rfl hkey ?_; intro c hat hwc; obtain rfl : v = c := (hc0 c hat).symm)
            | go_in)
          go_roundw
          case rel =>
            have b9 := hbl.setCell (p := ⟨g, k * 5 + 1, none⟩) hg (.int .i64 v)
            refine ⟨k + 1, D, by omega, by go_num, ((hown.setCell (a := ⟨g, k * 5 + 1, none⟩) (by simp; omega) _).alloc _).mono (by omega), by rw [HS2.out]; exact hN, ?_, b9.alloc b9.size _⟩
            rw [HS2.out]
            exact (HR.out.putMid hol).below ((Below.refl _ _).alloc (Nat.le_refl _) _)
          case measure => simp [intOf]; omega
      · have t61 : ((kd : Int) != 61) = true := by simpa using h61
        have HS2 : Hid (nmTo first t (k + 1) = (met, out ++ [⟨kd, nm, tx, ks, pl⟩])) := by
          rw [Hid, HS.out, nmStep, if_neg h61]
        clear HS hxw
        go_wp2
        go_roundw
        case rel =>
          refine ⟨k + 1, D, by omega, by go_num, (hown.alloc _).mono (by omega), by rw [HS2.out]; exact hN, ?_, hbl.alloc hbl.size _⟩
          rw [HS2.out]
          simpa using HR.out.below ((Below.refl _ _).alloc (Nat.le_refl _) _)
        case measure => simp [intOf]; omega
    · obtain rfl : k = m := by omega
      have HE : Hid (Row wr g (nmTo first t k).2) := by
        have := hrow
        rw [List.drop_of_length_le (by have := HM.out; omega), List.append_nil] at this
        exact this
      clear hrow hx hx1 hr
      go_wp2
      go_ret
      exact ⟨g, c, rfl, hg, HE.out, hbl⟩

end Go.Proofs.YtdcnejhlmdkecaaGreatDoor

namespace Go.Proofs.YtdcnejhlmdkecaaGreatDoor
open Go.RowKit Go.Shelf

attribute [local go_sem] Oper.semAt_some

/-- A box of one cell. -/
def Box1 (w : World) (b : Nat) (t : TypeId) (v : Value) : Prop := w.heap[b]? = some (.cells #[v] t (0, 0))

theorem Box1.lt {w : World} {b : Nat} {t : TypeId} {v : Value} (h : Box1 w b t v) : b < w.heap.size := (Array.getElem?_eq_some_iff.1 h).1

theorem Box1.cell {w : World} {b : Nat} {t : TypeId} {v : Value} (h : Box1 w b t v) : w.cell? ⟨b, 0, none⟩ = some v := by rw [cell_of_row w b 0 _ t (0, 0) h]; rfl

theorem Box1.frozen {w : World} {b : Nat} {t : TypeId} {v : Value} (h : Box1 w b t v) : w.frozen? ⟨b, 0, none⟩ = false := frozen_of_row w b 0 _ t h

theorem Box1.set {w : World} {b : Nat} {t : TypeId} {v : Value} (h : Box1 w b t v) (u : Value) : Box1 (w.setCell ⟨b, 0, none⟩ u) b t u := heap_setCell_same w b 0 _ t u h

theorem Box1.below {w w' : World} {B b : Nat} {t : TypeId} {v : Value} (h : Box1 w b t v) (hb : Below B w w') (hlt : b < B) : Box1 w' b t v := (hb.block b hlt).trans h

theorem Box1.but {S : Nat → Prop} {w w' : World} {b : Nat} {t : TypeId} {v : Value} (h : Box1 w b t v) (hb : But S w w') (hs : ¬ S b) : Box1 w' b t v := (hb.block b h.lt hs).trans h

theorem Box1.new (w : World) (t : TypeId) (v : Value) : Box1 (w.alloc (.cells #[v] t)) w.heap.size t v := heap_alloc_new _ _

theorem Box1.alloc {w : World} {b : Nat} {t : TypeId} {v : Value} (h : Box1 w b t v) (o : Obj) : Box1 (w.alloc o) b t v := (Below.heap_alloc w o b h.lt).trans h

/-- The three boxes of Part. -/
def boxes (w : World) (g m cm : Nat) (i : Int) : World :=
  ((w.alloc (.cells #[.slice (some ⟨g, 0, none⟩) m cm] 24)).alloc (.cells #[.int .i64 i] 3)).alloc (.cells #[.slice none 0 0] 24)

end Go.Proofs.YtdcnejhlmdkecaaGreatDoor

namespace Go.Proofs.YtdcnejhlmdkecaaGreatDoor
open Go.RowKit Go.Maps

/-- An element of a map that is a slice, and reads as itself. -/
def heldE : Value → Option (DataW Value × List MemPlace)
  | .slice a n c => some (.held (.slice a n c), [])
  | _ => none

theorem heldE_inv {v : Value} {z : DataW Value × List MemPlace} (h : heldE v = some z) : (∃ q : Option Addr × Nat × Nat, v = .slice q.1 q.2.1 q.2.2) ∧ z = (.held v, []) := by
  unfold heldE at h
  split at h
  · simp only [Option.some.injEq] at h
    exact ⟨⟨(_, _, _), rfl⟩, h.symm⟩
  · cases h

section
variable {P : Program} (w : World) {ops : Array Oper} {rest : List Oper} {o : Oper} {a : Act} {Q : Exit → Act → World → Prop}

theorem wpList_lookup_held (hg : o.guard = none) (m x : Operand) (t : TypeId) (hop : o.op = Op.lookup t m x true)
    (k e : TypeId) (K : Keyed P k) (ht : P.underlying t = some (.map k e)) {z : Value} (hz : (zeroValue e).run P w = .ok z w) (b n : Nat) (D : DataW Value)
    (hm : a.eval m = .map (some b)) (hown : w.ownsMap P k heldE b n D) (key : Value) (kl : Lit) (hx : a.eval x = key) (hkey : keyOf P k key = some kl)
    {h : Bool} {v : Value} (hzd : heldE z = some (.held z, [])) (hh : Maps.has D kl = h) (hv : D.atKey kl (.held z) = .held v)
    (hK : wpList P ops Q rest (a.put o.dst (.tuple #[v, .bool h])) w) :
    wpList P ops Q (o :: rest) a w :=
  wpList_lookup_own_ok w hg m x t hop k e K ht heldE hz (.held z) [] hzd b n D hm hown key kl hx hkey (fun v' ps hv' => by
    have e9 : v' = v := by
      rw [hv] at hv'
      have h9 := (heldE_inv hv').2
      simp only [Prod.mk.injEq, DataW.held.injEq] at h9
      exact h9.1.symm
    rw [e9, hh]
    exact hK)

theorem wpList_lookup_held1 (hg : o.guard = none) (m x : Operand) (t : TypeId) (hop : o.op = Op.lookup t m x false)
    (k e : TypeId) (K : Keyed P k) (ht : P.underlying t = some (.map k e)) {z : Value} (hz : (zeroValue e).run P w = .ok z w) (b n : Nat) (D : DataW Value)
    (hm : a.eval m = .map (some b)) (hown : w.ownsMap P k heldE b n D) (key : Value) (kl : Lit) (hx : a.eval x = key) (hkey : keyOf P k key = some kl)
    {v : Value} (hzd : heldE z = some (.held z, [])) (hv : D.atKey kl (.held z) = .held v)
    (hK : wpList P ops Q rest (a.put o.dst v) w) :
    wpList P ops Q (o :: rest) a w := by
  refine wpList_plain hg fun K' hK' => ?_
  obtain ⟨v', ps, hrun, hv'⟩ := hown.lookup K ht hz (zd := .held z) (zp := []) hzd hkey
  have e9 : v' = v := by
    rw [hv] at hv'
    have h9 := (heldE_inv hv').2
    simp only [Prod.mk.injEq, DataW.held.injEq] at h9
    exact h9.1.symm
  subst e9
  unfold Oper.wp
  simp [execOp, hop, hm, hx, hrun, Result.andThen]
  exact hK' _ _ hK
end

/-- A slice value. -/
def sl (q : Option Addr × Nat × Nat) : Value := .slice q.1 q.2.1 q.2.2

/-- The map of the first of several entries with one number. -/
def FirstD (ps : List (Int × (Option Addr × Nat × Nat))) (D : DataW Value) : Prop :=
  Tidy D ∧ ∀ x : Int, Maps.has D (.int .i64 x) = decide (placeIn (ps.map Prod.fst) x < ps.length) ∧ ∀ (h : placeIn (ps.map Prod.fst) x < ps.length) z, D.atKey (.int .i64 x) z = .held (sl ps[placeIn (ps.map Prod.fst) x].2)

theorem FirstD.start : FirstD [] (.map []) := ⟨tidy_empty, fun _ => ⟨rfl, fun h => by simp at h⟩⟩

theorem placeIn_cons (y : Int) (l : List Int) (x : Int) : placeIn (y :: l) x = if y = x then 0 else placeIn l x + 1 := by
  unfold placeIn
  rw [List.findIdx_cons]
  by_cases h : y = x
  · simp [h]
  · have : (y == x) = false := by simpa using h
    rw [this]; simp [h]

theorem FirstD.put {ps : List (Int × (Option Addr × Nat × Nat))} {D : DataW Value} (h : FirstD ps D) (p : Int × (Option Addr × Nat × Nat)) : FirstD (p :: ps) (D.put (.int .i64 p.1) (.held (sl p.2))) := by
  obtain ⟨h1, h2⟩ := h
  have hkl : ∀ z : Int, WideAt.IsKeyLit (.int .i64 z) := fun _ => trivial
  refine ⟨h1.put (hkl _) _, ?_⟩
  intro x
  by_cases hx : p.1 = x
  · subst hx
    have e : placeIn ((p :: ps).map Prod.fst) p.1 = 0 := by rw [List.map_cons, placeIn_cons, if_pos rfl]
    refine ⟨?_, ?_⟩
    · rw [has_put_same h1.isMap (hkl _), e]
      simp
    · intro h z
      rw [atKey_put_same h1.isMap (hkl _)]
      simp only [e, List.getElem_cons_zero]
  · have hne : (Lit.int .i64 x) ≠ (Lit.int .i64 p.1) := fun h => hx (by simpa using h.symm)
    have e : placeIn ((p :: ps).map Prod.fst) x = placeIn (ps.map Prod.fst) x + 1 := by rw [List.map_cons, placeIn_cons, if_neg hx]
    refine ⟨?_, ?_⟩
    · rw [has_put_other hne, (h2 x).1, e]
      simp
    · intro h z
      rw [atKey_put_other hne]
      simp only [e, List.getElem_cons_succ]
      exact (h2 x).2 (by simp only [e, List.length_cons] at h; omega) z

/-- Cells in pairs: a number, a slice. -/
def Prs (w : World) (ao : Option Addr) (ps : List (Int × (Option Addr × Nat × Nat))) : Prop :=
  ∀ i (h : i < ps.length), ∃ b o, ao = some ⟨b, o, none⟩ ∧ w.cell? ⟨b, o + i * 2, none⟩ = some (.int .i64 ps[i].1) ∧ w.cell? ⟨b, o + i * 2 + 1, none⟩ = some (.slice ps[i].2.1 ps[i].2.2.1 ps[i].2.2.2)

theorem Prs.but {S : Nat → Prop} {w w' : World} {ao : Option Addr} {ps : List (Int × (Option Addr × Nat × Nat))} (h : Prs w ao ps) (hb : But S w w') (hs : ∀ b o, ao = some ⟨b, o, none⟩ → 0 < ps.length → ¬ S b) : Prs w' ao ps := by
  intro i hi
  obtain ⟨b, o, e, h0, h1⟩ := h i hi
  exact ⟨b, o, e, (hb.cell (lt_of_cell h0) (hs b o e (by omega))).trans h0, (hb.cell (lt_of_cell h1) (hs b o e (by omega))).trans h1⟩

theorem Prs.below {w w' : World} {ao : Option Addr} {ps : List (Int × (Option Addr × Nat × Nat))} (h : Prs w ao ps) (hb : Below w.heap.size w w') : Prs w' ao ps := h.but (S := fun _ => False) (But.ofBelow hb) (fun _ _ _ _ h => h)

/-- What lies in a slice of Binds. -/
theorem Binds.prs {w : World} {ao : Option Addr} {bs : List (Int × List Nd)} (h : Binds w ao bs) : ∃ ps : List (Int × (Option Addr × Nat × Nat)), ps.length = bs.length ∧ ps.map Prod.fst = bs.map Prod.fst ∧ Prs w ao ps ∧
    ∀ i (hp : i < ps.length) (hb : i < bs.length), ps[i].2.2.1 = bs[i].2.length ∧ Nodes w ps[i].2.1 bs[i].2 := by
  have inh : Inhabited (Option Addr × Nat) := ⟨none, 0⟩
  obtain ⟨F, hF⟩ := Go.Deep.choose_lt (α := Option Addr × Nat) (n := bs.length) (p := fun i q => ∀ hb : i < bs.length, ∃ b o, ao = some ⟨b, o, none⟩ ∧ w.cell? ⟨b, o + i * 2, none⟩ = some (.int .i64 bs[i].1) ∧ w.cell? ⟨b, o + i * 2 + 1, none⟩ = some (.slice q.1 bs[i].2.length q.2) ∧ Nodes w q.1 bs[i].2) (fun i hi => by
    obtain ⟨b, o, ai, ci, e, h0, hc, hn⟩ := h i hi
    exact ⟨(ai, ci), fun _ => ⟨b, o, e, h0, hc, hn⟩⟩)
  have hget : ∀ i (hp : i < (bs.mapIdx fun i x => (x.1, ((F i).1, x.2.length, (F i).2))).length) (hb : i < bs.length), (bs.mapIdx fun i x => (x.1, ((F i).1, x.2.length, (F i).2)))[i] = (bs[i].1, ((F i).1, bs[i].2.length, (F i).2)) := by
    intro i hp hb
    simp
  refine ⟨bs.mapIdx fun i x => (x.1, ((F i).1, x.2.length, (F i).2)), by simp, ?_, ?_, ?_⟩
  · apply List.ext_getElem
    · simp
    · intro i h1 h2
      simp
  · intro i hi
    have hb : i < bs.length := by simpa using hi
    obtain ⟨b, o, e, h0, h1, _⟩ := hF i hb hb
    refine ⟨b, o, e, ?_, ?_⟩
    · rw [hget i hi hb]; exact h0
    · rw [hget i hi hb]; exact h1
  · intro i hp hb
    obtain ⟨b, o, e, h0, h1, hn⟩ := hF i hb hb
    rw [hget i hp hb]
    exact ⟨rfl, hn⟩

end Go.Proofs.YtdcnejhlmdkecaaGreatDoor

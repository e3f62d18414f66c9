import Derived.Test.YtemancdlnakkmaaGreatWBG
import Derived.Test.YtemancdlnakkmaaGreatWAC
import Derived.Deep.RegionLaw
import Derived.Deep.RegionWith
import Derived.Test.YtemancdlnakkmaaGreatLLs
namespace Go.Proofs.YtemancdlnakkmaaGreat
open Go.RowKit

theorem Tryz.infoPC : (Tryz.prog.info? 65).map (fun i => (i.zero, i.size, i.bytes)) = some (some (.pointer none), 1, 8) := by kernel_rfl
def ptrK (bs : List Nat) : List Value := bs.map fun b => .pointer (some ⟨b, 0, none⟩)
theorem ptrK_one (bs : List Nat) : ∀ u ∈ ptrK bs, u.oneCell' = true := by
  intro u hu
  obtain ⟨b, _, rfl⟩ := List.mem_map.1 hu
  rfl
theorem addK (g f j : Nat) : Addr.add ⟨g, f, none⟩ j = ⟨g, f + j, none⟩ := by
  unfold Addr.add
  split
  · simp_all
  · rfl
theorem ownsK_tag {w : World} {base : Nat} {e : TypeId} {size g n cap : Nat} {xs : List Value} (h : w.ownsRow base e size (.slice (some ⟨g, 0, none⟩) n cap) n xs) : n ≤ cap := by
  rcases h.2 with ⟨h', _⟩ | ⟨g2, cap2, cur, he, hb, hh, hnc, _⟩
  · cases h'
  · simp only [Value.slice.injEq, Option.some.injEq, Addr.mk.injEq, and_true, true_and] at he
    obtain ⟨rfl, rfl⟩ := he
    exact hnc
set_option maxHeartbeats 400000 in
theorem cloneK_any (bs : List Nat) (m : Nat) (HM : Hid (bs.length = m)) (hm : m ≤ 1048576) (ad : Addr) (cap : Nat) (w : World) (hx : ∀ j u, (ptrK bs)[j]? = some u → w.cell? (ad.add j) = some u) :
    Calls Tryz.prog 59 #[.slice (some ad) m cap] w fun e w' => ∃ g c cur, e = .returned (.slice (some ⟨g, 0, none⟩) m c) ∧ w.heap.size ≤ g ∧ w'.heap[g]? = some (.cells cur 65 (0, 0)) ∧ (∀ i (h : i < bs.length), cur[i]? = some (.pointer (some ⟨bs[i], 0, none⟩))) ∧ Below w.heap.size w w' ∧ m ≤ c := by
  obtain ⟨i0, hi, hz0, hz1, hz2⟩ := info_parts Tryz.infoPC
  have hO : (w.alloc (.cells #[] 65)).ownsRow w.heap.size 65 1 (.slice (some ⟨w.heap.size, 0, none⟩) 0 0) 0 [] := ⟨rfl, Or.inr ⟨_, 0, #[], rfl, Nat.le_refl _, heap_alloc_new _ _, Nat.le_refl _, by simp [maxLen], rfl, rfl⟩⟩
  have hnil : ∀ (w : World), (binOp .eql 84 (.slice (some ad) m cap) (.slice none 0 0)).run Tryz.prog w = .ok (.bool false) w := fun w => Lib.run_eql_slice_nil w _ _ (some ad) m cap 0 0 Tryz.underlying84
  have hn : ∀ j u, (ptrK bs)[j]? = some u → (w.alloc (.cells #[] 65)).cell? (ad.add j) = some u := by
    intro j u hj
    have h9 := hx j u hj
    have hl : (ad.add j).block < w.heap.size := by
      rcases h8 : ad.add j with ⟨b, o, sp⟩
      rw [h8] at h9
      have hsp : sp = none := World.cell?_spot h9
      subst hsp
      exact lt_of_cell h9
    rw [← h9]
    exact ((Below.refl w.heap.size w).alloc (Nat.le_refl _) _).cell hl
  go_enter Tryz.func59, Tryz.ntmps59
  clear hx
  go_wp2_with (at_builtin; refine wpList_append2 _ rfl (.tmp 5) (.tmp 6) 84 rfl w.heap.size 65 i0 _ 1 8 Tryz.underlying84 hi hz0 hz1 hz2 rfl (by decide) w.heap.size 0 0 _ rfl hO ad m cap (ptrK bs) rfl ?a1 hn (ptrK_one bs) ?a3 ?a4 ?a5 ?_)
  case a1 => rw [ptrK, List.length_map, HM.out]; omega
  case a3 => unfold maxLen; omega
  case a4 => omega
  case a5 => simp
  intro g2 c2 w2 hown2 hgrow2 hwh
  have hbb : Below w.heap.size w w2 := ((Below.refl _ w).alloc (Nat.le_refl _) _).grown hgrow2 (by simp) (fun q hq => by cases hq; exact Nat.le_refl _)
  have hfin : w.heap.size ≤ g2 ∧ m ≤ c2 ∧ ∃ cur, w2.heap[g2]? = some (.cells cur 65 (0, 0)) ∧ ∀ i (h : i < bs.length), cur[i]? = some (.pointer (some ⟨bs[i], 0, none⟩)) := by
    rcases hown2.2 with ⟨h', _⟩ | ⟨g3, cap3, cur, he, hb, hh, hnc, _, _, htake⟩
    · cases h'
    · simp only [Value.slice.injEq, Option.some.injEq, Addr.mk.injEq, and_true, true_and] at he
      obtain ⟨rfl, rfl⟩ := he
      refine ⟨hb, by omega, cur, hh, fun i hi => ?_⟩
      have e9 : (cur.toList.take (m * 1))[i]? = some (.pointer (some ⟨bs[i], 0, none⟩)) := by
        rw [htake]
        simp [ptrK, hi]
      rw [List.getElem?_take_of_lt (by have := HM.out; omega)] at e9
      simpa using e9
  clear hown2 hgrow2 hwh hO hn
  obtain ⟨hg, hmc, cur, hcur, hall⟩ := hfin
  have HC : Hid (∀ i (h : i < bs.length), cur[i]? = some (.pointer (some ⟨bs[i], 0, none⟩))) := hall
  clear hall
  go_wp2
  go_ret
  exact ⟨_, _, cur, rfl, hg, hcur, HC.out, hbb, hmc⟩
def NewK (w : World) (nd : Nd) (bs : List Nat) (b : Nat) (w' : World) : Prop :=
  ∃ g c cur, w.heap.size ≤ b ∧ w.heap.size ≤ g ∧ w'.heap[b]? = some (.cells #[.int .i64 nd.kind, .int .i64 nd.num, .string nd.text, .int .i64 nd.kids, .int .i64 nd.place, .slice (some ⟨g, 0, none⟩) bs.length c, .int .i64 0, .int .i64 0, .bool false] 88 (0, 0)) ∧ w'.heap[g]? = some (.cells cur 65 (0, 0)) ∧ (∀ j (h : j < bs.length), cur[j]? = some (.pointer (some ⟨bs[j], 0, none⟩))) ∧ bs.length ≤ c ∧ Below w.heap.size w w'
set_option maxRecDepth 20000 in
set_option maxHeartbeats 4000000 in
theorem treeOf1_any (w : World) (nd : Nd) (bs : List Nat) (m c : Nat) (HM : Hid (bs.length = m)) (hm : m ≤ 60000) (ad : Addr) (hx : ∀ j u, (ptrK bs)[j]? = some u → w.cell? (ad.add j) = some u) :
    Calls Tryz.prog 58 #[.agg #[.int .i64 nd.kind, .int .i64 nd.num, .string nd.text, .int .i64 nd.kids, .int .i64 nd.place], .slice (some ad) m c] w fun e w' => ∃ b, e = .returned (.pointer (some ⟨b, 0, none⟩)) ∧ NewK w nd bs b w' := by
  have hbA : Below w.heap.size w (w.alloc (.cells #[.int .i64 nd.kind, .int .i64 nd.num, .string nd.text, .int .i64 nd.kids, .int .i64 nd.place] 34)) := (Below.refl _ w).alloc (Nat.le_refl _) _
  have hxA : ∀ j u, (ptrK bs)[j]? = some u → (w.alloc (.cells #[.int .i64 nd.kind, .int .i64 nd.num, .string nd.text, .int .i64 nd.kids, .int .i64 nd.place] 34)).drew.cell? (ad.add j) = some u := by
    intro j u hj
    have h9 := hx j u hj
    have hl : (ad.add j).block < w.heap.size := by
      rcases h8 : ad.add j with ⟨b, o, sp⟩
      rw [h8] at h9
      have hsp : sp = none := World.cell?_spot h9
      subst hsp
      exact lt_of_cell h9
    rw [← h9]
    exact hbA.drew.cell hl
  have HCL := cloneK_any bs m HM (by omega) ad c _ hxA
  have k0 : (w.alloc (.cells #[.int .i64 nd.kind, .int .i64 nd.num, .string nd.text, .int .i64 nd.kids, .int .i64 nd.place] 34)).heap[w.heap.size]? = some (.cells #[.int .i64 nd.kind, .int .i64 nd.num, .string nd.text, .int .i64 nd.kids, .int .i64 nd.place] 34 (0, 0)) := heap_alloc_new _ _
  have hzA : (w.alloc (.cells #[.int .i64 nd.kind, .int .i64 nd.num, .string nd.text, .int .i64 nd.kids, .int .i64 nd.place] 34)).drew.heap.size = w.heap.size + 1 := World.size_alloc _ _
  have HL : Hid (∀ W, Below (w.alloc (.cells #[.int .i64 nd.kind, .int .i64 nd.num, .string nd.text, .int .i64 nd.kids, .int .i64 nd.place] 34)).drew.heap.size (w.alloc (.cells #[.int .i64 nd.kind, .int .i64 nd.num, .string nd.text, .int .i64 nd.kids, .int .i64 nd.place] 34)).drew W → W.cell? ⟨w.heap.size, 0, none⟩ = some (.int .i64 nd.kind) ∧ W.cell? ⟨w.heap.size, 1, none⟩ = some (.int .i64 nd.num) ∧ W.cell? ⟨w.heap.size, 2, none⟩ = some (.string nd.text) ∧ W.cell? ⟨w.heap.size, 3, none⟩ = some (.int .i64 nd.kids) ∧ W.cell? ⟨w.heap.size, 4, none⟩ = some (.int .i64 nd.place)) := by
    intro W hb
    have h9 := (hb.block w.heap.size (by omega)).trans k0
    refine ⟨?_, ?_, ?_, ?_, ?_⟩
    all_goals
      rw [cell_of_row _ _ _ _ 34 (0, 0) h9]
      rfl
  have HBD : Hid (Below w.heap.size w (w.alloc (.cells #[.int .i64 nd.kind, .int .i64 nd.num, .string nd.text, .int .i64 nd.kids, .int .i64 nd.place] 34)).drew) := hbA.drew
  have HZ : Hid ((w.alloc (.cells #[.int .i64 nd.kind, .int .i64 nd.num, .string nd.text, .int .i64 nd.kids, .int .i64 nd.place] 34)).drew.heap.size = w.heap.size + 1) := hzA
  clear hx hxA hbA
  go_enter Tryz.func58, Tryz.ntmps58
  go_wp2_with fail
  go_region_with (go_at_call 59; refine HCL.mono ?_; rintro e w2 ⟨g, c2, cur, rfl, hg, hcur, hall, hb2, hmc2⟩; obtain ⟨c0, c1, cc2, c3, c4⟩ := HL.out w2 hb2)
  all_goals
    have HT : Hid (NewK w nd bs w2.heap.size (w2.alloc (.cells #[.int .i64 nd.kind, .int .i64 nd.num, .string nd.text, .int .i64 nd.kids, .int .i64 nd.place, .slice (some ⟨g, 0, none⟩) m c2, .int .i64 0, .int .i64 0, .bool false] 88))) := by
      have hbb := Below.step HBD.out hb2
      have h9 := HZ.out
      have hg2 := (Array.getElem?_eq_some_iff.1 hcur).1
      refine ⟨g, c2, cur, hbb.size, by omega, ?_, ?_, hall, by have := HM.out; omega, hbb.alloc hbb.size _⟩
      · rw [HM.out]; exact heap_alloc_new _ _
      · exact (((Below.refl _ w2).alloc (Nat.le_refl _) _).block g hg2).trans hcur
    clear HBD HL HCL hcur hall hb2 c0 c1 cc2 c3 c4 hzA k0
    simp only [Act.put, List.getElem_toArray, List.getElem_cons_succ, List.getElem_cons_zero, List.setIfInBounds_toArray, List.set_cons_zero, List.set_cons_succ]
    go_wp2
    go_ret
    exact ⟨_, rfl, HT.out⟩
theorem Tryz.infoB4 : (Tryz.prog.info? 4).map (fun i => (i.zero, i.size, i.bytes)) = some (some (.bool false), 1, 1) := by kernel_rfl
theorem made_ints1 (n : Nat) : ∀ j, j < n → (madeCells #[.int .i64 0] n)[j]? = some (.int .i64 0) := by
  intro j hj
  simp [madeCells, hj, Nat.mod_one]
theorem made_bools1 (n : Nat) : ∀ j, j < n → (madeCells #[.bool false] n)[j]? = some (.bool false) := by
  intro j hj
  simp [madeCells, hj, Nat.mod_one]
theorem mkInts (n : Nat) (hn : n = 200001) : ∃ c : Array Value, c.size = n ∧ (∀ j, j < n → c[j]? = some (.int .i64 0)) ∧ ∀ w : World, (Instr.makeSlice 38 (.int .i64 (n : Int)) (.int .i64 (n : Int))).run Tryz.prog w = .ok (.slice (some ⟨w.heap.size, 0, none⟩) n n) (w.alloc (.cells c 3)) := by
  obtain ⟨i, hi, hzz⟩ := Option.map_eq_some_iff.1 Tryz.infoI
  simp only [Prod.mk.injEq] at hzz
  obtain ⟨hz, hs, hb⟩ := hzz
  refine ⟨madeCells #[.int .i64 0] n, by simp [madeCells], made_ints1 n, fun w => ?_⟩
  have hr := run_make (P := Tryz.prog) w 38 3 i _ Tryz.underlying38 hi hz .i64 .i64 n n (by omega) (by omega) (by rw [hb]; omega) (by omega)
  simp only [Int.toNat_natCast, hs, Nat.mul_one] at hr
  exact hr
theorem mkBools (n : Nat) (hn : n = 200001) : ∃ c : Array Value, c.size = n ∧ (∀ j, j < n → c[j]? = some (.bool false)) ∧ ∀ w : World, (Instr.makeSlice 46 (.int .i64 (n : Int)) (.int .i64 (n : Int))).run Tryz.prog w = .ok (.slice (some ⟨w.heap.size, 0, none⟩) n n) (w.alloc (.cells c 4)) := by
  obtain ⟨i, hi, hzz⟩ := Option.map_eq_some_iff.1 Tryz.infoB4
  simp only [Prod.mk.injEq] at hzz
  obtain ⟨hz, hs, hb⟩ := hzz
  refine ⟨madeCells #[.bool false] n, by simp [madeCells], made_bools1 n, fun w => ?_⟩
  have hr := run_make (P := Tryz.prog) w 46 4 i _ Tryz.underlying46 hi hz .i64 .i64 n n (by omega) (by omega) (by rw [hb]; omega) (by omega)
  simp only [Int.toNat_natCast, hs, Nat.mul_one] at hr
  exact hr
theorem mkTrees (n : Nat) (hn : n = 200001) : ∃ c : Array Value, c.size = n * 7 ∧ ∀ w : World, (Instr.makeSlice 45 (.int .i64 (n : Int)) (.int .i64 (n : Int))).run Tryz.prog w = .ok (.slice (some ⟨w.heap.size, 0, none⟩) n n) (w.alloc (.cells c 51)) := by
  obtain ⟨i, hi, hzz⟩ := Option.map_eq_some_iff.1 Tryz.infoT14
  simp only [Prod.mk.injEq] at hzz
  obtain ⟨hz, hs, hb⟩ := hzz
  refine ⟨madeCells #[.int .i64 0, .int .i64 0, .string ByteArray.empty, .int .i64 0, .int .i64 0, .slice none 0 0, .bool false] (n * 7), by simp [madeCells], fun w => ?_⟩
  have hr := run_make (P := Tryz.prog) w 45 51 i _ Tryz.underlying45 hi hz .i64 .i64 n n (by omega) (by omega) (by rw [hb]; omega) (by omega)
  simp only [Int.toNat_natCast, hs] at hr
  exact hr
structure Mk (w0 : World) (K : Nat → World → Nat → Prop) (B : Nat → Option Nat) (w : World) : Prop where
  below : Below w0.heap.size w0 w
  lt : ∀ i a, B i = some a → w0.heap.size ≤ a ∧ a < w.heap.size
  ne : ∀ i j a, i ≠ j → B i = some a → B j ≠ some a
  k : ∀ i a, B i = some a → K i w a
theorem Mk.add {w0 w w' : World} {K K' : Nat → World → Nat → Prop} {B B' : Nat → Option Nat} (h : Mk w0 K B w) (i a : Nat) (hb : Below w.heap.size w w') (ha : w.heap.size ≤ a) (ha' : a < w'.heap.size) (hk : K' i w' a)
    (hst : ∀ j b, j ≠ i → K j w b → b < w.heap.size → K' j w' b) (hB : B' i = some a) (hB2 : ∀ j, j ≠ i → B' j = B j) : Mk w0 K' B' w' := by
  have hs := h.below.size
  refine ⟨Below.step h.below hb, fun j b hj => ?_, fun j l b hjl hj hl => ?_, fun j b hj => ?_⟩
  · by_cases e : j = i
    · subst e
      rw [hB] at hj
      cases hj
      omega
    · rw [hB2 j e] at hj
      have := h.lt j b hj
      have := hb.size
      omega
  · by_cases e : j = i
    · subst e
      rw [hB] at hj
      cases hj
      rw [hB2 l (fun e => hjl e.symm)] at hl
      have := h.lt l a hl
      omega
    · rw [hB2 j e] at hj
      by_cases e2 : l = i
      · subst e2
        rw [hB] at hl
        cases hl
        have := h.lt j a hj
        omega
      · rw [hB2 l e2] at hl
        exact h.ne j l b hjl hj hl
  · by_cases e : j = i
    · subst e
      rw [hB] at hj
      cases hj
      exact hk
    · rw [hB2 j e] at hj
      exact hst j b e (h.k j b hj) (h.lt j b hj).2
def six (b2 b3 b4 b5 b6 b8 : Option Nat) (j : Nat) : Option Nat := if j = 2 then b2 else if j = 3 then b3 else if j = 4 then b4 else if j = 5 then b5 else if j = 6 then b6 else if j = 8 then b8 else none
def mkV (n c : Nat) : Option Nat → Value
  | none => undef
  | some a => .slice (some ⟨a, 0, none⟩) n c
def mkP : Option Nat → Value
  | none => undef
  | some a => .pointer (some ⟨a, 0, none⟩)
def cntN (b : Option Nat) : Nat := if b.isSome then 0 else 1
def PK (m : Nat) (szs : List Int) (ci ct cb : Array Value) (cz : Nat) (xs : Array Value) (j : Nat) (w : World) (a : Nat) : Prop :=
  if j = 2 then ∃ Bz, Ints w Bz a cz m szs
  else if j = 3 ∨ j = 4 then w.heap[a]? = some (.cells ci 3 (0, 0))
  else if j = 5 then w.heap[a]? = some (.cells ct 51 (0, 0))
  else if j = 6 then w.heap[a]? = some (.cells cb 4 (0, 0))
  else w.heap[a]? = some (.cells xs 48 (0, 0))
theorem PK.keep {m : Nat} {szs : List Int} {ci ct cb xs : Array Value} {cz cz' : Nat} {w w' : World} {j b : Nat} (h : PK m szs ci ct cb cz xs j w b) (hb : Below w.heap.size w w') (hl : b < w.heap.size) (hj : j ≠ 2 ∨ cz = cz') : PK m szs ci ct cb cz' xs j w' b := by
  unfold PK at h ⊢
  have h9 := hb.block b hl
  by_cases e2 : j = 2
  · rw [if_pos e2] at h ⊢
    obtain ⟨Bz, h1⟩ := h
    have : cz = cz' := by rcases hj with h | h; exact absurd e2 h; exact h
    subst this
    exact ⟨Bz, h1.below hb⟩
  · rw [if_neg e2] at h ⊢
    split
    · next h3 => rw [if_pos h3] at h; exact h9.trans h
    · next h3 =>
      rw [if_neg h3] at h
      split
      · next h5 => rw [if_pos h5] at h; exact h9.trans h
      · next h5 =>
        rw [if_neg h5] at h
        split
        · next h6 => rw [if_pos h6] at h; exact h9.trans h
        · next h6 => rw [if_neg h6] at h; exact h9.trans h
theorem PK.turn {m : Nat} {szs : List Int} {ci ct cb xs xs' : Array Value} {cz : Nat} {w w' : World} {j b g : Nat} (h : PK m szs ci ct cb cz xs j w b) (hb : But (· = g) w w') (hg : b ≠ g) (hl : b < w.heap.size) (h8 : j ≠ 8) (hj : j = 2 ∨ j = 3 ∨ j = 4 ∨ j = 5 ∨ j = 6 ∨ j = 8) : PK m szs ci ct cb cz xs' j w' b := by
  unfold PK at h ⊢
  have h9 := hb.block b hl hg
  rcases hj with rfl | rfl | rfl | rfl | rfl | rfl
  · rw [if_pos rfl] at h ⊢
    obtain ⟨Bz, h1⟩ := h
    exact ⟨Bz, h1.butL hb hg⟩
  · rw [if_neg (by decide), if_pos (by decide)] at h ⊢
    exact h9.trans h
  · rw [if_neg (by decide), if_pos (by decide)] at h ⊢
    exact h9.trans h
  · rw [if_neg (by decide), if_neg (by decide), if_pos (by decide)] at h ⊢
    exact h9.trans h
  · rw [if_neg (by decide), if_neg (by decide), if_neg (by decide), if_pos (by decide)] at h ⊢
    exact h9.trans h
  · exact absurd rfl h8
theorem But.ofHead {w0 a b : World} {g : Nat} (k : But (· = g) a b) (h : Below w0.heap.size w0 a) (hg : w0.heap.size ≤ g) : Below w0.heap.size w0 b :=
  ⟨k.os.trans h.os, k.tape.trans h.tape, k.output.trans h.output, Nat.le_trans h.size k.size, fun i hi => (k.block i (Nat.lt_of_lt_of_le hi h.size) (by omega)).trans (h.block i hi)⟩
theorem set6 {w : World} {g t : Nat} {x0 x1 x2 x3 x4 x5 : Value} (h : w.heap[g]? = some (.cells #[x0, x1, x2, x3, x4, x5] t (0, 0))) (a0 a1 a2 a3 a4 a5 : Value) :
    ((((((w.setCell ⟨g, 0, none⟩ a0).setCell ⟨g, 1, none⟩ a1).setCell ⟨g, 2, none⟩ a2).setCell ⟨g, 3, none⟩ a3).setCell ⟨g, 4, none⟩ a4).setCell ⟨g, 5, none⟩ a5).heap[g]? = some (.cells #[a0, a1, a2, a3, a4, a5] t (0, 0)) := by
  rw [heap_setCell_same _ _ _ _ _ _ (heap_setCell_same _ _ _ _ _ _ (heap_setCell_same _ _ _ _ _ _ (heap_setCell_same _ _ _ _ _ _ (heap_setCell_same _ _ _ _ _ _ (heap_setCell_same _ _ _ _ _ _ h)))))]
  rfl
theorem set6_but {w : World} {g : Nat} (a0 a1 a2 a3 a4 a5 : Value) :
    But (· = g) w ((((((w.setCell ⟨g, 0, none⟩ a0).setCell ⟨g, 1, none⟩ a1).setCell ⟨g, 2, none⟩ a2).setCell ⟨g, 3, none⟩ a3).setCell ⟨g, 4, none⟩ a4).setCell ⟨g, 5, none⟩ a5) :=
  ((((((But.refl (· = g) w).setCell (p := ⟨g, 0, none⟩) rfl _).setCell (p := ⟨g, 1, none⟩) rfl _).setCell (p := ⟨g, 2, none⟩) rfl _).setCell (p := ⟨g, 3, none⟩) rfl _).setCell (p := ⟨g, 4, none⟩) rfl _).setCell (p := ⟨g, 5, none⟩) rfl _
theorem six_mem {b2 b3 b4 b5 b6 b8 : Option Nat} {i a : Nat} (h : six b2 b3 b4 b5 b6 b8 i = some a) : i = 2 ∨ i = 3 ∨ i = 4 ∨ i = 5 ∨ i = 6 ∨ i = 8 := by
  by_cases e : i = 2 ∨ i = 3 ∨ i = 4 ∨ i = 5 ∨ i = 6 ∨ i = 8
  · exact e
  · exfalso
    unfold six at h
    rw [if_neg (by omega), if_neg (by omega), if_neg (by omega), if_neg (by omega), if_neg (by omega), if_neg (by omega)] at h
    cases h
def bndK (k : Int) : Bool := k == 76 || k == 80 || k == 82 || k == 90 || k == 91
def cntK (p : Int → Bool) (t : List Nd) (x : Int) : Nat := if 1 ≤ x then (t.filter fun n => p n.kind && n.num == x).length else 0
theorem cntK_push (p : Int → Bool) (t : List Nd) (n : Nd) (x : Int) : cntK p (t ++ [n]) x = cntK p t x + (if 1 ≤ x ∧ p n.kind = true ∧ n.num = x then 1 else 0) := by
  unfold cntK
  by_cases h : 1 ≤ x
  · rw [if_pos h, if_pos h, List.filter_append, List.length_append]
    by_cases h2 : p n.kind = true ∧ n.num = x
    · rw [if_pos ⟨h, h2⟩]
      simp [h2.1, h2.2]
    · rw [if_neg (fun h9 => h2 h9.2)]
      have : (p n.kind && n.num == x) = false := by
        rw [Bool.eq_false_iff]
        intro h9
        simp at h9
        exact h2 h9
      simp [this]
  · rw [if_neg h, if_neg h, if_neg (fun h9 => h h9.1)]
theorem cntK_skip {p : Int → Bool} (t : List Nd) (n : Nd) (h : n.num < 1 ∨ p n.kind = false) : cntK p (t ++ [n]) = cntK p t := by
  funext x
  rw [cntK_push, if_neg]
  · rfl
  · rintro ⟨h1, h2, h3⟩
    rcases h with h | h
    · omega
    · rw [h] at h2; cases h2
def RowC (w : World) (b : Nat) (f : Int → Nat) : Prop := ∃ cur : Array Value, w.heap[b]? = some (.cells cur 3 (0, 0)) ∧ cur.size = 200001 ∧ ∀ n : Nat, n ≤ 200000 → cur[n]? = some (.int .i64 (f (n : Int) : Int))
theorem RowC.start {w : World} {b : Nat} {c : Array Value} {p : Int → Bool} {t : List Nd} (h : w.heap[b]? = some (.cells c 3 (0, 0))) (hs : c.size = 200001) (hc : ∀ j, j < 200001 → c[j]? = some (.int .i64 0)) : RowC w b (cntK p (t.take 0)) := by
  refine ⟨c, h, hs, fun n hn => ?_⟩
  rw [hc n (by omega)]
  simp [cntK]
theorem RowC.but {S : Nat → Prop} {w w' : World} {b : Nat} {f : Int → Nat} (h : RowC w b f) (hb : But S w w') (hg : ¬ S b) : RowC w' b f := by
  obtain ⟨c, h1, h2, h3⟩ := h
  exact ⟨c, (hb.block b (Array.getElem?_eq_some_iff.1 h1).1 hg).trans h1, h2, h3⟩
theorem RowC.frozen {w : World} {b : Nat} {f : Int → Nat} (h : RowC w b f) (x : Nat) : w.frozen? ⟨b, x, none⟩ = false := by
  obtain ⟨c, h1, -⟩ := h
  exact frozen_of_row _ _ _ _ _ h1
theorem RowC.cell {w : World} {b : Nat} {f : Int → Nat} (h : RowC w b f) (x : Nat) (hx : x ≤ 200000) : w.cell? ⟨b, x, none⟩ = some (.int .i64 (f (x : Int) : Int)) := by
  obtain ⟨c, h1, h2, h3⟩ := h
  rw [cell_of_row _ _ _ _ _ _ h1]
  exact h3 x hx
theorem RowC.far {w : World} {b : Nat} {p : Int → Bool} {t : List Nd} (h : RowC w b (cntK p t)) (t' : List Nd) (n : Nd) (hn : n.num > 200000) (ht : t' = t) : RowC w b (cntK p (t' ++ [n])) := by
  subst ht
  obtain ⟨c, h1, h2, h3⟩ := h
  refine ⟨c, h1, h2, fun x hx => ?_⟩
  rw [h3 x hx, cntK_push, if_neg (by omega)]
  rfl
theorem RowC.inc {w : World} {b : Nat} {p : Int → Bool} {t : List Nd} (h : RowC w b (cntK p t)) (n : Nd) (x : Nat) (hx : x ≤ 200000) (h1 : 1 ≤ x) (hn : n.num = (x : Int)) (hp : p n.kind = true) : RowC (w.setCell ⟨b, x, none⟩ (.int .i64 ((cntK p t (x : Int) : Int) + 1))) b (cntK p (t ++ [n])) := by
  obtain ⟨c, r1, r2, r3⟩ := h
  refine ⟨_, heap_setCell_same _ _ _ _ _ _ r1, by simp [r2], fun y hy => ?_⟩
  rw [Array.getElem?_setIfInBounds, cntK_push]
  by_cases e : x = y
  · subst e
    rw [if_pos rfl, if_pos (by omega), if_pos ⟨by omega, hp, hn⟩]
    rfl
  · rw [if_neg e, r3 y hy, if_neg (by omega)]
    rfl
theorem RowC.cnt {w : World} {b c : Nat} {f : Int → Nat} (h : RowC w b f) : CntS w (some ⟨b, 0, none⟩, 200001, c) f := ⟨b, rfl, rfl, fun n hn => h.cell n hn⟩
theorem cntK_le (p : Int → Bool) (t : List Nd) (x : Int) : cntK p t x ≤ t.length := by
  unfold cntK
  split
  · exact List.length_filter_le _ _
  · omega
theorem But.drewL {S : Nat → Prop} {a b : World} (h : But S a b) : But S a b.drew := ⟨h.os, h.tape, h.output, h.size, h.block⟩
theorem bnd_kinds {k : Int} (h : bndK k = true) : k = 76 ∨ k = 80 ∨ k = 82 ∨ k = 90 ∨ k = 91 := by
  simp [bndK] at h
  omega
theorem bnd_none {k : Int} (h : bndK k = false) : (k == 76) = false ∧ (k == 80) = false ∧ (k == 82) = false ∧ (k == 90) = false ∧ (k == 91) = false := by
  simp [bndK] at h
  simp
  omega
end Go.Proofs.YtemancdlnakkmaaGreat

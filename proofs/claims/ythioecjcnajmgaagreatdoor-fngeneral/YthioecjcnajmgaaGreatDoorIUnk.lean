import Derived.Test.YthioecjcnajmgaaGreatDoorWBF
import Derived.Test.YthioecjcnajmgaaGreatDoorWBN
import Derived.Test.YthioecjcnajmgaaGreatDoorWBT
import Derived.Sort.OwnSortedInts
namespace Go.Proofs.YthioecjcnajmgaaGreatDoor

open Go.RowKit Go.Sort Go.Lib

/-- The numbers of the unknowns, in their order. -/
def metaNums (t : List Nd) : List Int := (t.filter (fun n => n.kind == 61)).map Nd.num

theorem metaNums_take (t : List Nd) (k : Nat) (h : k < t.length) : metaNums (t.take (k + 1)) = if t[k].kind = 61 then metaNums (t.take k) ++ [t[k].num] else metaNums (t.take k) := by
  unfold metaNums
  rw [List.take_succ_eq_append_getElem h, List.filter_append, List.map_append]
  by_cases h1 : t[k].kind = 61
  · simp [h1]
  · simp [h1]

theorem metaNums_len (t : List Nd) : (metaNums t).length ≤ t.length := by
  unfold metaNums
  rw [List.length_map]
  exact List.length_filter_le _ _

theorem metaNums_mem (t : List Nd) (x : Int) : x ∈ metaNums t ↔ ∃ n ∈ t, n.kind = 61 ∧ n.num = x := by
  simp only [metaNums, List.mem_map, List.mem_filter, beq_iff_eq, and_assoc]

theorem compact_facts (d : Array Int) (hs : ∀ i j, i ≤ j → j < d.size → d[i]! ≤ d[j]!) (m : Nat) (hm : m ≤ d.size) :
    (compactUpTo d m).Pairwise (· < ·) ∧ (∀ x, x ∈ compactUpTo d m ↔ ∃ j, j < m ∧ d[j]! = x) ∧ (compactUpTo d m).length ≤ m := by
  induction m with
  | zero => simp [compactUpTo]
  | succ m ih =>
    obtain ⟨h1, h2, h3⟩ := ih (by omega)
    rw [compactUpTo_succ]
    by_cases hk : keeps d m = true
    · rw [if_pos hk]
      refine ⟨?_, ?_, by simp; omega⟩
      · rw [List.pairwise_append]
        refine ⟨h1, by simp, ?_⟩
        intro x hx y hy
        simp only [List.mem_singleton] at hy
        subst hy
        obtain ⟨j, hj, rfl⟩ := (h2 x).1 hx
        have hne : d[m]! ≠ d[m - 1]! := by
          simp only [keeps, decide_eq_true_eq] at hk
          rcases hk with h | h
          · omega
          · exact h
        have a1 := hs j (m - 1) (by omega) (by omega)
        have a2 := hs (m - 1) m (by omega) (by omega)
        omega
      · intro x
        rw [List.mem_append, h2 x, List.mem_singleton]
        constructor
        · rintro (⟨j, hj, e⟩ | e)
          · exact ⟨j, by omega, e⟩
          · exact ⟨m, by omega, e.symm⟩
        · rintro ⟨j, hj, e⟩
          by_cases hjm : j = m
          · subst hjm; exact Or.inr e.symm
          · exact Or.inl ⟨j, by omega, e⟩
    · rw [if_neg hk]
      have hk2 : m ≠ 0 ∧ d[m]! = d[m - 1]! := by
        simp only [keeps, decide_eq_true_eq, not_or, Classical.not_not] at hk
        exact hk
      refine ⟨by simpa using h1, ?_, by simp; omega⟩
      intro x
      rw [List.append_nil, h2 x]
      constructor
      · rintro ⟨j, hj, e⟩
        exact ⟨j, by omega, e⟩
      · rintro ⟨j, hj, e⟩
        by_cases hjm : j = m
        · subst hjm; exact ⟨j - 1, by omega, by rw [← hk2.2]; exact e⟩
        · exact ⟨j, by omega, e⟩

theorem unk_same (t : List Nd) (ht : typeb t = true) : compactUpTo (((metaNums t).mergeSort fun x y => decide (x ≤ y)).toArray) (((metaNums t).mergeSort fun x y => decide (x ≤ y)).toArray).size = unkOf t := by
  obtain ⟨u1, u2⟩ := unkOf_facts t ht
  have hp : ((metaNums t).mergeSort fun x y => decide (x ≤ y)).Pairwise (· ≤ ·) := by
    have := List.pairwise_mergeSort (le := fun x y : Int => decide (x ≤ y)) (fun a b c h1 h2 => by simp at *; omega) (fun a b => by simp; omega) (metaNums t)
    simpa using this
  have hm : ∀ x, x ∈ ((metaNums t).mergeSort fun x y => decide (x ≤ y)) ↔ x ∈ metaNums t := fun x => (List.mergeSort_perm _ _).mem_iff
  generalize (metaNums t).mergeSort (fun x y => decide (x ≤ y)) = L at hp hm
  have hget : ∀ i (h : i < L.length), L.toArray[i]! = L[i] := by
    intro i h
    simp [h]
  obtain ⟨c1, c2, _⟩ := compact_facts L.toArray (by
    intro i j hij hj
    have hj' : j < L.length := by simpa using hj
    rw [hget i (by omega), hget j hj']
    by_cases h : i = j
    · subst h; exact Int.le_refl _
    · exact (List.pairwise_iff_getElem.1 hp) i j (by omega) hj' (by omega)) L.toArray.size (Nat.le_refl _)
  refine rising_same c1 u1 ?_
  intro x
  rw [c2 x, u2 x, ← metaNums_mem, ← hm x]
  constructor
  · rintro ⟨j, hj, rfl⟩
    have hj' : j < L.length := by simpa using hj
    rw [hget j hj']
    exact List.getElem_mem hj'
  · intro hx
    obtain ⟨j, hj, e⟩ := List.getElem_of_mem hx
    exact ⟨j, by simpa using hj, by rw [hget j hj]; exact e⟩

theorem LRow.holds {w : World} {g : Nat} {xs : List Int} (h : LRow w g xs) : Go.Sort.Holds (Value.int .i64) w g 0 xs.toArray := by
  intro j hj
  have hj' : j < xs.length := by simpa using hj
  rw [Nat.zero_add]
  refine ⟨?_, h.frozen j⟩
  rw [h.at j hj']
  simp [hj']

/-- A row of int64s, written anew over its length. -/
theorem LRow.sorted {w : World} {g q : Nat} {os : Array Obj} {xs ys : List Int} (h : LRow w g xs) (hl : ys.length = xs.length) : LRow (grow (putRow (Value.int .i64) (Sort.ahead w q) g 0 ys.toArray) os) g ys := by
  obtain ⟨cur, rest, hb, e⟩ := h
  have hc : ys.length ≤ cur.size := by
    rw [← Array.length_toList, e, List.length_append]
    simp [ints]
    omega
  refine ⟨_, (putCells (Value.int .i64) 0 ys.toArray cur).toList.drop ys.length, heap_sortedI ys.toArray hb, ?_⟩
  have h9 := take_putCellsI cur ys hc
  have h10 := List.take_append_drop ys.length (putCells (Value.int .i64) 0 ys.toArray cur).toList
  rw [h9] at h10
  exact h10.symm

theorem LRow.front {w : World} {g : Nat} {xs ys : List Int} (h : LRow w g (xs ++ ys)) : LRow w g xs := by
  obtain ⟨cur, rest, hb, e⟩ := h
  refine ⟨cur, ints ys ++ rest, hb, ?_⟩
  rw [e, ← List.append_assoc]
  simp [ints]

theorem grow_none (w : World) : grow w #[] = w := by simp [grow]

theorem below_sorted {w : World} {g q : Nat} {os : Array Obj} {B : Nat} {w0 : World} (d : Array Int) (h : Below B w0 w) (hg : B ≤ g) (hz : g < w.heap.size) : Below B w0 (grow (putRow (Value.int .i64) (Sort.ahead w q) g 0 d) os) :=
  h.grown (grownBy_sortedI d) (by omega) (fun j hj => by cases hj; exact hg)

set_option maxRecDepth 100000 in
set_option maxHeartbeats 2000000 in
theorem implUnknowns_any (t : List Nd) (m : Nat) (HM : Hid (t.length = m)) (hm : m ≤ 1048576) (ao : Option Addr) (cap : Nat) (w : World) (hx : Nodes w ao t) :
    Calls Tryz.prog 9 #[.slice ao m cap] w fun e w' => ∃ ag cg, e = .returned (.slice ag (unkOf t).length cg) ∧ LAns w' w.heap.size ag (unkOf t) ∧ Below w.heap.size w w' := by
  obtain ⟨i1, hj1, hy0, hy1, hy2⟩ := info_parts Tryz.infoL
  have hA : Below w.heap.size w (w.alloc (.cells #[] 2)) := (Below.refl _ w).alloc (Nat.le_refl _) _
  have hO := Longs.empty (w := w) (B := w.heap.size) (Nat.le_refl _)
  go_enter Tryz.func9, Tryz.ntmps9
  go_wp2_with fail
  refine (iIsType_any t m HM hm ao cap _ (hx.below hA)).mono ?_
  rintro e w1 ⟨rfl, hb1⟩
  have hO1 := hO.below hb1
  have hb := Below.step hA hb1
  clear hO hA hb1
  cases ht : typeb t
  · have HV : Hid (unkOf t = []) := by simp only [unkOf, ht, Hid]; rfl
    clear hO1 hx
    go_wp2
    go_ret
    rw [HV.out]
    exact ⟨_, _, rfl, Or.inl rfl, hb⟩
  · have HU : Hid (compactUpTo (((metaNums t).mergeSort fun x y => decide (x ≤ y)).toArray) (((metaNums t).mergeSort fun x y => decide (x ≤ y)).toArray).size = unkOf t) := unk_same t ht
    have h3 : m ≤ 300 := by
      have h9 := ht
      simp only [typeb, Bool.and_eq_true, decide_eq_true_eq] at h9
      have := HM.out
      omega
    clear ht
    go_wp2
    go_loopw [3, 13] (fun v p wr => ∃ (k g c l : Nat), k ≤ m ∧ p = .int .i64 k ∧ v = .slice (some ⟨g, 0, none⟩) l c ∧ Longs wr w.heap.size g c l (metaNums (t.take k)) ∧ Below w.heap.size w wr) (fun _ p _ => m - (intOf p).toNat)
    case atStart => exact ⟨0, w.heap.size, 0, 0, Nat.zero_le _, rfl, rfl, hO1, hb⟩
    case round =>
      clear hO1 hb
      obtain ⟨k, g, c, l, hk, rfl, rfl, hown, hb⟩ := hrel
      have hll : l ≤ k := by have := metaNums_len (t.take k); have := hown.1; simp at *; omega
      by_cases hlt : k < m
      · have hltx : k < t.length := by have := HM.out; omega
        have hstep := metaNums_take t k hltx
        obtain ⟨⟨kd, nm, tx, ks, pl⟩, hxk⟩ : ∃ x, t[k] = x := ⟨_, rfl⟩
        obtain ⟨b, o, rfl, hcx⟩ := hx.below hb k hltx
        rw [hxk] at hcx hstep
        simp only at hstep
        obtain ⟨c0, c1, c2, c3, c4⟩ := hcx
        have hlb : b < wr.heap.size := lt_of_cell c0
        have hob := hown.block
        generalize metaNums (t.take k) = ms at *
        have HS : Hid (metaNums (t.take (k + 1)) = if kd = 61 then ms ++ [nm] else ms) := hstep
        clear hx hxk hstep
        by_cases h61 : kd = 61
        · subst h61
          have HT : Hid (metaNums (t.take (k + 1)) = ms ++ [nm]) := by rw [Hid, HS.out, if_pos rfl]
          clear HS
          have hown2 := (hown.alloc (.cells #[.int .i64 61, .int .i64 nm, .string tx, .int .i64 ks, .int .i64 pl] 40)).alloc (.cells #[.int .i64 nm] 2)
          have hb2 := (hb.alloc hb.size (.cells #[.int .i64 61, .int .i64 nm, .string tx, .int .i64 ks, .int .i64 pl] 40))
          have hone := one_cell2 (wr.alloc (.cells #[.int .i64 61, .int .i64 nm, .string tx, .int .i64 ks, .int .i64 pl] 40)) (.int .i64 nm)
          rw [World.size_alloc] at hone
          go_wp2_with (at_builtin; refine wpList_append2 _ rfl (.tmp 20) (.tmp 23) 31 rfl w.heap.size 2 i1 _ 1 8 Tryz.underlying31 hj1 hy0 hy1 hy2 rfl (by decide) g l c _ rfl hown2.2 ⟨_, 0, none⟩ 1 1 [.int .i64 nm] rfl rfl hone (one_one _) ?b3 ?b4 ?b5 ?_)
          case b3 => unfold maxLen; omega
          case b4 => omega
          case b5 => have := hb2.size; simp at *; omega
          intro g5 c5 w5 hown5 hgrow5 hwh5
          have hO5 := Longs.push hown5 hown.1 rfl
          have hb5 : Below w.heap.size w w5 := (hb2.alloc hb2.size _).grown hgrow5 (hb2.alloc hb2.size _).size (fun j hj => by cases hj; exact hob.1)
          clear hown5 hgrow5 hwh5 hown2 hb2 hone hown hb
          go_wp2
          go_roundw
          case rel => exact ⟨k + 1, g5, c5, l + 1, by omega, by go_num, rfl, by rw [HT.out]; exact hO5, hb5⟩
          case measure => simp [intOf]; omega
        · have t61 : ((kd : Int) == 61) = false := by simpa using h61
          have HT : Hid (metaNums (t.take (k + 1)) = ms) := by rw [Hid, HS.out, if_neg h61]
          clear HS
          go_wp2
          go_roundw
          case rel => exact ⟨k + 1, g, c, l, by omega, by go_num, rfl, by rw [HT.out]; exact hown.alloc _, hb.alloc hb.size _⟩
          case measure => simp [intOf]; omega
      · have hkm : k = m := by omega
        subst hkm
        have HN : Hid (metaNums (t.take k) = metaNums t) := by rw [Hid, List.take_of_length_le (by have := HM.out; omega)]
        rw [HN.out] at hown
        obtain ⟨hg, hr⟩ := hown.row
        have hcap : l ≤ c := by
          obtain ⟨_, h9⟩ := hown.2
          rcases h9 with ⟨h0, _⟩ | ⟨_, _, _, h0, _, _, h1, _⟩
          · simp at h0
          · simp at h0
            omega
        have hn := hown.1
        have hz := hr.lt
        obtain ⟨ys, hys⟩ : ∃ ys, (metaNums t).mergeSort (fun x y => decide (x ≤ y)) = ys := ⟨_, rfl⟩
        have hyl : ys.length = l := by rw [← hys, List.length_mergeSort]; exact hn
        have HS := AnyM.slices_Sort_int Tryz.laysU31 g 0 c (metaNums t) wr hr.holds hz (by omega)
        rw [hys, hn] at HS
        change Calls Tryz.prog 31 _ _ _ at HS
        rw [hys] at HU
        have hru := fun q os => (hr.sorted (q := q) (os := os) (ys := ys) (by omega))
        clear hown hx HN hys
        go_wp2_with fail
        refine HS.mono ?_
        rintro e w2 ⟨rfl, q, os, rfl⟩
        have hr2 := hru q os
        have hb2 := below_sorted (q := q) (os := os) ys.toArray hb hg hz
        generalize grow (putRow (Value.int .i64) (Sort.ahead wr q) g 0 ys.toArray) os = w2 at *
        clear HS hru hr hb hz
        have HC := AnyE.slices_Compact Tryz.laysU32 (Value.int .i64) (fun _ => rfl) (EqlAt.intD _ _ _) (NeqAt.intD _ _ _) 0 (fun w => by kernel_rfl) g 0 c ys.toArray w2 hr2.holds (by simp; omega) (by simp; omega)
        rw [HU.out] at HC
        have hlen : (unkOf t).length ≤ l := by
          rw [← HU.out, compactUpTo, List.length_map]
          refine Nat.le_trans (List.length_filter_le _ _) ?_
          simp [hyl]
        obtain ⟨p, hp⟩ : ∃ p, (unkOf t).length = p := ⟨_, rfl⟩
        have HP : Hid ((unkOf t).length = p) := hp
        simp only [List.size_toArray, hyl, hp] at HC
        change Calls Tryz.prog 32 _ _ _ at HC
        have hrc := fun q => (hr2.sorted (q := q) (os := #[]) (ys := unkOf t ++ List.replicate (l - p) 0) (by simp [hp, hyl]; omega))
        have hbc := fun q => below_sorted (q := q) (os := #[]) (unkOf t ++ List.replicate (l - p) 0).toArray hb2 hg hr2.lt
        simp only [grow_none] at hrc hbc
        clear hp hlen hr2 hb2 HU
        go_wp2_with fail
        refine HC.mono ?_
        rintro e w3 ⟨rfl, q, rfl⟩
        have hr3 := (hrc q).front
        have hb3 := hbc q
        generalize putRow (Value.int .i64) (Sort.ahead w2 q) g 0 (unkOf t ++ List.replicate (l - p) 0).toArray = w3 at *
        clear HC hrc hbc
        go_wp2
        go_ret
        rw [HP.out]
        exact ⟨_, _, rfl, Or.inr ⟨g, rfl, hg, hr3⟩, hb3⟩

end Go.Proofs.YthioecjcnajmgaaGreatDoor

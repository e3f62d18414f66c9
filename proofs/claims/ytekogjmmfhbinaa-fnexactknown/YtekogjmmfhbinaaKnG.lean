import Derived.Test.YtekogjmmfhbinaaKnF
namespace Go.Proofs.Ytekogjmmfhbinaa

open Go.RowKit

theorem but_grownK {w w' : World} {g : Nat} (h : w.grownBy w' (some g)) : But (· = g) w w' :=
  ⟨h.os, h.tape, h.output, h.size, fun i hi hne => h.block i hi (fun e => hne (by cases e; rfl))⟩

/-- The stack of fold: trees, and the terms that they stand for. -/
structure StackK (w wr : World) (t : List Nd) (k g c : Nat) (bs : List Nat) (S : List Sp) : Prop where
  own : wr.ownsRow w.heap.size 42 1 (.slice (some ⟨g, 0, none⟩) bs.length c) bs.length (ptrK bs)
  len : S.length = bs.length
  run : ∃ ys, after t k = some (S, ys)
  trees : ∀ j (h1 : j < bs.length) (h2 : j < S.length), TreeAt t wr (fun q => q ≠ g ∧ w.heap.size ≤ q) bs[j] S[j].rt
  old : Below w.heap.size w wr

theorem ptrK_cells (w : World) (b : Nat) : ∀ j u, (ptrK [b])[j]? = some u → (w.alloc (.cells #[.pointer (some ⟨b, 0, none⟩)] 42)).cell? (Addr.add ⟨w.heap.size, 0, none⟩ j) = some u := by
  intro j u hj
  rw [addK, Nat.zero_add, cell_of_row _ w.heap.size j _ 42 (0, 0) (heap_alloc_new _ _), ← hj]
  simp [ptrK]

theorem stackK_next {w wr W w4 w5 : World} {t : List Nd} {k g c : Nat} {bs : List Nat} {S : List Sp} (hst : StackK w wr t k g c bs S) (hk : k < t.length) {nd : Nd} (hnd : t[k] = nd) {kd fi : Nat} (hkd : nd.kids = (kd : Int)) (hfi : bs.length = fi + kd) (hW : Below wr.heap.size wr W) {b : Nat}
    (hres : NewK W nd (bs.drop fi) b w4) {g5 c5 : Nat} (hown5 : w5.ownsRow w.heap.size 42 1 (.slice (some ⟨g5, 0, none⟩) (fi + 1) c5) (fi + 1) (ptrK (bs.take fi) ++ ptrK [b]))
    (hgrow5 : (w4.alloc (.cells #[.pointer (some ⟨b, 0, none⟩)] 42)).grownBy w5 (some g)) (hwh : g5 = g ∨ g5 = (w4.alloc (.cells #[.pointer (some ⟨b, 0, none⟩)] 42)).heap.size) :
    ∃ S', StackK w w5 t (k + 1) g5 c5 (bs.take fi ++ [b]) S' := by
  obtain ⟨gk, ck, cur, hb1, hg1, hblk, hrow, hcells, hcap, hB4⟩ := hres
  obtain ⟨ys, hrun⟩ := hst.run
  have hob := owns_block hst.own
  have hbA : Below w4.heap.size w4 (w4.alloc (.cells #[.pointer (some ⟨b, 0, none⟩)] 42)) := (Below.refl _ _).alloc (Nat.le_refl _) _
  have hb5 := but_grownK hgrow5
  have hWs := hW.size
  have hSl := hst.len
  have hstep : step S k t[k].kids = some (S.take fi ++ [over (S.drop fi) k], over (S.drop fi) k) := by
    rw [hnd, hkd, step_of (by omega) (by omega)]
    have e : S.length - (kd : Int).toNat = fi := by simp; omega
    rw [e]
  have hn := after_succ hrun hk hstep
  have hkr : kidsRt t k = (S.drop fi).map (fun s => s.rt) := by
    rw [kidsRt_eq hrun hk, hnd, hkd]
    have e : S.length - (kd : Int).toNat = fi := by simp; omega
    rw [e]
  have e4 : ∀ {b i}, TreeAt t wr (fun q => q ≠ g ∧ w.heap.size ≤ q) b i → TreeAt t w4 (fun q => q ≠ g ∧ w.heap.size ≤ q) b i := fun h => (h.under hW).under hB4
  have e5 : ∀ {b i}, TreeAt t w4 (fun q => q ≠ g ∧ w.heap.size ≤ q) b i → TreeAt t w5 (fun q => q ≠ g5 ∧ w.heap.size ≤ q) b i := by
    intro b i h
    refine ((h.under hbA).but hb5 (fun q h => h.1) (fun q h hl => ⟨?_, h.2⟩))
    rcases hwh with rfl | rfl
    · exact h.1
    · exact Nat.ne_of_lt hl
  have hws := hst.old.size
  have hnew : TreeAt t w4 (fun q => q ≠ g ∧ w.heap.size ≤ q) b k := by
    refine .mk b k (bs.drop fi) gk ck cur ⟨by omega, by omega⟩ ⟨by omega, by omega⟩ ?_ hrow hcells hcap (by rw [hkr]; simp; omega) ?_
    · rw [ndAt_get hk, hnd]; exact hblk
    · intro j h h'
      have h1 : fi + j < bs.length := by simp at h; omega
      have h2 : fi + j < S.length := by omega
      have h9 := e4 (hst.trees (fi + j) h1 h2)
      have q1 : (bs.drop fi)[j] = bs[fi + j] := by simp
      have q2 : (kidsRt t k)[j] = (S[fi + j]).rt := by simp only [hkr]; simp
      rw [q1, q2]
      exact h9
  have hfl : (bs.take fi).length = fi := by simp; omega
  have hln : (bs.take fi ++ [b]).length = fi + 1 := by simp; omega
  refine ⟨_, ⟨?_, ?_, ⟨_, hn⟩, ?_, ?_⟩⟩
  · rw [hln]
    have e9 : ptrK (bs.take fi ++ [b]) = ptrK (bs.take fi) ++ ptrK [b] := by simp [ptrK]
    rw [e9]
    exact hown5
  · rw [hln]; simp; omega
  · intro j h1 h2
    by_cases hj : j < fi
    · have q1 : (bs.take fi ++ [b])[j] = bs[j] := by rw [List.getElem_append_left (by omega)]; simp
      have q2 : (S.take fi ++ [over (S.drop fi) k])[j] = S[j] := by rw [List.getElem_append_left (by simp; omega)]; simp
      rw [q1, q2]
      exact e5 (e4 (hst.trees j (by omega) (by omega)))
    · have hj' : j = fi := by omega
      subst hj'
      have q1 : (bs.take j ++ [b])[j] = b := by rw [List.getElem_append_right (by omega)]; simp
      have q2 : (S.take j ++ [over (S.drop j) k])[j].rt = k := by rw [List.getElem_append_right (by simp; omega)]; simp [over]
      rw [q1, q2]
      exact e5 hnew
  · have h1 := Below.step hst.old hW
    have h2 := Below.step h1 hB4
    have h3 := Below.step h2 hbA
    exact h3.trans (hb5.below h3.size (fun q hq => by omega))

set_option maxRecDepth 20000 in
set_option maxHeartbeats 8000000 in
theorem foldK_any (w : World) (t : List Nd) (m : Nat) (HM : Hid (t.length = m)) (hm : m ≤ 60000) (hm0 : 0 < m) (S ys : List Sp) (HA : Hid (after t m = some (S, ys))) (hS1 : S.length = 1) (ao : Option Addr) (cap : Nat) (hx : Nodes w ao t) :
    Calls Try.prog 38 #[.slice ao m cap, .func (.func 39) #[] #[]] w fun e w' => ∃ b, e = .returned (.pointer (some ⟨b, 0, none⟩)) ∧ TreeAt t w' (fun q => w.heap.size ≤ q) b (m - 1) ∧ Below w.heap.size w w' := by
  obtain ⟨i0, hi, hz0, hz1, hz2⟩ := info_parts Try.infoPC
  go_enter Try.func38, Try.ntmps38
  go_wp2
  have hO0 : (w.alloc (.cells #[] 42)).ownsRow w.heap.size 42 1 (.slice (some ⟨w.heap.size, 0, none⟩) 0 0) 0 [] := ⟨rfl, Or.inr ⟨_, 0, #[], rfl, Nat.le_refl _, heap_alloc_new _ _, Nat.le_refl _, by simp [maxLen], rfl, rfl⟩⟩
  have hb0 : Below w.heap.size w (w.alloc (.cells #[] 42)) := (Below.refl _ w).alloc (Nat.le_refl _) _
  have HST0 : Hid (StackK w (w.alloc (.cells #[] 42)) t 0 w.heap.size 0 [] []) :=
    ⟨hO0, rfl, ⟨[], rfl⟩, fun j h1 => by simp at h1, hb0⟩
  have HX : Hid (Nodes w ao t) := hx
  clear hO0 hb0 hx
  go_loopw [5, 12] (fun v i wr => ∃ (k g c : Nat) (bs : List Nat) (S : List Sp), k ≤ m ∧ i = .int .i64 (k : Int) ∧ v = .slice (some ⟨g, 0, none⟩) bs.length c ∧ StackK w wr t k g c bs S) (fun _ i _ => m - (intOf i).toNat)
  case atStart => exact ⟨0, w.heap.size, 0, [], [], Nat.zero_le _, rfl, rfl, HST0.out⟩
  case round =>
    clear HST0
    obtain ⟨k, g, c, bs, Sk, hk, rfl, rfl, hst⟩ := hrel
    have HST : Hid (StackK w wr t k g c bs Sk) := hst
    clear hst
    by_cases hlt : k < m
    · have hltx : k < t.length := by have := HM.out; omega
      have hkk : 0 ≤ t[k].kids ∧ t[k].kids ≤ (bs.length : Int) ∧ bs.length ≤ k := by
        obtain ⟨Sx, hSx, hkx, hKx⟩ := kids_atS HA.out k hlt
        obtain ⟨yk, hyk⟩ := HST.out.run
        rw [hSx] at hyk
        simp only [Option.some.injEq, Prod.mk.injEq] at hyk
        obtain ⟨rfl, -⟩ := hyk
        obtain ⟨_, h9⟩ := hKx.num
        have h8 := HST.out.len
        have h7 := chain_len (after_fine hSx).chain
        rw [h9]
        simp
        omega
      obtain ⟨hk0, hkA, hbk⟩ := hkk
      obtain ⟨nd, hnd⟩ : ∃ x, t[k] = x := ⟨_, rfl⟩
      rw [hnd] at hk0 hkA
      obtain ⟨kd, hkd⟩ : ∃ kd : Nat, nd.kids = (kd : Int) := ⟨nd.kids.toNat, by omega⟩
      obtain ⟨fi, hfi⟩ : ∃ fi, bs.length = fi + kd := ⟨bs.length - kd, by omega⟩
      obtain ⟨bb, oo, rfl, hcx⟩ := HX.out.below HST.out.old k hltx
      rw [hnd] at hcx
      obtain ⟨c0, c1, c2, c3, c4⟩ := hcx
      have hlb : bb < wr.heap.size := lt_of_cell c0
      have hlc := ownsK_tag HST.out.own
      have hob := owns_block HST.out.own
      rw [hkd] at c3
      have HKD : Hid (nd.kids = (kd : Int)) := hkd
      obtain ⟨l, hl⟩ : ∃ l, bs.length = l := ⟨_, rfl⟩
      have HLB : Hid (bs.length = l) := hl
      rw [hl] at hfi hlc hbk ⊢
      have hfl : fi ≤ l := by omega
      have hfc : fi ≤ c := by omega
      have hsub : (l : Int) - (kd : Int) = (fi : Int) := by omega
      have h300 : l ≤ 60000 := by omega
      have hle : (fi : Int) ≤ (fi : Int) + (kd : Int) := by omega
      have hNB : Obj.cells #[.int .i64 nd.kind, .int .i64 nd.num, .string nd.text, .int .i64 nd.kids, .int .i64 nd.place] 39 = (Obj.cells #[.int .i64 nd.kind, .int .i64 nd.num, .string nd.text, .int .i64 (kd : Int), .int .i64 nd.place] 39) := by rw [HKD.out]
      have hbW : Below wr.heap.size wr (wr.alloc (.cells #[.int .i64 nd.kind, .int .i64 nd.num, .string nd.text, .int .i64 nd.kids, .int .i64 nd.place] 39)).drew := ((Below.refl _ wr).alloc (Nat.le_refl _) _).drew
      have HCALL : Hid (Calls Try.prog 39 #[.agg #[.int .i64 nd.kind, .int .i64 nd.num, .string nd.text, .int .i64 (kd : Int), .int .i64 nd.place], .slice (if c = fi then some ⟨g, 0, none⟩ else some ⟨g, fi, none⟩) kd (c - fi)] (wr.alloc (.cells #[.int .i64 nd.kind, .int .i64 nd.num, .string nd.text, .int .i64 (kd : Int), .int .i64 nd.place] 39)).drew fun e w' => ∃ b, e = .returned (.pointer (some ⟨b, 0, none⟩)) ∧ NewK (wr.alloc (.cells #[.int .i64 nd.kind, .int .i64 nd.num, .string nd.text, .int .i64 (kd : Int), .int .i64 nd.place] 39)).drew nd (bs.drop fi) b w') := by
        have key : Calls Try.prog 39 #[.agg #[.int .i64 nd.kind, .int .i64 nd.num, .string nd.text, .int .i64 nd.kids, .int .i64 nd.place], .slice (if c = fi then some ⟨g, 0, none⟩ else some ⟨g, fi, none⟩) kd (c - fi)] (wr.alloc (.cells #[.int .i64 nd.kind, .int .i64 nd.num, .string nd.text, .int .i64 nd.kids, .int .i64 nd.place] 39)).drew fun e w' => ∃ b, e = .returned (.pointer (some ⟨b, 0, none⟩)) ∧ NewK (wr.alloc (.cells #[.int .i64 nd.kind, .int .i64 nd.num, .string nd.text, .int .i64 nd.kids, .int .i64 nd.place] 39)).drew nd (bs.drop fi) b w' := by
          have hdl : (bs.drop fi).length = kd := by simp; have := HLB.out; omega
          by_cases hcf : c = fi
          · rw [if_pos hcf]
            have hk0 : kd = 0 := by omega
            refine treeOf1_any _ nd (bs.drop fi) kd (c - fi) hdl (by omega) ⟨g, 0, none⟩ (fun j u hj => ?_)
            have : bs.drop fi = [] := List.eq_nil_of_length_eq_zero (by omega)
            rw [this] at hj
            simp [ptrK] at hj
          · rw [if_neg hcf]
            refine treeOf1_any _ nd (bs.drop fi) kd (c - fi) hdl (by omega) ⟨g, fi, none⟩ (fun j u hj => ?_)
            have hj9 : j < kd := by
              have := (List.getElem?_eq_some_iff.1 hj).1
              simp only [ptrK, List.length_map] at this
              omega
            rw [addK]
            have h9 := owns_at (owns_but HST.out.own (But.ofBelow (S := fun _ => False) hbW) (fun h => h)) (fi + j) (by have := HLB.out; omega)
            rw [h9]
            simp only [ptrK, List.getElem?_map, List.getElem?_drop] at hj ⊢
            exact hj
        rw [hNB, HKD.out] at key
        exact key
      have HBW : Hid (Below wr.heap.size wr (wr.alloc (.cells #[.int .i64 nd.kind, .int .i64 nd.num, .string nd.text, .int .i64 (kd : Int), .int .i64 nd.place] 39)).drew) := by
        rw [hNB] at hbW
        exact hbW
      have HOWN : Hid (∀ w', Below (wr.alloc (.cells #[.int .i64 nd.kind, .int .i64 nd.num, .string nd.text, .int .i64 (kd : Int), .int .i64 nd.place] 39)).drew.heap.size (wr.alloc (.cells #[.int .i64 nd.kind, .int .i64 nd.num, .string nd.text, .int .i64 (kd : Int), .int .i64 nd.place] 39)).drew w' → w'.ownsRow w.heap.size 42 1 (.slice (some ⟨g, 0, none⟩) fi c) fi (ptrK (bs.take fi)) ∧ w.heap.size ≤ w'.heap.size) := by
        intro w' hb'
        have h1 := owns_but HST.out.own (But.ofBelow (S := fun _ => False) HBW.out) (fun h => h)
        have h2 := owns_but h1 (But.ofBelow (S := fun _ => False) hb') (fun h => h)
        have h3 := owns_take h2 fi (by have := HLB.out; omega)
        have e9 : (ptrK bs).take (fi * 1) = ptrK (bs.take fi) := by rw [Nat.mul_one]; simp [ptrK, List.map_take]
        rw [e9] at h3
        have h4 := hb'.size
        have h5 := HBW.out.size
        have h6 := HST.out.old.size
        exact ⟨h3, by omega⟩
      have HND : Hid (t[k] = nd) := hnd
      have HFI : Hid (bs.length = fi + kd) := by rw [Hid, HLB.out]; exact hfi
      clear hkd hl hnd hNB hbW
      go_wp2_with fail
      go_region_law (first
        | (go_simp; refine HCALL.out.mono ?_; rintro e w4 ⟨b, rfl, hres⟩; have hB4 : Below (wr.alloc (.cells #[.int .i64 nd.kind, .int .i64 nd.num, .string nd.text, .int .i64 (kd : Int), .int .i64 nd.place] 39)).drew.heap.size (wr.alloc (.cells #[.int .i64 nd.kind, .int .i64 nd.num, .string nd.text, .int .i64 (kd : Int), .int .i64 nd.place] 39)).drew w4 := (by obtain ⟨_, _, _, _, _, _, _, _, _, h9⟩ := hres; exact h9); obtain ⟨how4, hsz4⟩ := HOWN.out w4 hB4; have how5 := how4.alloc (.cells #[.pointer (some ⟨b, 0, none⟩)] 42); have hpc := ptrK_cells w4 b)
        | (refine step_append2 _ rfl (.tmp 23) (.tmp 30) 58 rfl w.heap.size 42 i0 _ 1 8 Try.underlying58 hi hz0 hz1 hz2 rfl (by decide) g fi c _ rfl how5 ⟨_, 0, none⟩ 1 1 (ptrK [b]) rfl rfl hpc (ptrK_one _) ?_ ?_ ?_ ?_; (unfold maxLen; omega); omega; ((try simp); omega); intro g5 c5 w5 hown5 hgrow5 hwh))
      all_goals
        have HN : Hid (∃ S', StackK w w5 t (k + 1) g5 c5 (bs.take fi ++ [b]) S') := stackK_next HST.out hltx HND.out HKD.out HFI.out HBW.out hres hown5 hgrow5 hwh
        have hlen : fi + 1 = (bs.take fi ++ [b]).length := by
          simp
          have := HFI.out
          omega
        clear hown5 hgrow5 hwh how4 how5 hpc hB4 hres HOWN HBW HCALL HST hob c0 c1 c2 c3 c4
        simp only [Act.put, List.getElem_toArray, List.getElem_cons_succ, List.getElem_cons_zero, List.setIfInBounds_toArray, List.set_cons_zero, List.set_cons_succ]
        obtain ⟨S', hnx⟩ := HN.out
        go_wp2
        go_roundw
        case rel => exact ⟨k + 1, g5, c5, bs.take fi ++ [b], S', by omega, by go_num, by rw [← hlen], hnx⟩
        case measure => simp [intOf]; omega
    · obtain rfl : k = m := by omega
      obtain ⟨yk, hyk⟩ := HST.out.run
      rw [HA.out] at hyk
      simp only [Option.some.injEq, Prod.mk.injEq] at hyk
      obtain ⟨rfl, -⟩ := hyk
      have hbl : bs.length = 1 := by rw [← HST.out.len]; exact hS1
      obtain ⟨b, rfl⟩ : ∃ b, bs = [b] := List.length_eq_one_iff.1 hbl
      have HT : Hid (TreeAt t wr (fun q => w.heap.size ≤ q) b (k - 1)) := by
        have h9 := HST.out.trees 0 (by simp) (by omega)
        have h8 := ((after_fine HA.out).chain).2.2.1 (by omega)
        have e : (S[0]'(by omega)).rt = k - 1 := by
          have h7 := h8.2
          simp only [hS1] at h7
          simp at h7
          omega
        rw [e] at h9
        exact h9.but (But.ofBelow (S := fun _ => False) (Below.refl _ _)) (fun _ _ h => h) (fun _ h _ => h.2)
      have q0 : wr.cell? ⟨g, 0, none⟩ = some (.pointer (some ⟨b, 0, none⟩)) := by
        have h9 := owns_at HST.out.own 0 (by simp)
        rw [h9]
        rfl
      have hold := HST.out.old
      go_wp2
      go_ret
      exact ⟨b, rfl, HT.out, hold⟩

end Go.Proofs.Ytekogjmmfhbinaa

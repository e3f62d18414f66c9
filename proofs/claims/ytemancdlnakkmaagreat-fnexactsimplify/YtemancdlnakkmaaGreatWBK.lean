import Derived.Test.YtemancdlnakkmaaGreatWBJ
import Derived.Test.YtemancdlnakkmaaGreatPDem
import Derived.Test.YtemancdlnakkmaaGreatWBG
import Derived.Test.YtemancdlnakkmaaGreatWAY
import Derived.Test.YtemancdlnakkmaaGreatWAZ
namespace Go.Proofs.YtemancdlnakkmaaGreat
open Go.RowKit
theorem but_grownK {w w' : World} {g : Nat} (h : w.grownBy w' (some g)) : But (· = g) w w' :=
  ⟨h.os, h.tape, h.output, h.size, fun i hi hne => h.block i hi (fun e => hne (by cases e; rfl))⟩
structure StackK (w wr : World) (t : List Nd) (k g c : Nat) (bs : List Nat) (S : List Sp) : Prop where
  own : wr.ownsRow w.heap.size 65 1 (.slice (some ⟨g, 0, none⟩) bs.length c) bs.length (ptrK bs)
  len : S.length = bs.length
  run : ∃ ys, after t k = some (S, ys)
  trees : ∀ j (h1 : j < bs.length) (h2 : j < S.length), TreeAt t wr (fun q => q ≠ g ∧ w.heap.size ≤ q) bs[j] S[j].rt
  old : Below w.heap.size w wr
theorem ptrK_cells (w : World) (b : Nat) : ∀ j u, (ptrK [b])[j]? = some u → (w.alloc (.cells #[.pointer (some ⟨b, 0, none⟩)] 65)).cell? (Addr.add ⟨w.heap.size, 0, none⟩ j) = some u := by
  intro j u hj
  rw [addK, Nat.zero_add, cell_of_row _ w.heap.size j _ 65 (0, 0) (heap_alloc_new _ _), ← hj]
  simp [ptrK]
theorem stackK_next {w wr W w4 w5 : World} {t : List Nd} {k g c : Nat} {bs : List Nat} {S : List Sp} (hst : StackK w wr t k g c bs S) (hk : k < t.length) {nd : Nd} (hnd : t[k] = nd) {kd fi : Nat} (hkd : nd.kids = (kd : Int)) (hfi : bs.length = fi + kd) (hW : Below wr.heap.size wr W) {b : Nat}
    (hres : NewK W nd (bs.drop fi) b w4) {g5 c5 : Nat} (hown5 : w5.ownsRow w.heap.size 65 1 (.slice (some ⟨g5, 0, none⟩) (fi + 1) c5) (fi + 1) (ptrK (bs.take fi) ++ ptrK [b]))
    (hgrow5 : (w4.alloc (.cells #[.pointer (some ⟨b, 0, none⟩)] 65)).grownBy w5 (some g)) (hwh : g5 = g ∨ g5 = (w4.alloc (.cells #[.pointer (some ⟨b, 0, none⟩)] 65)).heap.size) :
    ∃ S', StackK w w5 t (k + 1) g5 c5 (bs.take fi ++ [b]) S' := by
  obtain ⟨gk, ck, cur, hb1, hg1, hblk, hrow, hcells, hcap, hB4⟩ := hres
  obtain ⟨ys, hrun⟩ := hst.run
  have hob := owns_block hst.own
  have hbA : Below w4.heap.size w4 (w4.alloc (.cells #[.pointer (some ⟨b, 0, none⟩)] 65)) := (Below.refl _ _).alloc (Nat.le_refl _) _
  have hb5 := but_grownK hgrow5
  have hWs := hW.size
  have hSl := hst.len
  have hstep : step S k t[k].kids = some (S.take fi ++ [over (S.drop fi) k], over (S.drop fi) k) := by
    rw [hnd, hkd, step_of (by omega) (by omega)]
    have e : S.length - (kd : Int).toNat = fi := by simp; omega
    rw [e]
  have hn := after_succ hrun hk hstep
  have hkr : kidsRt t k = (S.drop fi).map (fun s => s.rt) := by
    rw [kidsRt_eq hrun hk, hnd, hkd]
    have e : S.length - (kd : Int).toNat = fi := by simp; omega
    rw [e]
  have e4 : ∀ {b i}, TreeAt t wr (fun q => q ≠ g ∧ w.heap.size ≤ q) b i → TreeAt t w4 (fun q => q ≠ g ∧ w.heap.size ≤ q) b i := fun h => (h.under hW).under hB4
  have e5 : ∀ {b i}, TreeAt t w4 (fun q => q ≠ g ∧ w.heap.size ≤ q) b i → TreeAt t w5 (fun q => q ≠ g5 ∧ w.heap.size ≤ q) b i := by
    intro b i h
    refine ((h.under hbA).but hb5 (fun q h => h.1) (fun q h hl => ⟨?_, h.2⟩))
    rcases hwh with rfl | rfl
    · exact h.1
    · exact Nat.ne_of_lt hl
  have hws := hst.old.size
  have hnew : TreeAt t w4 (fun q => q ≠ g ∧ w.heap.size ≤ q) b k := by
    refine .mk b k (bs.drop fi) gk ck cur ⟨by omega, by omega⟩ ⟨by omega, by omega⟩ ?_ hrow hcells hcap (by rw [hkr]; simp; omega) ?_
    · rw [ndAt_get hk, hnd]; exact hblk
    · intro j h h'
      have h1 : fi + j < bs.length := by simp at h; omega
      have h2 : fi + j < S.length := by omega
      have h9 := e4 (hst.trees (fi + j) h1 h2)
      have q1 : (bs.drop fi)[j] = bs[fi + j] := by simp
      have q2 : (kidsRt t k)[j] = (S[fi + j]).rt := by simp only [hkr]; simp
      rw [q1, q2]
      exact h9
  have hfl : (bs.take fi).length = fi := by simp; omega
  have hln : (bs.take fi ++ [b]).length = fi + 1 := by simp; omega
  refine ⟨_, ⟨?_, ?_, ⟨_, hn⟩, ?_, ?_⟩⟩
  · rw [hln]
    have e9 : ptrK (bs.take fi ++ [b]) = ptrK (bs.take fi) ++ ptrK [b] := by simp [ptrK]
    rw [e9]
    exact hown5
  · rw [hln]; simp; omega
  · intro j h1 h2
    by_cases hj : j < fi
    · have q1 : (bs.take fi ++ [b])[j] = bs[j] := by rw [List.getElem_append_left (by omega)]; simp
      have q2 : (S.take fi ++ [over (S.drop fi) k])[j] = S[j] := by rw [List.getElem_append_left (by simp; omega)]; simp
      rw [q1, q2]
      exact e5 (e4 (hst.trees j (by omega) (by omega)))
    · have hj' : j = fi := by omega
      subst hj'
      have q1 : (bs.take j ++ [b])[j] = b := by rw [List.getElem_append_right (by omega)]; simp
      have q2 : (S.take j ++ [over (S.drop j) k])[j].rt = k := by rw [List.getElem_append_right (by simp; omega)]; simp [over]
      rw [q1, q2]
      exact e5 hnew
  · have h1 := Below.step hst.old hW
    have h2 := Below.step h1 hB4
    have h3 := Below.step h2 hbA
    exact h3.trans (hb5.below h3.size (fun q hq => by omega))
set_option maxRecDepth 20000 in
set_option maxHeartbeats 8000000 in
theorem foldK_any (w : World) (t : List Nd) (m : Nat) (HM : Hid (t.length = m)) (hm : m ≤ 60000) (hm0 : 0 < m) (S ys : List Sp) (HA : Hid (after t m = some (S, ys))) (hS1 : S.length = 1) (ao : Option Addr) (cap : Nat) (hx : Nodes w ao t) :
    Calls Tryz.prog 57 #[.slice ao m cap, .func (.func 58) #[] #[]] w fun e w' => ∃ b, e = .returned (.pointer (some ⟨b, 0, none⟩)) ∧ TreeAt t w' (fun q => w.heap.size ≤ q) b (m - 1) ∧ Below w.heap.size w w' := by
  obtain ⟨i0, hi, hz0, hz1, hz2⟩ := info_parts Tryz.infoPC
  go_enter Tryz.func57, Tryz.ntmps57
  go_wp2
  have hO0 : (w.alloc (.cells #[] 65)).ownsRow w.heap.size 65 1 (.slice (some ⟨w.heap.size, 0, none⟩) 0 0) 0 [] := ⟨rfl, Or.inr ⟨_, 0, #[], rfl, Nat.le_refl _, heap_alloc_new _ _, Nat.le_refl _, by simp [maxLen], rfl, rfl⟩⟩
  have hb0 : Below w.heap.size w (w.alloc (.cells #[] 65)) := (Below.refl _ w).alloc (Nat.le_refl _) _
  have HST0 : Hid (StackK w (w.alloc (.cells #[] 65)) t 0 w.heap.size 0 [] []) :=
    ⟨hO0, rfl, ⟨[], rfl⟩, fun j h1 => by simp at h1, hb0⟩
  have HX : Hid (Nodes w ao t) := hx
  clear hO0 hb0 hx
  go_loopw [5, 12] (fun v i wr => ∃ (k g c : Nat) (bs : List Nat) (S : List Sp), k ≤ m ∧ i = .int .i64 (k : Int) ∧ v = .slice (some ⟨g, 0, none⟩) bs.length c ∧ StackK w wr t k g c bs S) (fun _ i _ => m - (intOf i).toNat)
  case atStart => exact ⟨0, w.heap.size, 0, [], [], Nat.zero_le _, rfl, rfl, HST0.out⟩
  case round =>
    clear HST0
    obtain ⟨k, g, c, bs, Sk, hk, rfl, rfl, hst⟩ := hrel
    have HST : Hid (StackK w wr t k g c bs Sk) := hst
    clear hst
    by_cases hlt : k < m
    · have hltx : k < t.length := by have := HM.out; omega
      have hkk : 0 ≤ t[k].kids ∧ t[k].kids ≤ (bs.length : Int) ∧ bs.length ≤ k := by
        obtain ⟨Sx, hSx, hkx, hKx⟩ := kids_atS HA.out k hlt
        obtain ⟨yk, hyk⟩ := HST.out.run
        rw [hSx] at hyk
        simp only [Option.some.injEq, Prod.mk.injEq] at hyk
        obtain ⟨rfl, -⟩ := hyk
        obtain ⟨_, h9⟩ := hKx.num
        have h8 := HST.out.len
        have h7 := chain_len (after_fine hSx).chain
        rw [h9]
        simp
        omega
      obtain ⟨hk0, hkA, hbk⟩ := hkk
      obtain ⟨nd, hnd⟩ : ∃ x, t[k] = x := ⟨_, rfl⟩
      rw [hnd] at hk0 hkA
      obtain ⟨kd, hkd⟩ : ∃ kd : Nat, nd.kids = (kd : Int) := ⟨nd.kids.toNat, by omega⟩
      obtain ⟨fi, hfi⟩ : ∃ fi, bs.length = fi + kd := ⟨bs.length - kd, by omega⟩
      obtain ⟨bb, oo, rfl, hcx⟩ := HX.out.below HST.out.old k hltx
      rw [hnd] at hcx
      obtain ⟨c0, c1, c2, c3, c4⟩ := hcx
      have hlb : bb < wr.heap.size := lt_of_cell c0
      have hlc := ownsK_tag HST.out.own
      have hob := owns_block HST.out.own
      rw [hkd] at c3
      have HKD : Hid (nd.kids = (kd : Int)) := hkd
      obtain ⟨l, hl⟩ : ∃ l, bs.length = l := ⟨_, rfl⟩
      have HLB : Hid (bs.length = l) := hl
      rw [hl] at hfi hlc hbk ⊢
      have hfl : fi ≤ l := by omega
      have hfc : fi ≤ c := by omega
      have hsub : (l : Int) - (kd : Int) = (fi : Int) := by omega
      have h300 : l ≤ 60000 := by omega
      have hle : (fi : Int) ≤ (fi : Int) + (kd : Int) := by omega
      have hNB : Obj.cells #[.int .i64 nd.kind, .int .i64 nd.num, .string nd.text, .int .i64 nd.kids, .int .i64 nd.place] 34 = (Obj.cells #[.int .i64 nd.kind, .int .i64 nd.num, .string nd.text, .int .i64 (kd : Int), .int .i64 nd.place] 34) := by rw [HKD.out]
      have hbW : Below wr.heap.size wr (wr.alloc (.cells #[.int .i64 nd.kind, .int .i64 nd.num, .string nd.text, .int .i64 nd.kids, .int .i64 nd.place] 34)).drew := ((Below.refl _ wr).alloc (Nat.le_refl _) _).drew
      have HCALL : Hid (Calls Tryz.prog 58 #[.agg #[.int .i64 nd.kind, .int .i64 nd.num, .string nd.text, .int .i64 (kd : Int), .int .i64 nd.place], .slice (if c = fi then some ⟨g, 0, none⟩ else some ⟨g, fi, none⟩) kd (c - fi)] (wr.alloc (.cells #[.int .i64 nd.kind, .int .i64 nd.num, .string nd.text, .int .i64 (kd : Int), .int .i64 nd.place] 34)).drew fun e w' => ∃ b, e = .returned (.pointer (some ⟨b, 0, none⟩)) ∧ NewK (wr.alloc (.cells #[.int .i64 nd.kind, .int .i64 nd.num, .string nd.text, .int .i64 (kd : Int), .int .i64 nd.place] 34)).drew nd (bs.drop fi) b w') := by
        have key : Calls Tryz.prog 58 #[.agg #[.int .i64 nd.kind, .int .i64 nd.num, .string nd.text, .int .i64 nd.kids, .int .i64 nd.place], .slice (if c = fi then some ⟨g, 0, none⟩ else some ⟨g, fi, none⟩) kd (c - fi)] (wr.alloc (.cells #[.int .i64 nd.kind, .int .i64 nd.num, .string nd.text, .int .i64 nd.kids, .int .i64 nd.place] 34)).drew fun e w' => ∃ b, e = .returned (.pointer (some ⟨b, 0, none⟩)) ∧ NewK (wr.alloc (.cells #[.int .i64 nd.kind, .int .i64 nd.num, .string nd.text, .int .i64 nd.kids, .int .i64 nd.place] 34)).drew nd (bs.drop fi) b w' := by
          have hdl : (bs.drop fi).length = kd := by simp; have := HLB.out; omega
          by_cases hcf : c = fi
          · rw [if_pos hcf]
            have hk0 : kd = 0 := by omega
            refine treeOf1_any _ nd (bs.drop fi) kd (c - fi) hdl (by omega) ⟨g, 0, none⟩ (fun j u hj => ?_)
            have : bs.drop fi = [] := List.eq_nil_of_length_eq_zero (by omega)
            rw [this] at hj
            simp [ptrK] at hj
          · rw [if_neg hcf]
            refine treeOf1_any _ nd (bs.drop fi) kd (c - fi) hdl (by omega) ⟨g, fi, none⟩ (fun j u hj => ?_)
            have hj9 : j < kd := by
              have := (List.getElem?_eq_some_iff.1 hj).1
              simp only [ptrK, List.length_map] at this
              omega
            rw [addK]
            have h9 := owns_at (owns_but HST.out.own (But.ofBelow (S := fun _ => False) hbW) (fun h => h)) (fi + j) (by have := HLB.out; omega)
            rw [h9]
            simp only [ptrK, List.getElem?_map, List.getElem?_drop] at hj ⊢
            exact hj
        rw [hNB, HKD.out] at key
        exact key
      have HBW : Hid (Below wr.heap.size wr (wr.alloc (.cells #[.int .i64 nd.kind, .int .i64 nd.num, .string nd.text, .int .i64 (kd : Int), .int .i64 nd.place] 34)).drew) := by
        rw [hNB] at hbW
        exact hbW
      have HOWN : Hid (∀ w', Below (wr.alloc (.cells #[.int .i64 nd.kind, .int .i64 nd.num, .string nd.text, .int .i64 (kd : Int), .int .i64 nd.place] 34)).drew.heap.size (wr.alloc (.cells #[.int .i64 nd.kind, .int .i64 nd.num, .string nd.text, .int .i64 (kd : Int), .int .i64 nd.place] 34)).drew w' → w'.ownsRow w.heap.size 65 1 (.slice (some ⟨g, 0, none⟩) fi c) fi (ptrK (bs.take fi)) ∧ w.heap.size ≤ w'.heap.size) := by
        intro w' hb'
        have h1 := owns_but HST.out.own (But.ofBelow (S := fun _ => False) HBW.out) (fun h => h)
        have h2 := owns_but h1 (But.ofBelow (S := fun _ => False) hb') (fun h => h)
        have h3 := owns_take h2 fi (by have := HLB.out; omega)
        have e9 : (ptrK bs).take (fi * 1) = ptrK (bs.take fi) := by rw [Nat.mul_one]; simp [ptrK, List.map_take]
        rw [e9] at h3
        have h4 := hb'.size
        have h5 := HBW.out.size
        have h6 := HST.out.old.size
        exact ⟨h3, by omega⟩
      have HND : Hid (t[k] = nd) := hnd
      have HFI : Hid (bs.length = fi + kd) := by rw [Hid, HLB.out]; exact hfi
      clear hkd hl hnd hNB hbW
      go_wp2_with fail
      go_region_law (first
        | (go_simp; refine HCALL.out.mono ?_; rintro e w4 ⟨b, rfl, hres⟩; have hB4 : Below (wr.alloc (.cells #[.int .i64 nd.kind, .int .i64 nd.num, .string nd.text, .int .i64 (kd : Int), .int .i64 nd.place] 34)).drew.heap.size (wr.alloc (.cells #[.int .i64 nd.kind, .int .i64 nd.num, .string nd.text, .int .i64 (kd : Int), .int .i64 nd.place] 34)).drew w4 := (by obtain ⟨_, _, _, _, _, _, _, _, _, h9⟩ := hres; exact h9); obtain ⟨how4, hsz4⟩ := HOWN.out w4 hB4; have how5 := how4.alloc (.cells #[.pointer (some ⟨b, 0, none⟩)] 65); have hpc := ptrK_cells w4 b)
        | (refine step_append2 _ rfl (.tmp 23) (.tmp 30) 84 rfl w.heap.size 65 i0 _ 1 8 Tryz.underlying84 hi hz0 hz1 hz2 rfl (by decide) g fi c _ rfl how5 ⟨_, 0, none⟩ 1 1 (ptrK [b]) rfl rfl hpc (ptrK_one _) ?_ ?_ ?_ ?_; (unfold maxLen; omega); omega; ((try simp); omega); intro g5 c5 w5 hown5 hgrow5 hwh))
      all_goals
        have HN : Hid (∃ S', StackK w w5 t (k + 1) g5 c5 (bs.take fi ++ [b]) S') := stackK_next HST.out hltx HND.out HKD.out HFI.out HBW.out hres hown5 hgrow5 hwh
        have hlen : fi + 1 = (bs.take fi ++ [b]).length := by
          simp
          have := HFI.out
          omega
        clear hown5 hgrow5 hwh how4 how5 hpc hB4 hres HOWN HBW HCALL HST hob c0 c1 c2 c3 c4
        simp only [Act.put, List.getElem_toArray, List.getElem_cons_succ, List.getElem_cons_zero, List.setIfInBounds_toArray, List.set_cons_zero, List.set_cons_succ]
        obtain ⟨S', hnx⟩ := HN.out
        go_wp2
        go_roundw
        case rel => exact ⟨k + 1, g5, c5, bs.take fi ++ [b], S', by omega, by go_num, by rw [← hlen], hnx⟩
        case measure => simp [intOf]; omega
    · obtain rfl : k = m := by omega
      obtain ⟨yk, hyk⟩ := HST.out.run
      rw [HA.out] at hyk
      simp only [Option.some.injEq, Prod.mk.injEq] at hyk
      obtain ⟨rfl, -⟩ := hyk
      have hbl : bs.length = 1 := by rw [← HST.out.len]; exact hS1
      obtain ⟨b, rfl⟩ : ∃ b, bs = [b] := List.length_eq_one_iff.1 hbl
      have HT : Hid (TreeAt t wr (fun q => w.heap.size ≤ q) b (k - 1)) := by
        have h9 := HST.out.trees 0 (by simp) (by omega)
        have h8 := ((after_fine HA.out).chain).2.2.1 (by omega)
        have e : (S[0]'(by omega)).rt = k - 1 := by
          have h7 := h8.2
          simp only [hS1] at h7
          simp at h7
          omega
        rw [e] at h9
        exact h9.but (But.ofBelow (S := fun _ => False) (Below.refl _ _)) (fun _ _ h => h) (fun _ h _ => h.2)
      have q0 : wr.cell? ⟨g, 0, none⟩ = some (.pointer (some ⟨b, 0, none⟩)) := by
        have h9 := owns_at HST.out.own 0 (by simp)
        rw [h9]
        rfl
      have hold := HST.out.old
      go_wp2
      go_ret
      exact ⟨b, rfl, HT.out, hold⟩
set_option maxRecDepth 100000 in
set_option maxHeartbeats 1000000 in
theorem implPlain_any (t : List Nd) (m : Nat) (HM : Hid (t.length = m)) (hm : m ≤ 1048576) (ao : Option Addr) (cap : Nat) (w : World) (hx : Nodes w ao t) :
    Calls Tryz.prog 17 #[.slice ao m cap] w fun e w' => (∃ b : Bool, e = .returned (.bool b) ∧ (b = true ↔ InForm plainOwn plainKids pCode t)) ∧ Below w.heap.size w w' := by
  go_enter Tryz.func17, Tryz.ntmps17
  go_wp2_with fail
  refine (plainDemands_any w).mono ?_
  rintro e w1 ⟨⟨tab, hts, rfl, htab⟩, hb1⟩
  have HF := isInForm_any plainOwn plainKids pCode tab (.func (.func 34) #[] #[]) t m HM hm ao cap w1 (hx.below hb1) htab (isCodeV w1)
  clear htab hx
  go_wp2_with fail
  refine HF.mono ?_
  rintro e w2 ⟨⟨b, rfl, hb⟩, hb2⟩
  have HB : Hid (b = true ↔ InForm plainOwn plainKids pCode t) := hb
  have hbb := Below.step hb1 hb2
  clear HF hb hb1 hb2
  go_wp2
  go_ret
  exact ⟨⟨b, rfl, HB.out⟩, hbb⟩
theorem one_of_raw {t : List Nd} (h : rawDeep t ≠ 0) : 0 < t.length ∧ ∃ S ys, after t t.length = some (S, ys) ∧ S.length = 1 := by
  obtain ⟨h0, S, ys, hA⟩ := raw_after h
  refine ⟨h0, S, ys, hA, ?_⟩
  obtain ⟨s, hs, hd, -, -, -⟩ := raw_some rfl h0 hA
  have hf := after_fine hA
  have hfr : s.fr = 0 := by
    by_cases e : s.fr = 0
    · exact e
    · rw [hd, if_neg e] at h
      exact absurd rfl h
  have hc := hf.chain
  have hS0 : 0 < S.length := by
    rcases Nat.eq_zero_or_pos S.length with e | e
    · have := hc.2.2.2 e; omega
    · exact e
  obtain ⟨c1, c2⟩ := hc.2.2.1 hS0
  have hm := hf.mem (S.length - 1) (by omega)
  have er : (S[S.length - 1]'(by omega)).rt = t.length - 1 := by omega
  rw [er, hs] at hm
  simp only [Option.some.injEq] at hm
  rcases Nat.lt_or_ge 1 S.length with h1 | h1
  · have h9 := hc.2.1 (S.length - 2) (by omega)
    have e2 : S.length - 2 + 1 = S.length - 1 := by omega
    simp only [e2] at h9
    rw [← hm, hfr] at h9
    omega
  · omega
set_option maxRecDepth 20000 in
set_option maxHeartbeats 1000000 in
theorem treeOf_any (w : World) (t : List Nd) (m : Nat) (HM : Hid (t.length = m)) (hm : m ≤ 60000) (hm0 : 0 < m) (S ys : List Sp) (HA : Hid (after t m = some (S, ys))) (hS1 : S.length = 1) (ao : Option Addr) (cap : Nat) (hx : Nodes w ao t) :
    Calls Tryz.prog 36 #[.slice ao m cap] w fun e w' => ∃ b, e = .returned (.pointer (some ⟨b, 0, none⟩)) ∧ TreeAt t w' (fun q => w.heap.size ≤ q) b (m - 1) ∧ Below w.heap.size w w' := by
  have HF := foldK_any w t m HM hm hm0 S ys HA hS1 ao cap hx
  clear hx hS1
  go_enter Tryz.func36, Tryz.ntmps36
  go_wp2_with fail
  refine HF.mono ?_
  rintro e w1 ⟨b, rfl, hT, b1⟩
  have HT : Hid (TreeAt t w1 (fun q => w.heap.size ≤ q) b (m - 1)) := hT
  clear HF hT
  go_wp2
  go_ret
  exact ⟨b, rfl, HT.out, b1⟩
end Go.Proofs.YtemancdlnakkmaaGreat
namespace Go.Proofs.YtemancdlnakkmaaGreat
def seg (t : List Nd) (a b : Nat) : List Nd := (t.drop a).take (b - a)
theorem seg_append {t : List Nd} {a c b : Nat} (h1 : a ≤ c) (h2 : c ≤ b) : seg t a c ++ seg t c b = seg t a b := by
  unfold seg
  have e : b - a = (c - a) + (b - c) := by omega
  rw [e, List.take_add, List.drop_drop, show a + (c - a) = c by omega]
theorem seg_one {t : List Nd} {i : Nat} (h : i < t.length) : seg t i (i + 1) = [ndAt t i] := by
  unfold seg
  rw [show i + 1 - i = 1 by omega, ndAt_get h, List.drop_eq_getElem_cons h]
  rfl
def Cn : List Sp → Nat → Nat → Prop
  | [], a, b => a = b
  | s :: K, a, b => s.fr = a ∧ s.fr ≤ s.rt ∧ Cn K (s.rt + 1) b
theorem cnS_le : ∀ {K : List Sp} {a b : Nat}, Cn K a b → a ≤ b
  | [], _, _, h => by simp only [Cn] at h; omega
  | s :: K, a, b, h => by
    obtain ⟨h1, h2, h3⟩ := h
    have := cnS_le h3
    omega
theorem cn_of : ∀ (K : List Sp) (i : Nat), (∀ h : 0 < K.length, (K[K.length - 1]'(by omega)).rt + 1 = i) → (∀ r (h : 0 < r) (h' : r < K.length), (K[r - 1]'(by omega)).rt + 1 = K[r].fr) → (∀ r (h : r < K.length), K[r].fr ≤ K[r].rt) → Cn K (frOf K i) i
  | [], i, _, _, _ => rfl
  | [s], i, hl, _, hm => ⟨rfl, hm 0 (by simp), hl (by simp)⟩
  | s :: s2 :: K, i, hl, hn, hm => by
    refine ⟨rfl, hm 0 (by simp), ?_⟩
    have h1 := hn 1 (by omega) (by simp)
    simp only [List.getElem_cons_zero, List.getElem_cons_succ, Nat.sub_self] at h1
    rw [h1]
    refine cn_of (s2 :: K) i (fun h => ?_) (fun r h h' => ?_) (fun r h => ?_)
    · have := hl (by simp)
      simpa using this
    · have h2 := hn (r + 1) (by omega) (by simp at h' ⊢; omega)
      cases r with
      | zero => omega
      | succ r => simpa using h2
    · have := hm (r + 1) (by simp at h ⊢; omega)
      simpa using this
theorem cn_seg (t : List Nd) : ∀ {K : List Sp} {a b : Nat}, Cn K a b → (K.map fun s => seg t s.fr (s.rt + 1)).flatten = seg t a b
  | [], a, b, h => by
    simp only [Cn] at h
    subst h
    simp [seg]
  | s :: K, a, b, h => by
    obtain ⟨h1, h2, h3⟩ := h
    subst h1
    simp only [List.map_cons, List.flatten_cons]
    rw [cn_seg t h3, seg_append (by omega) (cnS_le h3)]
theorem kids_own {t : List Nd} {S ys : List Sp} {n : Nat} (h : after t n = some (S, ys)) (i : Nat) (hi : i < n) {Si : List Sp} (hSi : after t i = some (Si, ys.take i)) (hk : i < t.length) : ys[i]? = some (over (Si.drop (Si.length - t[i].kids.toNat)) i) := by
  obtain ⟨Sj, hSj⟩ := after_part h (i + 1) (by omega)
  obtain ⟨S0, ys0, s, hk', ha, hs, he⟩ := after_inv hSj
  rw [hSi] at ha
  simp only [Option.some.injEq, Prod.mk.injEq] at ha
  obtain ⟨rfl, rfl⟩ := ha
  have hfn := (after_fine h).len
  obtain ⟨h0, h1, _, hov⟩ := step_some hs
  rw [← hov]
  have h5 : (ys.take (i + 1))[i]? = some s := by
    rw [he, List.getElem?_append_right (by simp; omega)]
    have : i - (ys.take i).length = 0 := by simp; omega
    rw [this]
    rfl
  rw [List.getElem?_take, if_pos (by omega)] at h5
  exact h5
theorem tree_out {t : List Nd} {S ys : List Sp} {m : Nat} (h : after t m = some (S, ys)) : ∀ (f i : Nat) (s : Sp), i < f → i < m → ys[i]? = some s → outT (treT t f i) = seg t s.fr (i + 1) := by
  intro f
  induction f with
  | zero => intro i s h1; omega
  | succ f ih =>
    intro i s hif him hs
    obtain ⟨Si, hSi, hk, hK⟩ := kids_atS h i him
    have ho := kids_own h i him hSi hk
    rw [hs] at ho
    have hKR := kidsRt_eq hSi hk
    obtain ⟨K, hKe⟩ : ∃ K, Si.drop (Si.length - (t[i]).kids.toNat) = K := ⟨_, rfl⟩
    rw [hKe] at hK hKR ho
    have hc := cn_of K i hK.last hK.next (fun r hr => (hK.mem r hr).2.1)
    have e1 : ((kidsRt t i).map (treT t f)).map outT = K.map fun s => seg t s.fr (s.rt + 1) := by
      rw [hKR, List.map_map, List.map_map]
      refine List.map_congr_left (fun x hx => ?_)
      obtain ⟨r, hr, rfl⟩ := List.getElem_of_mem hx
      obtain ⟨h1, h2, h3⟩ := hK.mem r hr
      exact ih K[r].rt K[r] (by omega) (by omega) h1
    have e2 : s.fr = frOf K i := by
      simp only [Option.some.injEq] at ho
      rw [ho]
      rfl
    rw [show treT t (f + 1) i = .mk (ndAt t i) ((kidsRt t i).map (treT t f)) from rfl, outT_eq, e1, cn_seg t hc, e2, ← seg_one hk, seg_append (cnS_le hc) (by omega)]
theorem tree_root {t : List Nd} {S ys : List Sp} {m : Nat} (HM : t.length = m) (h : after t m = some (S, ys)) (hS : S.length = 1) (hm0 : 0 < m) : outT (treT t m (m - 1)) = t := by
  have hf := after_fine h
  have hc := hf.chain
  obtain ⟨c1, c2⟩ := hc.2.2.1 (by omega)
  have hm1 := hf.mem 0 (by omega)
  have e0 : S[S.length - 1] = S[0] := by congr 1; omega
  rw [e0] at c2
  have e : S[0].rt = m - 1 := by omega
  rw [e] at hm1
  rw [tree_out h m (m - 1) S[0] (by omega) (by omega) hm1, c1]
  unfold seg
  rw [List.drop_zero, List.take_of_length_le (by omega)]
theorem plain_tree {t : List Nd} {S ys : List Sp} {m : Nat} (HM : t.length = m) (h : after t m = some (S, ys)) (hP : PlainS t) (hx : ∀ x ∈ t, x.text.size ≤ 1048576 ∧ (Lit.int .i64 x.num).wf = true) : ∀ f i, i < f → i < m → PlT (treT t f i) := by
  intro f
  induction f with
  | zero => intro i h1; omega
  | succ f ih =>
    intro i hif him
    have hit : i < t.length := by omega
    obtain ⟨Si, hSi, hk, hK⟩ := kids_atS h i him
    have hKR := kidsRt_eq hSi hk
    have hKN := kidsN_eq hSi hk
    obtain ⟨K, hKe⟩ : ∃ K, Si.drop (Si.length - (t[i]).kids.toNat) = K := ⟨_, rfl⟩
    rw [hKe] at hK hKR hKN
    have hlt := kidsRt_lt h him
    have hmem : ndAt t i ∈ t := by rw [ndAt_get hit]; exact List.getElem_mem hit
    obtain ⟨h1, h2⟩ := hx _ hmem
    have hA : after t t.length = some (S, ys) := by rw [HM]; exact h
    have hok := hP.2.2.2 i hit
    rw [okP_eq hA i hit] at hok
    unfold okAt at hok
    simp only [Bool.and_eq_true] at hok
    have e1 : ((kidsRt t i).map (treT t f)).map Tre.nd = kidsN t i := by
      rw [hKN, hKR, List.map_map, List.map_map]
      refine List.map_congr_left (fun x _ => ?_)
      simp only [Function.comp]
      cases f <;> rfl
    refine .mk _ _ ⟨by rw [e1]; exact hok.1, h1, h2, ?_, ?_⟩ (fun k hk9 => ?_)
    · rw [List.length_map, hKR, List.length_map]
      have := hK.len
      have := hP.1
      omega
    · rw [List.length_map, hKR, List.length_map, ndAt_get hit]
      exact hK.num.choose_spec
    · obtain ⟨r, hr, rfl⟩ := List.mem_map.1 hk9
      have := hlt r hr
      exact ih r (by omega) (by omega)
end Go.Proofs.YtemancdlnakkmaaGreat

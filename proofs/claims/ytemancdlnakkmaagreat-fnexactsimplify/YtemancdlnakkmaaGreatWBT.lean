import Derived.Test.YtemancdlnakkmaaGreatWBS
namespace Go.Proofs.YtemancdlnakkmaaGreat
open Go.RowKit Go.Maps
set_option maxRecDepth 20000 in
set_option maxHeartbeats 4000000 in
theorem fit_str (n : Nd) (ks : List Tre) (V : Tre) (pb rb B k : Nat) (v : Value) (w : World) (hk : n.kind = 18) (hP : PlT (.mk n ks)) (hR : PRep w (fun p => p < B) (.mk n ks) pb) (hV : VRep w (fun p => p < B) V v) (hN : NmS w rb B k) :
    Calls Tryz.prog 106 #[.pointer (some ⟨rb, 0, none⟩), .pointer (some ⟨pb, 0, none⟩), v] w fun e w' => FitR B rb k (.mk n ks) V w e w' := by
  obtain rfl := fit0L hP.node (.inr (.inr (.inl hk)))
  have HF : Hid (fitsT (.mk n []) V = (V.nd.kind == 73 && V.nd.text.toList == n.text.toList)) := by show _ = _; rw [fitsT_eq]; simp [fitsStep, hk]
  have HB : Hid (bindsT (.mk n []) = false) := bind0L (by omega)
  obtain ⟨-, so, sc, hblk, -⟩ := hR.opened
  obtain ⟨c0, -, c2, -⟩ := nine hblk
  have lb : pb < w.heap.size := lt_of_cell c0
  have HNS : Hid _ := hN
  have hbr := Below.refl B w
  obtain ⟨kd, nm, tx, kk, pl⟩ := n
  simp only at c0 c2 hk HF
  subst hk
  clear hP hR hN hblk
  cases hV using VRep.inv with
  | int m vs h =>
    have HF2 : Hid (fitsT (.mk ⟨18, nm, tx, kk, pl⟩ []) (.mk m vs) = false) := by show _ = _; rw [HF.out]; simp [Tre.nd, h]
    have ha := Tryz.asIS (.int .i64 m.num) w
    clear HF
    go_enter Tryz.func106, Tryz.ntmps106
    go_wp2
    go_ret
    exact FitR.same HF2.out HNS.out hbr (fun _ => HB.out)
  | str m vs h =>
    have HF2 : Hid (fitsT (.mk ⟨18, nm, tx, kk, pl⟩ []) (.mk m vs) = (m.text.toList == tx.toList)) := by show _ = _; rw [HF.out]; simp [Tre.nd, h]
    have ha := Tryz.asSS (.string m.text) w
    generalize m.text = mm at ha HF2 ⊢
    cases hteq : (mm.toList == tx.toList)
    all_goals
      have HT : Hid ((mm.toList == tx.toList) = _) := hteq
      go_enter Tryz.func106, Tryz.ntmps106
      go_wp2
      go_ret
      exact FitR.same (HF2.out.trans HT.out) HNS.out hbr (fun _ => HB.out)
  | con m vs h c hA blk =>
    have HF2 : Hid (fitsT (.mk ⟨18, nm, tx, kk, pl⟩ []) (.mk m vs) = false) := by show _ = _; rw [HF.out]; simp [Tre.nd, h]
    have ha := Tryz.asCS (.pointer (some ⟨c, 0, none⟩)) w
    clear HF blk
    go_enter Tryz.func106, Tryz.ntmps106
    go_wp2
    go_ret
    exact FitR.same HF2.out HNS.out hbr (fun _ => HB.out)
  | app m x y h c t u hA blk hk =>
    have HF2 : Hid (fitsT (.mk ⟨18, nm, tx, kk, pl⟩ []) (.mk m [x, y]) = false) := by show _ = _; rw [HF.out]; simp [Tre.nd, h]
    have ha := Tryz.asCS (.pointer (some ⟨c, 0, none⟩)) w
    clear HF blk hk
    go_enter Tryz.func106, Tryz.ntmps106
    go_wp2
    go_ret
    exact FitR.same HF2.out HNS.out hbr (fun _ => HB.out)
  | tup m vs h g us hA lt small cells kids =>
    have HF2 : Hid (fitsT (.mk ⟨18, nm, tx, kk, pl⟩ []) (.mk m vs) = false) := by show _ = _; rw [HF.out]; simp [Tre.nd, h]
    have ha := Tryz.asTS (.slice (some ⟨g, 0, none⟩) vs.length vs.length) w
    clear HF cells kids
    go_enter Tryz.func106, Tryz.ntmps106
    go_wp2
    go_ret
    exact FitR.same HF2.out HNS.out hbr (fun _ => HB.out)
theorem NmS.push {w w2 : World} {rb B k : Nat} {v v' u : Value} {xs : List Value} (hB : B ≤ rb) (hb : w.heap[rb]? = some (.cells #[.pointer none, .int .i64 0, .int .i64 0, v] 139 (0, 0))) (ho : w.ownsRow (rb + 1) 133 1 v k xs)
    (ho' : w2.ownsRow (rb + 1) 133 1 v' (k + 1) (xs ++ [u])) (hg : (w.alloc (.cells #[u] 133)).grownBy w2 v.ownBlock) :
    NmS (w2.setCell ⟨rb, 3, none⟩ v') rb B (k + 1) ∧ Below B w (w2.setCell ⟨rb, 3, none⟩ v') ∧ (∃ g c, v' = .slice (some ⟨g, 0, none⟩) (k + 1) c) ∧ w2.heap[rb]? = some (.cells #[.pointer none, .int .i64 0, .int .i64 0, v] 139 (0, 0)) := by
  have lr : rb < w.heap.size := (Array.getElem?_eq_some_iff.1 hb).1
  have hne : some rb ≠ v.ownBlock := by
    intro h
    rcases ho.2 with ⟨h9, -⟩ | ⟨g, cap, cur, h9, hbs, -⟩
    · rw [h9] at h; simp [Value.ownBlock] at h
    · rw [h9] at h; simp [Value.ownBlock] at h; omega
  have hb2 : w2.heap[rb]? = some (.cells #[.pointer none, .int .i64 0, .int .i64 0, v] 139 (0, 0)) := by
    rw [hg.block rb (by rw [World.size_alloc]; omega) hne, ← hb]
    exact ((Below.refl w.heap.size w).alloc (Nat.le_refl _) (.cells #[u] 133)).block rb lr
  have hset : (w2.setCell ⟨rb, 3, none⟩ v').heap[rb]? = some (.cells #[.pointer none, .int .i64 0, .int .i64 0, v'] 139 (0, 0)) := heap_setCell_same _ _ _ _ _ _ hb2
  have hbA : Below B w (w.alloc (.cells #[u] 133)) := (Below.refl B w).alloc (by omega) _
  have hbG : Below B w w2 := hbA.grown hg (by rw [World.size_alloc]; omega) (fun q hq => by
    rcases ho.2 with ⟨h9, -⟩ | ⟨g, cap, cur, h9, hbs, -⟩
    · rw [h9] at hq; simp [Value.ownBlock] at hq
    · rw [h9] at hq; simp [Value.ownBlock] at hq; omega)
  have hbut : But (fun p => p = rb) w2 (w2.setCell ⟨rb, 3, none⟩ v') := (But.refl (fun p => p = rb) w2).setCell (p := ⟨rb, 3, none⟩) rfl _
  rcases ho'.2 with ⟨-, h9⟩ | ⟨g, cap, cur, h9, hbs, r⟩
  · omega
  · subst h9
    exact ⟨⟨hB, _, _, hset, owns_but ho' hbut (by omega)⟩, hbG.setCell (p := ⟨rb, 3, none⟩) hB _, ⟨g, cap, rfl⟩, hb2⟩
theorem four {w : World} {b : Nat} {x0 x1 x2 x3 : Value} {t : TypeId} (h : w.heap[b]? = some (.cells #[x0, x1, x2, x3] t (0, 0))) : w.cell? ⟨b, 3, none⟩ = some x3 ∧ w.frozen? ⟨b, 3, none⟩ = false := by
  refine ⟨?_, ?_⟩
  · rw [cell_of_row _ _ _ _ _ _ h]; rfl
  · simp [World.frozen?, h]
set_option maxRecDepth 20000 in
set_option maxHeartbeats 4000000 in
theorem fit_var (n : Nd) (ks : List Tre) (V : Tre) (pb rb B k : Nat) (v : Value) (w : World) (hk : n.kind = 90) (hP : PlT (.mk n ks)) (hR : PRep w (fun p => p < B) (.mk n ks) pb) (hV : VRep w (fun p => p < B) V v) (hN : NmS w rb B k) (hs : k + szT (.mk n ks) ≤ 1000000000) :
    Calls Tryz.prog 106 #[.pointer (some ⟨rb, 0, none⟩), .pointer (some ⟨pb, 0, none⟩), v] w fun e w' => FitR B rb k (.mk n ks) V w e w' := by
  obtain rfl := fit0L hP.node (.inr (.inr (.inr hk)))
  have hsz : szT (.mk n []) = 1 := by rw [szT_eq]; simp
  have HF : Hid (fitsT (.mk n []) V = true) := by show _ = _; rw [fitsT_eq]; simp [fitsStep, hk]
  have HB : Hid (bindsT (.mk n []) = true) := by show _ = _; rw [bindsT_eq]; simp [hk]
  have HFIN : Hid (∀ w', NmS w' rb B (k + 1) → Below B w w' → FitR B rb k (.mk n []) V w (.returned (.bool true)) w') := fun w' h1 h2 => ⟨k + 1, by rw [HF.out], h1, h2, by omega, fun _ => by rw [HB.out]; simp⟩
  obtain ⟨-, so, sc, hblk, -⟩ := hR.opened
  obtain ⟨c0, -⟩ := nine hblk
  have lb : pb < w.heap.size := lt_of_cell c0
  obtain ⟨hBr, s, xs, hrb, hown⟩ := hN
  obtain ⟨r3, -⟩ := four hrb
  have lr : rb < w.heap.size := lt_of_cell r3
  obtain ⟨t, u, rfl⟩ := hV.iface
  obtain ⟨i0, hi, hz0, hz1, hz2⟩ := info_parts Tryz.infoVP
  obtain ⟨kd, nm, tx, kk, pl⟩ := n
  simp only at c0 hk
  subst hk
  have hown1 := hown.alloc (.cells #[.iface t u] 133)
  have hnews : ∀ j x, ([Value.iface t u])[j]? = some x → (w.alloc (.cells #[.iface t u] 133)).cell? ((⟨w.heap.size, 0, none⟩ : Addr).add j) = some x := by
    intro j x hj
    obtain rfl : j = 0 := by
      have := (List.getElem?_eq_some_iff.1 hj).1
      simp at this
      exact this
    simp at hj
    subst hj
    show (w.alloc (.cells #[.iface t u] 133)).cell? ⟨w.heap.size, 0 + 0, none⟩ = _
    rw [cell_of_row _ _ _ _ _ _ (heap_alloc_new _ _)]
    rfl
  have HPU : Hid (∀ (w2 : World) (v' : Value), w2.ownsRow (rb + 1) 133 1 v' (k + 1) (xs ++ [.iface t u]) → (w.alloc (.cells #[.iface t u] 133)).grownBy w2 s.ownBlock → _) := fun w2 v' h1 h2 => NmS.push hBr hrb hown h1 h2
  clear hP hR hblk hV hrb hown
  go_enter Tryz.func106, Tryz.ntmps106
  go_wp2_with (at_builtin; refine wpList_append_own_at _ rfl (.tmp 26) (.tmp 28) 137 rfl (rb + 1) 133 i0 _ 1 16 Tryz.underlying137 hi hz0 hz1 hz2 rfl (by decide) s k xs rfl hown1 ⟨w.heap.size, 0, none⟩ 1 1 [.iface t u] rfl rfl hnews (by simp [Value.oneCell']) ?a3 ?a4 ?a5 ?_)
  case a3 => unfold maxLen; omega
  case a4 => omega
  case a5 => simp; omega
  rintro v' w2 ho2 hg2 - -
  obtain ⟨hNm, hBl, ⟨g9, c9, rfl⟩, hr2⟩ := HPU.out w2 v' ho2 hg2
  have HNM : Hid _ := hNm
  obtain ⟨r3', f3'⟩ := four hr2
  have lr2 : rb < w2.heap.size := lt_of_cell r3'
  clear ho2 hg2 hNm hr2 hnews hown1 HPU
  go_wp2
  go_ret
  exact HFIN.out _ HNM.out hBl
def FitC (B rb : Nat) (T : Tre) : Prop := ∀ (V : Tre) (pb k : Nat) (v : Value) (w : World), PlT T → patK T.nd = true → PRep w (fun p => p < B) T pb → VRep w (fun p => p < B) V v → NmS w rb B k → k + szT T ≤ 1000000000 →
    Calls Tryz.prog 106 #[.pointer (some ⟨rb, 0, none⟩), .pointer (some ⟨pb, 0, none⟩), v] w fun e w' => FitR B rb k T V w e w'
set_option maxRecDepth 20000 in
set_option maxHeartbeats 4000000 in
theorem fit_as (n : Nd) (ks : List Tre) (V : Tre) (pb rb B k : Nat) (v : Value) (w : World) (hk : n.kind = 91) (hP : PlT (.mk n ks)) (ih : ∀ p ∈ ks, FitC B rb p) (hR : PRep w (fun p => p < B) (.mk n ks) pb) (hV : VRep w (fun p => p < B) V v) (hN : NmS w rb B k) (hs : k + szT (.mk n ks) ≤ 1000000000) :
    Calls Tryz.prog 106 #[.pointer (some ⟨rb, 0, none⟩), .pointer (some ⟨pb, 0, none⟩), v] w fun e w' => FitR B rb k (.mk n ks) V w e w' := by
  obtain ⟨P0, rfl, hp0⟩ := hP.sh.node.qas hk
  have hsz : szT (.mk n [P0]) = szT P0 + 1 := by rw [szT_eq]; simp
  have HF : Hid (fitsT (.mk n [P0]) V = fitsT P0 V) := by show _ = _; rw [fitsT_eq]; simp [fitsStep, hk]
  have HB : Hid (bindsT (.mk n [P0]) = true) := by show _ = _; rw [bindsT_eq]; simp [hk]
  have HFIN : Hid (∀ e w' w'', Below B w w'' → FitR B rb (k + 1) P0 V w'' e w' → FitR B rb k (.mk n [P0]) V w e w') := by
    rintro e w' w'' hb ⟨k', h1, h2, h3, h4, h5⟩
    refine ⟨k', by rw [HF.out]; exact h1, h2, hb.trans h3, by omega, fun hf => ?_⟩
    rw [HF.out] at hf
    have := h5 hf
    rw [HB.out]
    constructor
    · intro h0; have := this.1 h0; omega
    · rintro ⟨-, h⟩; cases h
  obtain ⟨-, so, sc, hblk, hK⟩ := hR.opened
  obtain ⟨c0, -, -, -, -, c5⟩ := nine hblk
  have lb : pb < w.heap.size := lt_of_cell c0
  obtain ⟨-, -, -, bs, h4⟩ := hK
  obtain ⟨g, hso, hgB, d0, hr0⟩ := h4 0 (by simp)
  simp only at hso
  subst hso
  simp only [List.getElem_cons_zero] at hr0
  generalize bs 0 = b0 at d0 hr0
  have lg : g < w.heap.size := lt_of_cell d0
  have hpB : pb < B := hR.opened.1
  simp only [List.length_cons, List.length_nil, Nat.zero_add] at c5
  have HIC : Hid (∀ W, Below B w W → NmS W rb B (k + 1) → Calls Tryz.prog 106 #[.pointer (some ⟨rb, 0, none⟩), .pointer (some ⟨b0, 0, none⟩), v] W fun e w' => FitR B rb (k + 1) P0 V W e w') := fun W hW hNW => ih P0 (by simp) V b0 (k + 1) v W (hP.kid P0 (by simp)) hp0 (hr0.low hW) (hV.low hW) hNW (by omega)
  have HCE : Hid (∀ W, Below B w W → W.cell? ⟨pb, 5, none⟩ = some (.slice (some ⟨g, 0, none⟩) 1 sc) ∧ W.cell? ⟨g, 0, none⟩ = some (.pointer (some ⟨b0, 0, none⟩))) := fun W hW => ⟨bcL hW hpB c5, bcL hW hgB d0⟩
  obtain ⟨hBr, s, xs, hrb, hown⟩ := hN
  obtain ⟨r3, -⟩ := four hrb
  have lr : rb < w.heap.size := lt_of_cell r3
  obtain ⟨t, u, rfl⟩ := hV.iface
  obtain ⟨i0, hi, hz0, hz1, hz2⟩ := info_parts Tryz.infoVP
  obtain ⟨kd, nm, tx, kk, pl⟩ := n
  simp only at c0 hk
  subst hk
  have hown1 := hown.alloc (.cells #[.iface t u] 133)
  have hnews : ∀ j x, ([Value.iface t u])[j]? = some x → (w.alloc (.cells #[.iface t u] 133)).cell? ((⟨w.heap.size, 0, none⟩ : Addr).add j) = some x := by
    intro j x hj
    obtain rfl : j = 0 := by
      have := (List.getElem?_eq_some_iff.1 hj).1
      simp at this
      exact this
    simp at hj
    subst hj
    show (w.alloc (.cells #[.iface t u] 133)).cell? ⟨w.heap.size, 0 + 0, none⟩ = _
    rw [cell_of_row _ _ _ _ _ _ (heap_alloc_new _ _)]
    rfl
  have HPU : Hid (∀ (w2 : World) (v' : Value), w2.ownsRow (rb + 1) 133 1 v' (k + 1) (xs ++ [.iface t u]) → (w.alloc (.cells #[.iface t u] 133)).grownBy w2 s.ownBlock → _) := fun w2 v' h1 h2 => NmS.push hBr hrb hown h1 h2
  have hk9 : k + 1 ≤ 1000000000 := by omega
  clear hP hR hblk hV hrb hown ih h4 hr0 d0 c5 hsz hs hp0
  go_enter Tryz.func106, Tryz.ntmps106
  go_wp2_with (at_builtin; refine wpList_append_own_at _ rfl (.tmp 38) (.tmp 40) 137 rfl (rb + 1) 133 i0 _ 1 16 Tryz.underlying137 hi hz0 hz1 hz2 rfl (by decide) s k xs rfl hown1 ⟨w.heap.size, 0, none⟩ 1 1 [.iface t u] rfl rfl hnews (by simp [Value.oneCell']) ?a3 ?a4 ?a5 ?_)
  case a3 => unfold maxLen; omega
  case a4 => omega
  case a5 => simp; omega
  rintro v' w2 ho2 hg2 - -
  obtain ⟨hNm, hBl, ⟨g9, c9, rfl⟩, hr2⟩ := HPU.out w2 v' ho2 hg2
  obtain ⟨r3', f3'⟩ := four hr2
  have lr2 : rb < w2.heap.size := lt_of_cell r3'
  have hcl := HIC.out _ hBl hNm
  obtain ⟨q5, q0⟩ := HCE.out _ hBl
  have lp2 : pb < (w2.setCell ⟨rb, 3, none⟩ (.slice (some ⟨g9, 0, none⟩) (k + 1) c9)).heap.size := lt_of_cell q5
  have lg2 : g < (w2.setCell ⟨rb, 3, none⟩ (.slice (some ⟨g9, 0, none⟩) (k + 1) c9)).heap.size := lt_of_cell q0
  clear ho2 hg2 hNm hr2 hnews hown1 HPU HIC HCE c0
  go_wp2_with fail
  refine hcl.mono ?_
  intro e w3 h3
  have HR3 : Hid _ := HFIN.out e w3 _ hBl h3
  obtain ⟨k', rfl, -⟩ := h3
  clear hcl
  go_wp2
  go_ret
  exact HR3.out
theorem zipB_append (fs hs : List (Tre → Bool)) (vs us : List Tre) (h : fs.length = vs.length) : zipB (fs ++ hs) (vs ++ us) = (zipB fs vs && zipB hs us) := by
  induction fs generalizing vs with
  | nil =>
    cases vs with
    | nil => simp [zipB]
    | cons v vs => simp at h
  | cons a fs ih =>
    cases vs with
    | nil => simp at h
    | cons v vs =>
      simp only [List.length_cons, Nat.add_right_cancel_iff] at h
      simp [zipB, ih vs h, Bool.and_assoc]
theorem zipB_lenP (fs : List (Tre → Bool)) (vs : List Tre) (h : fs.length ≠ vs.length) : zipB fs vs = false := by
  induction fs generalizing vs with
  | nil =>
    cases vs with
    | nil => simp at h
    | cons v vs => rfl
  | cons a fs ih =>
    cases vs with
    | nil => rfl
    | cons v vs =>
      simp only [List.length_cons, ne_eq, Nat.add_right_cancel_iff] at h
      simp [zipB, ih vs h]
structure PartS (B rb k : Nat) (ks vs : List Tre) (w wr : World) (j kj : Nat) : Prop where
  nm : NmS wr rb B kj
  low : Below B w wr
  le : kj ≤ k + ((ks.take j).map szT).sum
  iff : kj = 0 ↔ k = 0 ∧ (ks.take j).any bindsT = false
  fit : zipB ((ks.take j).map fitsT) (vs.take j) = true
def FitPs (B rb k : Nat) (ks vs : List Tre) (w : World) (e : Ending) (w' : World) : Prop :=
  ∃ k', e = .returned (.bool (zipB (ks.map fitsT) vs)) ∧ NmS w' rb B k' ∧ Below B w w' ∧ k' ≤ k + (ks.map szT).sum ∧ (zipB (ks.map fitsT) vs = true → (k' = 0 ↔ k = 0 ∧ ks.any bindsT = false))
theorem take_sum (ks : List Tre) (j : Nat) : ((ks.take j).map szT).sum ≤ (ks.map szT).sum := by
  conv => rhs; rw [← List.take_append_drop j ks, List.map_append, List.sum_append]
  omega
theorem PartS.step {B rb k : Nat} {ks vs : List Tre} {w wr w' : World} {j kj : Nat} (h : PartS B rb k ks vs w wr j kj) (hj : j < ks.length) (hl : ks.length = vs.length) {e : Ending} (hf : FitR B rb kj ks[j] (vs[j]'(by omega)) wr e w') :
    (e = .returned (.bool true) ∧ ∃ k', PartS B rb k ks vs w w' (j + 1) k') ∨ (e = .returned (.bool false) ∧ FitPs B rb k ks vs w (.returned (.bool false)) w') := by
  obtain ⟨k', rfl, h1, h2, h3, h4⟩ := hf
  have hjv : j < vs.length := by omega
  have ek : ks.take (j + 1) = ks.take j ++ [ks[j]] := by rw [List.take_append_getElem hj]
  have ev : vs.take (j + 1) = vs.take j ++ [vs[j]] := by rw [List.take_append_getElem hjv]
  have ez : zipB ((ks.take (j + 1)).map fitsT) (vs.take (j + 1)) = fitsT ks[j] vs[j] := by
    rw [ek, ev, List.map_append, zipB_append _ _ _ _ (by simp; omega), h.fit]
    simp [zipB]
  have es : ((ks.take (j + 1)).map szT).sum = ((ks.take j).map szT).sum + szT ks[j] := by rw [ek, List.map_append, List.sum_append]; rfl
  have hle := h.le
  cases hff : fitsT ks[j] vs[j]
  · right
    refine ⟨by simp, k', ?_, h1, h.low.trans h2, ?_, ?_⟩
    · have e9 : zipB (ks.map fitsT) vs = false := by
        conv => lhs; rw [← List.take_append_drop (j + 1) ks, ← List.take_append_drop (j + 1) vs, List.map_append]
        rw [zipB_append _ _ _ _ (by simp; omega), ez, hff]
        rfl
      rw [e9]
    · have := take_sum ks (j + 1)
      omega
    · intro h9
      have e9 : zipB (ks.map fitsT) vs = false := by
        conv => lhs; rw [← List.take_append_drop (j + 1) ks, ← List.take_append_drop (j + 1) vs, List.map_append]
        rw [zipB_append _ _ _ _ (by simp; omega), ez, hff]
        rfl
      rw [e9] at h9
      cases h9
  · left
    refine ⟨by simp, k', h1, h.low.trans h2, by omega, ?_, by rw [ez, hff]⟩
    have h5 := h4 hff
    have h6 := h.iff
    rw [ek, List.any_append]
    simp only [List.any_cons, List.any_nil, Bool.or_false, Bool.or_eq_false_iff]
    constructor
    · intro h0
      obtain ⟨a, b⟩ := h5.1 h0
      obtain ⟨c, d⟩ := h6.1 a
      exact ⟨c, d, b⟩
    · rintro ⟨a, b, c⟩
      exact h5.2 ⟨h6.2 ⟨a, b⟩, c⟩
set_option maxRecDepth 20000 in
set_option maxHeartbeats 4000000 in
theorem fitParts_any (ks vs : List Tre) (s : Sl3) (g rb B k : Nat) (us : Nat → Value) (w : World) (hP : ∀ p ∈ ks, PlT p) (hpat : ∀ p ∈ ks, patK p.nd = true) (ih : ∀ p ∈ ks, FitC B rb p) (hK : PKids w (fun p => p < B) s ks) (hg : g < B) (hvl : vs.length ≤ 60000)
    (hc : ∀ j, j < vs.length → w.cell? ⟨g, j, none⟩ = some (us j)) (hv : ∀ j (h : j < vs.length), VRep w (fun p => p < B) vs[j] (us j)) (hN : NmS w rb B k) (hs : k + (ks.map szT).sum ≤ 1000000000) :
    Calls Tryz.prog 118 #[.pointer (some ⟨rb, 0, none⟩), .slice s.1 s.2.1 s.2.2, .slice (some ⟨g, 0, none⟩) vs.length vs.length] w fun e w' => FitPs B rb k ks vs w e w' := by
  obtain ⟨so, sl, sc⟩ := s
  obtain ⟨e1, h2, h3, bs, h4⟩ := hK
  simp only at e1 h2 h4
  subst e1
  obtain ⟨q, hq⟩ : ∃ q, ks.length = q := ⟨_, rfl⟩
  obtain ⟨r, hr⟩ : ∃ r, vs.length = r := ⟨_, rfl⟩
  have HQ : Hid (ks.length = q) := hq
  have HR : Hid (vs.length = r) := hr
  rw [hq] at h2 h3
  rw [hr] at hvl
  have hbr := Below.refl B w
  simp only [hq, hr]
  by_cases hqr : q = r
  rotate_left
  · have HZ : Hid (zipB (ks.map fitsT) vs = false) := zipB_lenP _ _ (by simp; omega)
    have HFIN : Hid (FitPs B rb k ks vs w (.returned (.bool false)) w) := ⟨k, by rw [HZ.out], hN, hbr, by omega, fun h => by rw [HZ.out] at h; cases h⟩
    have tq : ((q : Int) != (r : Int)) = true := by simp; omega
    clear hP hpat ih h4 hc hv hN hs hq hr
    go_enter Tryz.func118, Tryz.ntmps118
    go_wp2
    go_ret
    exact HFIN.out
  subst hqr
  have hl : ks.length = vs.length := by omega
  have HST : Hid (PartS B rb k ks vs w w 0 k) := ⟨hN, hbr, by simp, by simp, by simp [zipB]⟩
  have HCK : Hid (∀ (j : Nat), j < q → ∃ gp, so = some ⟨gp, 0, none⟩ ∧ (∀ W, Below B w W → W.cell? ⟨gp, j, none⟩ = some (.pointer (some ⟨bs j, 0, none⟩))) ∧ (∀ W, Below B w W → W.cell? ⟨g, j, none⟩ = some (us j)) ∧ (∃ t u, us j = .iface t u) ∧ ∀ (W : World) (kj : Nat), PartS B rb k ks vs w W j kj → Calls Tryz.prog 106 #[.pointer (some ⟨rb, 0, none⟩), .pointer (some ⟨bs j, 0, none⟩), us j] W fun e w' => (e = .returned (.bool true) ∧ ∃ k', PartS B rb k ks vs w w' (j + 1) k') ∨ (e = .returned (.bool false) ∧ FitPs B rb k ks vs w (.returned (.bool false)) w')) := by
    intro j hj
    have hj9 : j < ks.length := by omega
    have hj8 : j < vs.length := by omega
    obtain ⟨gp, e, hgp, hcp, hrp⟩ := h4 j hj9
    refine ⟨gp, e, fun W hW => bcL hW hgp hcp, fun W hW => bcL hW hg (hc j hj8), (hv j hj8).iface, fun W kj hS => ?_⟩
    have h9 := hS.le
    have h8 : ((ks.take j).map szT).sum + szT ks[j] ≤ (ks.map szT).sum := by
      have e8 := take_sum ks (j + 1)
      rw [← List.take_append_getElem hj9, List.map_append, List.sum_append] at e8
      exact e8
    refine (ih ks[j] (List.getElem_mem hj9) vs[j] (bs j) kj (us j) W (hP _ (List.getElem_mem hj9)) (hpat _ (List.getElem_mem hj9)) (hrp.low hS.low) ((hv j hj8).low hS.low) hS.nm (by omega)).mono ?_
    intro e w' hf
    exact hS.step hj9 hl hf
  have HEND : Hid (∀ W kj, PartS B rb k ks vs w W q kj → FitPs B rb k ks vs w (.returned (.bool true)) W) := by
    intro W kj hS
    have a1 := hS.fit
    have a2 := hS.le
    have a3 := hS.iff
    rw [← hq, List.take_length] at a1 a2 a3
    rw [hl, List.take_length] at a1
    exact ⟨kj, by rw [a1], hS.nm, hS.low, a2, fun _ => a3⟩
  have tq : ((q : Int) != (q : Int)) = false := by simp
  clear hP hpat ih h4 hc hv hN hs hq hr hl
  go_enter Tryz.func118, Tryz.ntmps118
  go_wp2
  go_loopw [16] (fun i wr => ∃ (j kj : Nat), j ≤ q ∧ i = .int .i64 j ∧ PartS B rb k ks vs w wr j kj) (fun i _ => q - (intOf i).toNat)
  case atStart => exact ⟨0, k, Nat.zero_le _, rfl, HST.out⟩
  case round =>
    obtain ⟨j, kj, hj, rfl, hS⟩ := hrel
    by_cases hlt : j < q
    · obtain ⟨gp, rfl, hc1, hc2, ⟨t9, u9, hu⟩, hcall⟩ := HCK.out j hlt
      have hd1 := hc1 wr hS.low
      have hd2 := hc2 wr hS.low
      have lg1 : gp < wr.heap.size := lt_of_cell hd1
      have lg2 : g < wr.heap.size := lt_of_cell hd2
      have hcl := hcall wr kj hS
      rw [hu] at hd2 hcl
      clear hc1 hc2 hcall hS
      go_wp2_with fail
      refine hcl.mono ?_
      rintro e w3 (⟨rfl, k3, hS3⟩ | ⟨rfl, hF3⟩)
      · clear hcl hd1 hd2
        go_wp2
        go_roundw
        case rel => exact ⟨j + 1, k3, by omega, by go_num, hS3⟩
        case measure => simp [intOf]; omega
      · have HF3 : Hid _ := hF3
        clear hcl hd1 hd2 hF3
        go_wp2
        go_ret
        exact HF3.out
    · obtain rfl : j = q := by omega
      have HE : Hid _ := HEND.out wr kj hS
      clear hS
      go_wp2
      go_ret
      exact HE.out
set_option maxRecDepth 20000 in
set_option maxHeartbeats 4000000 in
theorem fit_tup (n : Nd) (ks : List Tre) (V : Tre) (pb rb B k : Nat) (v : Value) (w : World) (hk : n.kind = 20) (hP : PlT (.mk n ks)) (ih : ∀ p ∈ ks, FitC B rb p) (hR : PRep w (fun p => p < B) (.mk n ks) pb) (hV : VRep w (fun p => p < B) V v) (hN : NmS w rb B k) (hs : k + szT (.mk n ks) ≤ 1000000000) :
    Calls Tryz.prog 106 #[.pointer (some ⟨rb, 0, none⟩), .pointer (some ⟨pb, 0, none⟩), v] w fun e w' => FitR B rb k (.mk n ks) V w e w' := by
  have hsz := szT_eq n ks
  have HF : Hid (fitsT (.mk n ks) V = (V.nd.kind == 75 && zipB (ks.map fitsT) V.ks)) := by show _ = _; rw [fitsT_eq]; simp [fitsStep, hk]
  have HB : Hid (bindsT (.mk n ks) = ks.any bindsT) := by show _ = _; rw [bindsT_eq]; simp [hk]
  obtain ⟨-, so, sc, hblk, hK⟩ := hR.opened
  obtain ⟨c0, -, -, -, -, c5⟩ := nine hblk
  have lb : pb < w.heap.size := lt_of_cell c0
  have HNS : Hid _ := hN
  have hbr := Below.refl B w
  have HFIN : Hid (∀ (vs : List Tre) (g : Nat) (us : Nat → Value), g < B → vs.length ≤ 60000 → (∀ j, j < vs.length → w.cell? ⟨g, j, none⟩ = some (us j)) → (∀ j (h : j < vs.length), VRep w (fun p => p < B) vs[j] (us j)) → Calls Tryz.prog 118 #[.pointer (some ⟨rb, 0, none⟩), .slice so ks.length sc, .slice (some ⟨g, 0, none⟩) vs.length vs.length] w fun e w' => FitPs B rb k ks vs w e w') :=
    fun vs g us h1 h2 h3 h4 => fitParts_any ks vs (so, ks.length, sc) g rb B k us w (hP.kid) (hP.sh.node.tup hk) ih hK h1 h2 h3 h4 hN (by omega)
  have HSZ : Hid (szT (.mk n ks) = (ks.map szT).sum + 1) := hsz
  obtain ⟨q, hq⟩ : ∃ q, ks.length = q := ⟨_, rfl⟩
  rw [hq] at c5 HFIN
  obtain ⟨kd, nm, tx, kk, pl⟩ := n
  simp only at c0 hk HF c5
  subst hk
  clear hP hR hN hblk ih hK hsz hs hq
  cases hV using VRep.inv with
  | int m vs h =>
    have HF2 : Hid (fitsT (.mk ⟨20, nm, tx, kk, pl⟩ ks) (.mk m vs) = false) := by show _ = _; rw [HF.out]; simp [Tre.nd, h]
    have ha := Tryz.asIT (.int .i64 m.num) w
    clear HF  HFIN
    go_enter Tryz.func106, Tryz.ntmps106
    go_wp2
    go_ret
    exact FitR.same HF2.out HNS.out hbr (fun h => by cases h)
  | str m vs h =>
    have HF2 : Hid (fitsT (.mk ⟨20, nm, tx, kk, pl⟩ ks) (.mk m vs) = false) := by show _ = _; rw [HF.out]; simp [Tre.nd, h]
    have ha := Tryz.asST (.string m.text) w
    clear HF  HFIN
    go_enter Tryz.func106, Tryz.ntmps106
    go_wp2
    go_ret
    exact FitR.same HF2.out HNS.out hbr (fun h => by cases h)
  | con m vs h c hA blk =>
    have HF2 : Hid (fitsT (.mk ⟨20, nm, tx, kk, pl⟩ ks) (.mk m vs) = false) := by show _ = _; rw [HF.out]; simp [Tre.nd, h]
    have ha := Tryz.asCT (.pointer (some ⟨c, 0, none⟩)) w
    clear HF blk HFIN
    go_enter Tryz.func106, Tryz.ntmps106
    go_wp2
    go_ret
    exact FitR.same HF2.out HNS.out hbr (fun h => by cases h)
  | app m x y h c t u hA blk hk =>
    have HF2 : Hid (fitsT (.mk ⟨20, nm, tx, kk, pl⟩ ks) (.mk m [x, y]) = false) := by show _ = _; rw [HF.out]; simp [Tre.nd, h]
    have ha := Tryz.asCT (.pointer (some ⟨c, 0, none⟩)) w
    clear HF blk hk HFIN
    go_enter Tryz.func106, Tryz.ntmps106
    go_wp2
    go_ret
    exact FitR.same HF2.out HNS.out hbr (fun h => by cases h)
  | tup m vs h g us hA lt small cells kids =>
    have HF2 : Hid (fitsT (.mk ⟨20, nm, tx, kk, pl⟩ ks) (.mk m vs) = zipB (ks.map fitsT) vs) := by show _ = _; rw [HF.out]; simp [Tre.nd, Tre.ks, h]
    have ha := Tryz.asTT (.slice (some ⟨g, 0, none⟩) vs.length vs.length) w
    have hcl := HFIN.out vs g us hA small cells kids
    have HE : Hid (∀ e w', FitPs B rb k ks vs w e w' → FitR B rb k (.mk ⟨20, nm, tx, kk, pl⟩ ks) (.mk m vs) w e w') := by
      rintro e w' ⟨k', h1, h2, h3, h4, h5⟩
      refine ⟨k', by rw [HF2.out]; exact h1, h2, h3, by have := HSZ.out; omega, fun hf => ?_⟩
      rw [HF2.out] at hf
      rw [HB.out]
      exact h5 hf
    clear HF cells kids HFIN HF2
    generalize vs.length = r at ha hcl small ⊢
    go_enter Tryz.func106, Tryz.ntmps106
    go_wp2_with fail
    refine hcl.mono ?_
    intro e w3 h3
    have HR3 : Hid _ := HE.out e w3 h3
    obtain ⟨k', rfl, -⟩ := h3
    clear hcl HE
    go_wp2
    go_ret
    exact HR3.out
set_option maxRecDepth 20000 in
set_option maxHeartbeats 4000000 in
theorem fitArg_nil (rb q sc : Nat) (so : Option Addr) (w : World) :
    Calls Tryz.prog 119 #[.pointer (some ⟨rb, 0, none⟩), .slice so q sc, .nilIface] w fun e w' => e = .returned (.bool (decide (q = 0))) ∧ w' = w := by
  by_cases h : q = 0
  · subst h
    go_enter Tryz.func119, Tryz.ntmps119
    go_wp2
    go_ret
    exact ⟨by simp, rfl⟩
  · have t : ((q : Int) == 0) = false := by simp; omega
    have HD : Hid (decide (q = 0) = false) := decide_eq_false h
    go_enter Tryz.func119, Tryz.ntmps119
    go_wp2
    go_ret
    exact ⟨by rw [HD.out]; rfl, rfl⟩
set_option maxRecDepth 20000 in
set_option maxHeartbeats 4000000 in
theorem fitArg_none (rb sc : Nat) (so : Option Addr) (t : TypeId) (u : Value) (w : World) :
    Calls Tryz.prog 119 #[.pointer (some ⟨rb, 0, none⟩), .slice so 0 sc, .iface t u] w fun e w' => e = .returned (.bool false) ∧ w' = w := by
  go_enter Tryz.func119, Tryz.ntmps119
  go_wp2
  go_ret
  exact ⟨rfl, rfl⟩
set_option maxRecDepth 20000 in
set_option maxHeartbeats 4000000 in
theorem fitArg_some (p y : Tre) (rb B k sc g b0 : Nat) (t : TypeId) (u : Value) (w : World) (hc : w.cell? ⟨g, 0, none⟩ = some (.pointer (some ⟨b0, 0, none⟩))) (h : Calls Tryz.prog 106 #[.pointer (some ⟨rb, 0, none⟩), .pointer (some ⟨b0, 0, none⟩), .iface t u] w fun e w' => FitR B rb k p y w e w') :
    Calls Tryz.prog 119 #[.pointer (some ⟨rb, 0, none⟩), .slice (some ⟨g, 0, none⟩) 1 sc, .iface t u] w fun e w' => FitR B rb k p y w e w' := by
  have lg : g < w.heap.size := lt_of_cell hc
  go_enter Tryz.func119, Tryz.ntmps119
  go_wp2_with fail
  refine h.mono ?_
  intro e w3 h3
  have HR3 : Hid (FitR B rb k p y w e w3) := h3
  obtain ⟨k', rfl, -⟩ := h3
  clear h
  go_wp2
  go_ret
  exact HR3.out
end Go.Proofs.YtemancdlnakkmaaGreat

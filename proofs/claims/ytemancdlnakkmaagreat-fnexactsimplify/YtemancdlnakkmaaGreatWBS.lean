import Derived.Test.YtemancdlnakkmaaGreatWBR
import Derived.Maps.AppendAt
namespace Go.Proofs.YtemancdlnakkmaaGreat
open Go.RowKit Go.Maps
theorem Tryz.asII (v : Value) (w : World) : (Instr.typeAssert (.iface 149 v) 133 149 true).run Tryz.prog w = .ok (.tuple #[v, .bool true]) w := by kernel_rfl
theorem Tryz.asIS (v : Value) (w : World) : (Instr.typeAssert (.iface 149 v) 133 150 true).run Tryz.prog w = .ok (.tuple #[.string ⟨#[]⟩, .bool false]) w := by kernel_rfl
theorem Tryz.asIC (v : Value) (w : World) : (Instr.typeAssert (.iface 149 v) 133 151 true).run Tryz.prog w = .ok (.tuple #[.pointer none, .bool false]) w := by kernel_rfl
theorem Tryz.asIT (v : Value) (w : World) : (Instr.typeAssert (.iface 149 v) 133 154 true).run Tryz.prog w = .ok (.tuple #[.slice none 0 0, .bool false]) w := by kernel_rfl
theorem Tryz.asSI (v : Value) (w : World) : (Instr.typeAssert (.iface 150 v) 133 149 true).run Tryz.prog w = .ok (.tuple #[.int .i64 0, .bool false]) w := by kernel_rfl
theorem Tryz.asSS (v : Value) (w : World) : (Instr.typeAssert (.iface 150 v) 133 150 true).run Tryz.prog w = .ok (.tuple #[v, .bool true]) w := by kernel_rfl
theorem Tryz.asSC (v : Value) (w : World) : (Instr.typeAssert (.iface 150 v) 133 151 true).run Tryz.prog w = .ok (.tuple #[.pointer none, .bool false]) w := by kernel_rfl
theorem Tryz.asST (v : Value) (w : World) : (Instr.typeAssert (.iface 150 v) 133 154 true).run Tryz.prog w = .ok (.tuple #[.slice none 0 0, .bool false]) w := by kernel_rfl
theorem Tryz.asCI (v : Value) (w : World) : (Instr.typeAssert (.iface 151 v) 133 149 true).run Tryz.prog w = .ok (.tuple #[.int .i64 0, .bool false]) w := by kernel_rfl
theorem Tryz.asCS (v : Value) (w : World) : (Instr.typeAssert (.iface 151 v) 133 150 true).run Tryz.prog w = .ok (.tuple #[.string ⟨#[]⟩, .bool false]) w := by kernel_rfl
theorem Tryz.asCC (v : Value) (w : World) : (Instr.typeAssert (.iface 151 v) 133 151 true).run Tryz.prog w = .ok (.tuple #[v, .bool true]) w := by kernel_rfl
theorem Tryz.asCT (v : Value) (w : World) : (Instr.typeAssert (.iface 151 v) 133 154 true).run Tryz.prog w = .ok (.tuple #[.slice none 0 0, .bool false]) w := by kernel_rfl
theorem Tryz.asTI (v : Value) (w : World) : (Instr.typeAssert (.iface 154 v) 133 149 true).run Tryz.prog w = .ok (.tuple #[.int .i64 0, .bool false]) w := by kernel_rfl
theorem Tryz.asTS (v : Value) (w : World) : (Instr.typeAssert (.iface 154 v) 133 150 true).run Tryz.prog w = .ok (.tuple #[.string ⟨#[]⟩, .bool false]) w := by kernel_rfl
theorem Tryz.asTC (v : Value) (w : World) : (Instr.typeAssert (.iface 154 v) 133 151 true).run Tryz.prog w = .ok (.tuple #[.pointer none, .bool false]) w := by kernel_rfl
theorem Tryz.asTT (v : Value) (w : World) : (Instr.typeAssert (.iface 154 v) 133 154 true).run Tryz.prog w = .ok (.tuple #[v, .bool true]) w := by kernel_rfl
def NmS (w : World) (rb B k : Nat) : Prop := B ≤ rb ∧ ∃ (v : Value) (xs : List Value), w.heap[rb]? = some (.cells #[.pointer none, .int .i64 0, .int .i64 0, v] 139 (0, 0)) ∧ w.ownsRow (rb + 1) 133 1 v k xs
theorem But.low {B : Nat} {w w' : World} (h : Below B w w') : But (fun p => B ≤ p) w w' := ⟨h.os, h.tape, h.output, h.size, fun i _ hn => h.block i (by omega)⟩
theorem PRep.low {w w' : World} {B : Nat} {T : Tre} {b : Nat} (h : PRep w (fun p => p < B) T b) (hb : Below B w w') : PRep w' (fun p => p < B) T b :=
  h.but (But.low hb) (fun q hq hn => by omega) (fun q hq _ => hq)
theorem VRep.low {w w' : World} {B : Nat} {T : Tre} {v : Value} (h : VRep w (fun p => p < B) T v) (hb : Below B w w') : VRep w' (fun p => p < B) T v :=
  h.but (But.low hb) (fun q hq hn => by omega) (fun q hq _ => hq)
def szT (T : Tre) : Nat := (outT T).length
theorem szT_eq (n : Nd) (ks : List Tre) : szT (.mk n ks) = (ks.map szT).sum + 1 := by
  unfold szT
  rw [outT_eq, List.length_append, List.length_flatten, List.map_map]
  rfl
theorem NmS.drew {w : World} {rb B k : Nat} (h : NmS w rb B k) (m : Nat) : NmS (w.drewN m) rb B k := h
def FitR (B rb k : Nat) (T V : Tre) (w : World) (e : Ending) (w' : World) : Prop :=
  ∃ k', e = .returned (.bool (fitsT T V)) ∧ NmS w' rb B k' ∧ Below B w w' ∧ k' ≤ k + szT T ∧ (fitsT T V = true → (k' = 0 ↔ k = 0 ∧ bindsT T = false))
theorem FitR.same {B rb k : Nat} {T V : Tre} {w w' : World} {r : Bool} (h : fitsT T V = r) (hN : NmS w' rb B k) (hb : Below B w w') (hB : r = true → bindsT T = false) : FitR B rb k T V w (.returned (.bool r)) w' := by
  refine ⟨k, by rw [h], hN, hb, by omega, fun hf => ?_⟩
  rw [h] at hf
  rw [hB hf]
  simp
theorem fit0L {n : Nd} {ks : List Tre} (h : PlN n ks) (hk : n.kind = 15 ∨ n.kind = 17 ∨ n.kind = 18 ∨ n.kind = 90) : ks = [] := by
  rcases hk with e | e | e | e
  · exact fit0T (h.at 15 e)
  · exact fit0T (h.at 17 e)
  · exact fit0T (h.at 18 e)
  · exact fit0T (h.at 90 e)
theorem bind0L {n : Nd} (h : n.kind ≠ 90 ∧ n.kind ≠ 91) : bindsT (.mk n []) = false := by
  rw [bindsT_eq]
  simp [h.1, h.2]
set_option maxRecDepth 20000 in
set_option maxHeartbeats 4000000 in
theorem fit_wild (n : Nd) (ks : List Tre) (V : Tre) (pb rb B k : Nat) (v : Value) (w : World) (hk : n.kind = 15) (hP : PlT (.mk n ks)) (hR : PRep w (fun p => p < B) (.mk n ks) pb) (hN : NmS w rb B k) :
    Calls Tryz.prog 106 #[.pointer (some ⟨rb, 0, none⟩), .pointer (some ⟨pb, 0, none⟩), v] w fun e w' => FitR B rb k (.mk n ks) V w e w' := by
  obtain rfl := fit0L hP.node (.inl hk)
  have HF : Hid (fitsT (.mk n []) V = true) := by show _ = _; rw [fitsT_eq]; simp [fitsStep, hk]
  have HB : Hid (bindsT (.mk n []) = false) := bind0L (by omega)
  obtain ⟨-, so, sc, hblk, -⟩ := hR.opened
  obtain ⟨c0, -⟩ := nine hblk
  have lb : pb < w.heap.size := lt_of_cell c0
  have HNS : Hid _ := hN
  have hbr := Below.refl B w
  obtain ⟨kd, nm, tx, kk, pl⟩ := n
  simp only at c0 hk
  subst hk
  clear hP hR hN hblk
  go_enter Tryz.func106, Tryz.ntmps106
  go_wp2
  go_ret
  exact FitR.same HF.out HNS.out hbr (fun _ => HB.out)
set_option maxRecDepth 20000 in
set_option maxHeartbeats 4000000 in
theorem fit_int (n : Nd) (ks : List Tre) (V : Tre) (pb rb B k : Nat) (v : Value) (w : World) (hk : n.kind = 17) (hP : PlT (.mk n ks)) (hR : PRep w (fun p => p < B) (.mk n ks) pb) (hV : VRep w (fun p => p < B) V v) (hN : NmS w rb B k) :
    Calls Tryz.prog 106 #[.pointer (some ⟨rb, 0, none⟩), .pointer (some ⟨pb, 0, none⟩), v] w fun e w' => FitR B rb k (.mk n ks) V w e w' := by
  obtain rfl := fit0L hP.node (.inr (.inl hk))
  have HF : Hid (fitsT (.mk n []) V = (V.nd.kind == 72 && V.nd.num == n.num)) := by show _ = _; rw [fitsT_eq]; simp [fitsStep, hk]
  have HB : Hid (bindsT (.mk n []) = false) := bind0L (by omega)
  obtain ⟨-, so, sc, hblk, -⟩ := hR.opened
  obtain ⟨c0, c1, -⟩ := nine hblk
  have lb : pb < w.heap.size := lt_of_cell c0
  have HNS : Hid _ := hN
  have hbr := Below.refl B w
  obtain ⟨kd, nm, tx, kk, pl⟩ := n
  simp only at c0 c1 hk HF
  subst hk
  clear hP hR hN hblk
  cases hV with
  | int m vs h =>
    have HF2 : Hid (fitsT (.mk ⟨17, nm, tx, kk, pl⟩ []) (.mk m vs) = (m.num == nm)) := by show _ = _; rw [HF.out]; simp [Tre.nd, h]
    have ha := Tryz.asII (.int .i64 m.num) w
    generalize m.num = mm at ha HF2 ⊢
    clear HF
    go_enter Tryz.func106, Tryz.ntmps106
    go_wp2
    go_ret
    exact FitR.same HF2.out HNS.out hbr (fun _ => HB.out)
  | str m vs h =>
    have HF2 : Hid (fitsT (.mk ⟨17, nm, tx, kk, pl⟩ []) (.mk m vs) = false) := by show _ = _; rw [HF.out]; simp [Tre.nd, h]
    have ha := Tryz.asSI (.string m.text) w
    clear HF
    go_enter Tryz.func106, Tryz.ntmps106
    go_wp2
    go_ret
    exact FitR.same HF2.out HNS.out hbr (fun _ => HB.out)
  | con m vs h c hA blk =>
    have HF2 : Hid (fitsT (.mk ⟨17, nm, tx, kk, pl⟩ []) (.mk m vs) = false) := by show _ = _; rw [HF.out]; simp [Tre.nd, h]
    have ha := Tryz.asCI (.pointer (some ⟨c, 0, none⟩)) w
    clear HF blk
    go_enter Tryz.func106, Tryz.ntmps106
    go_wp2
    go_ret
    exact FitR.same HF2.out HNS.out hbr (fun _ => HB.out)
  | app m x y h c t u hA blk hk =>
    have HF2 : Hid (fitsT (.mk ⟨17, nm, tx, kk, pl⟩ []) (.mk m [x, y]) = false) := by show _ = _; rw [HF.out]; simp [Tre.nd, h]
    have ha := Tryz.asCI (.pointer (some ⟨c, 0, none⟩)) w
    clear HF blk hk
    go_enter Tryz.func106, Tryz.ntmps106
    go_wp2
    go_ret
    exact FitR.same HF2.out HNS.out hbr (fun _ => HB.out)
  | tup m vs h g us hA lt small cells kids =>
    have HF2 : Hid (fitsT (.mk ⟨17, nm, tx, kk, pl⟩ []) (.mk m vs) = false) := by show _ = _; rw [HF.out]; simp [Tre.nd, h]
    have ha := Tryz.asTI (.slice (some ⟨g, 0, none⟩) vs.length vs.length) w
    clear HF cells kids
    go_enter Tryz.func106, Tryz.ntmps106
    go_wp2
    go_ret
    exact FitR.same HF2.out HNS.out hbr (fun _ => HB.out)
end Go.Proofs.YtemancdlnakkmaaGreat

namespace Go.Proofs.YtemancdlnakkmaaGreat
open Go.RowKit Go.Maps
set_option maxRecDepth 20000 in
set_option maxHeartbeats 4000000 in
theorem fit_str (n : Nd) (ks : List Tre) (V : Tre) (pb rb B k : Nat) (v : Value) (w : World) (hk : n.kind = 18) (hP : PlT (.mk n ks)) (hR : PRep w (fun p => p < B) (.mk n ks) pb) (hV : VRep w (fun p => p < B) V v) (hN : NmS w rb B k) :
    Calls Tryz.prog 106 #[.pointer (some ⟨rb, 0, none⟩), .pointer (some ⟨pb, 0, none⟩), v] w fun e w' => FitR B rb k (.mk n ks) V w e w' := by
  obtain rfl := fit0L hP.node (.inr (.inr (.inl hk)))
  have HF : Hid (fitsT (.mk n []) V = (V.nd.kind == 73 && V.nd.text.toList == n.text.toList)) := by show _ = _; rw [fitsT_eq]; simp [fitsStep, hk]
  have HB : Hid (bindsT (.mk n []) = false) := bind0L (by omega)
  obtain ⟨-, so, sc, hblk, -⟩ := hR.opened
  obtain ⟨c0, -, c2, -⟩ := nine hblk
  have lb : pb < w.heap.size := lt_of_cell c0
  have HNS : Hid _ := hN
  have hbr := Below.refl B w
  obtain ⟨kd, nm, tx, kk, pl⟩ := n
  simp only at c0 c2 hk HF
  subst hk
  clear hP hR hN hblk
  cases hV with
  | int m vs h =>
    have HF2 : Hid (fitsT (.mk ⟨18, nm, tx, kk, pl⟩ []) (.mk m vs) = false) := by show _ = _; rw [HF.out]; simp [Tre.nd, h]
    have ha := Tryz.asIS (.int .i64 m.num) w
    clear HF
    go_enter Tryz.func106, Tryz.ntmps106
    go_wp2
    go_ret
    exact FitR.same HF2.out HNS.out hbr (fun _ => HB.out)
  | str m vs h =>
    have HF2 : Hid (fitsT (.mk ⟨18, nm, tx, kk, pl⟩ []) (.mk m vs) = (m.text.toList == tx.toList)) := by show _ = _; rw [HF.out]; simp [Tre.nd, h]
    have ha := Tryz.asSS (.string m.text) w
    generalize m.text = mm at ha HF2 ⊢
    cases hteq : (mm.toList == tx.toList)
    all_goals
      have HT : Hid ((mm.toList == tx.toList) = _) := hteq
      go_enter Tryz.func106, Tryz.ntmps106
      go_wp2
      go_ret
      exact FitR.same (HF2.out.trans HT.out) HNS.out hbr (fun _ => HB.out)
  | con m vs h c hA blk =>
    have HF2 : Hid (fitsT (.mk ⟨18, nm, tx, kk, pl⟩ []) (.mk m vs) = false) := by show _ = _; rw [HF.out]; simp [Tre.nd, h]
    have ha := Tryz.asCS (.pointer (some ⟨c, 0, none⟩)) w
    clear HF blk
    go_enter Tryz.func106, Tryz.ntmps106
    go_wp2
    go_ret
    exact FitR.same HF2.out HNS.out hbr (fun _ => HB.out)
  | app m x y h c t u hA blk hk =>
    have HF2 : Hid (fitsT (.mk ⟨18, nm, tx, kk, pl⟩ []) (.mk m [x, y]) = false) := by show _ = _; rw [HF.out]; simp [Tre.nd, h]
    have ha := Tryz.asCS (.pointer (some ⟨c, 0, none⟩)) w
    clear HF blk hk
    go_enter Tryz.func106, Tryz.ntmps106
    go_wp2
    go_ret
    exact FitR.same HF2.out HNS.out hbr (fun _ => HB.out)
  | tup m vs h g us hA lt small cells kids =>
    have HF2 : Hid (fitsT (.mk ⟨18, nm, tx, kk, pl⟩ []) (.mk m vs) = false) := by show _ = _; rw [HF.out]; simp [Tre.nd, h]
    have ha := Tryz.asTS (.slice (some ⟨g, 0, none⟩) vs.length vs.length) w
    clear HF cells kids
    go_enter Tryz.func106, Tryz.ntmps106
    go_wp2
    go_ret
    exact FitR.same HF2.out HNS.out hbr (fun _ => HB.out)
theorem NmS.push {w w2 : World} {rb B k : Nat} {v v' u : Value} {xs : List Value} (hB : B ≤ rb) (hb : w.heap[rb]? = some (.cells #[.pointer none, .int .i64 0, .int .i64 0, v] 139 (0, 0))) (ho : w.ownsRow (rb + 1) 133 1 v k xs)
    (ho' : w2.ownsRow (rb + 1) 133 1 v' (k + 1) (xs ++ [u])) (hg : (w.alloc (.cells #[u] 133)).grownBy w2 v.ownBlock) :
    NmS (w2.setCell ⟨rb, 3, none⟩ v') rb B (k + 1) ∧ Below B w (w2.setCell ⟨rb, 3, none⟩ v') ∧ (∃ g c, v' = .slice (some ⟨g, 0, none⟩) (k + 1) c) ∧ w2.heap[rb]? = some (.cells #[.pointer none, .int .i64 0, .int .i64 0, v] 139 (0, 0)) := by
  have lr : rb < w.heap.size := (Array.getElem?_eq_some_iff.1 hb).1
  have hne : some rb ≠ v.ownBlock := by
    intro h
    rcases ho.2 with ⟨h9, -⟩ | ⟨g, cap, cur, h9, hbs, -⟩
    · rw [h9] at h; simp [Value.ownBlock] at h
    · rw [h9] at h; simp [Value.ownBlock] at h; omega
  have hb2 : w2.heap[rb]? = some (.cells #[.pointer none, .int .i64 0, .int .i64 0, v] 139 (0, 0)) := by
    rw [hg.block rb (by rw [World.size_alloc]; omega) hne, ← hb]
    exact ((Below.refl w.heap.size w).alloc (Nat.le_refl _) (.cells #[u] 133)).block rb lr
  have hset : (w2.setCell ⟨rb, 3, none⟩ v').heap[rb]? = some (.cells #[.pointer none, .int .i64 0, .int .i64 0, v'] 139 (0, 0)) := heap_setCell_same _ _ _ _ _ _ hb2
  have hbA : Below B w (w.alloc (.cells #[u] 133)) := (Below.refl B w).alloc (by omega) _
  have hbG : Below B w w2 := hbA.grown hg (by rw [World.size_alloc]; omega) (fun q hq => by
    rcases ho.2 with ⟨h9, -⟩ | ⟨g, cap, cur, h9, hbs, -⟩
    · rw [h9] at hq; simp [Value.ownBlock] at hq
    · rw [h9] at hq; simp [Value.ownBlock] at hq; omega)
  have hbut : But (fun p => p = rb) w2 (w2.setCell ⟨rb, 3, none⟩ v') := (But.refl (fun p => p = rb) w2).setCell (p := ⟨rb, 3, none⟩) rfl _
  rcases ho'.2 with ⟨-, h9⟩ | ⟨g, cap, cur, h9, hbs, r⟩
  · omega
  · subst h9
    exact ⟨⟨hB, _, _, hset, owns_but ho' hbut (by omega)⟩, hbG.setCell (p := ⟨rb, 3, none⟩) hB _, ⟨g, cap, rfl⟩, hb2⟩
theorem four {w : World} {b : Nat} {x0 x1 x2 x3 : Value} {t : TypeId} (h : w.heap[b]? = some (.cells #[x0, x1, x2, x3] t (0, 0))) : w.cell? ⟨b, 3, none⟩ = some x3 ∧ w.frozen? ⟨b, 3, none⟩ = false := by
  refine ⟨?_, ?_⟩
  · rw [cell_of_row _ _ _ _ _ _ h]; rfl
  · simp [World.frozen?, h]
set_option maxRecDepth 20000 in
set_option maxHeartbeats 4000000 in
theorem fit_var (n : Nd) (ks : List Tre) (V : Tre) (pb rb B k : Nat) (v : Value) (w : World) (hk : n.kind = 90) (hP : PlT (.mk n ks)) (hR : PRep w (fun p => p < B) (.mk n ks) pb) (hV : VRep w (fun p => p < B) V v) (hN : NmS w rb B k) (hs : k + szT (.mk n ks) ≤ 1000000000) :
    Calls Tryz.prog 106 #[.pointer (some ⟨rb, 0, none⟩), .pointer (some ⟨pb, 0, none⟩), v] w fun e w' => FitR B rb k (.mk n ks) V w e w' := by
  obtain rfl := fit0L hP.node (.inr (.inr (.inr hk)))
  have hsz : szT (.mk n []) = 1 := by rw [szT_eq]; simp
  have HF : Hid (fitsT (.mk n []) V = true) := by show _ = _; rw [fitsT_eq]; simp [fitsStep, hk]
  have HB : Hid (bindsT (.mk n []) = true) := by show _ = _; rw [bindsT_eq]; simp [hk]
  have HFIN : Hid (∀ w', NmS w' rb B (k + 1) → Below B w w' → FitR B rb k (.mk n []) V w (.returned (.bool true)) w') := fun w' h1 h2 => ⟨k + 1, by rw [HF.out], h1, h2, by omega, fun _ => by rw [HB.out]; simp⟩
  obtain ⟨-, so, sc, hblk, -⟩ := hR.opened
  obtain ⟨c0, -⟩ := nine hblk
  have lb : pb < w.heap.size := lt_of_cell c0
  obtain ⟨hBr, s, xs, hrb, hown⟩ := hN
  obtain ⟨r3, -⟩ := four hrb
  have lr : rb < w.heap.size := lt_of_cell r3
  obtain ⟨t, u, rfl⟩ := hV.iface
  obtain ⟨i0, hi, hz0, hz1, hz2⟩ := info_parts Tryz.infoVP
  obtain ⟨kd, nm, tx, kk, pl⟩ := n
  simp only at c0 hk
  subst hk
  have hown1 := hown.alloc (.cells #[.iface t u] 133)
  have hnews : ∀ j x, ([Value.iface t u])[j]? = some x → (w.alloc (.cells #[.iface t u] 133)).cell? ((⟨w.heap.size, 0, none⟩ : Addr).add j) = some x := by
    intro j x hj
    obtain rfl : j = 0 := by
      have := (List.getElem?_eq_some_iff.1 hj).1
      simp at this
      exact this
    simp at hj
    subst hj
    show (w.alloc (.cells #[.iface t u] 133)).cell? ⟨w.heap.size, 0 + 0, none⟩ = _
    rw [cell_of_row _ _ _ _ _ _ (heap_alloc_new _ _)]
    rfl
  have HPU : Hid (∀ (w2 : World) (v' : Value), w2.ownsRow (rb + 1) 133 1 v' (k + 1) (xs ++ [.iface t u]) → (w.alloc (.cells #[.iface t u] 133)).grownBy w2 s.ownBlock → _) := fun w2 v' h1 h2 => NmS.push hBr hrb hown h1 h2
  clear hP hR hblk hV hrb hown
  go_enter Tryz.func106, Tryz.ntmps106
  go_wp2_with (at_builtin; refine wpList_append_own_at _ rfl (.tmp 26) (.tmp 28) 137 rfl (rb + 1) 133 i0 _ 1 16 Tryz.underlying137 hi hz0 hz1 hz2 rfl (by decide) s k xs rfl hown1 ⟨w.heap.size, 0, none⟩ 1 1 [.iface t u] rfl rfl hnews (by simp [Value.oneCell']) ?a3 ?a4 ?a5 ?_)
  case a3 => unfold maxLen; omega
  case a4 => omega
  case a5 => simp; omega
  rintro v' w2 ho2 hg2 - -
  obtain ⟨hNm, hBl, ⟨g9, c9, rfl⟩, hr2⟩ := HPU.out w2 v' ho2 hg2
  have HNM : Hid _ := hNm
  obtain ⟨r3', f3'⟩ := four hr2
  have lr2 : rb < w2.heap.size := lt_of_cell r3'
  clear ho2 hg2 hNm hr2 hnews hown1 HPU
  go_wp2
  go_ret
  exact HFIN.out _ HNM.out hBl
end Go.Proofs.YtemancdlnakkmaaGreat

namespace Go.Proofs.YtemancdlnakkmaaGreat
open Go.RowKit Go.Maps
def FitC (B rb : Nat) (T : Tre) : Prop := ∀ (V : Tre) (pb k : Nat) (v : Value) (w : World), PlT T → patK T.nd = true → PRep w (fun p => p < B) T pb → VRep w (fun p => p < B) V v → NmS w rb B k → k + szT T ≤ 1000000000 →
    Calls Tryz.prog 106 #[.pointer (some ⟨rb, 0, none⟩), .pointer (some ⟨pb, 0, none⟩), v] w fun e w' => FitR B rb k T V w e w'
set_option maxRecDepth 20000 in
set_option maxHeartbeats 4000000 in
theorem fit_as (n : Nd) (ks : List Tre) (V : Tre) (pb rb B k : Nat) (v : Value) (w : World) (hk : n.kind = 91) (hP : PlT (.mk n ks)) (ih : ∀ p ∈ ks, FitC B rb p) (hR : PRep w (fun p => p < B) (.mk n ks) pb) (hV : VRep w (fun p => p < B) V v) (hN : NmS w rb B k) (hs : k + szT (.mk n ks) ≤ 1000000000) :
    Calls Tryz.prog 106 #[.pointer (some ⟨rb, 0, none⟩), .pointer (some ⟨pb, 0, none⟩), v] w fun e w' => FitR B rb k (.mk n ks) V w e w' := by
  obtain ⟨P0, rfl, hp0⟩ := hP.sh.node.qas hk
  have hsz : szT (.mk n [P0]) = szT P0 + 1 := by rw [szT_eq]; simp
  have HF : Hid (fitsT (.mk n [P0]) V = fitsT P0 V) := by show _ = _; rw [fitsT_eq]; simp [fitsStep, hk]
  have HB : Hid (bindsT (.mk n [P0]) = true) := by show _ = _; rw [bindsT_eq]; simp [hk]
  have HFIN : Hid (∀ e w' w'', Below B w w'' → FitR B rb (k + 1) P0 V w'' e w' → FitR B rb k (.mk n [P0]) V w e w') := by
    rintro e w' w'' hb ⟨k', h1, h2, h3, h4, h5⟩
    refine ⟨k', by rw [HF.out]; exact h1, h2, hb.trans h3, by omega, fun hf => ?_⟩
    rw [HF.out] at hf
    have := h5 hf
    rw [HB.out]
    constructor
    · intro h0; have := this.1 h0; omega
    · rintro ⟨-, h⟩; cases h
  obtain ⟨-, so, sc, hblk, hK⟩ := hR.opened
  obtain ⟨c0, -, -, -, -, c5⟩ := nine hblk
  have lb : pb < w.heap.size := lt_of_cell c0
  obtain ⟨-, -, -, bs, h4⟩ := hK
  obtain ⟨g, hso, hgB, d0, hr0⟩ := h4 0 (by simp)
  simp only at hso
  subst hso
  simp only [List.getElem_cons_zero] at hr0
  generalize bs 0 = b0 at d0 hr0
  have lg : g < w.heap.size := lt_of_cell d0
  have hpB : pb < B := hR.opened.1
  simp only [List.length_cons, List.length_nil, Nat.zero_add] at c5
  have HIC : Hid (∀ W, Below B w W → NmS W rb B (k + 1) → Calls Tryz.prog 106 #[.pointer (some ⟨rb, 0, none⟩), .pointer (some ⟨b0, 0, none⟩), v] W fun e w' => FitR B rb (k + 1) P0 V W e w') := fun W hW hNW => ih P0 (by simp) V b0 (k + 1) v W (hP.kid P0 (by simp)) hp0 (hr0.low hW) (hV.low hW) hNW (by omega)
  have HCE : Hid (∀ W, Below B w W → W.cell? ⟨pb, 5, none⟩ = some (.slice (some ⟨g, 0, none⟩) 1 sc) ∧ W.cell? ⟨g, 0, none⟩ = some (.pointer (some ⟨b0, 0, none⟩))) := fun W hW => ⟨bcL hW hpB c5, bcL hW hgB d0⟩
  obtain ⟨hBr, s, xs, hrb, hown⟩ := hN
  obtain ⟨r3, -⟩ := four hrb
  have lr : rb < w.heap.size := lt_of_cell r3
  obtain ⟨t, u, rfl⟩ := hV.iface
  obtain ⟨i0, hi, hz0, hz1, hz2⟩ := info_parts Tryz.infoVP
  obtain ⟨kd, nm, tx, kk, pl⟩ := n
  simp only at c0 hk
  subst hk
  have hown1 := hown.alloc (.cells #[.iface t u] 133)
  have hnews : ∀ j x, ([Value.iface t u])[j]? = some x → (w.alloc (.cells #[.iface t u] 133)).cell? ((⟨w.heap.size, 0, none⟩ : Addr).add j) = some x := by
    intro j x hj
    obtain rfl : j = 0 := by
      have := (List.getElem?_eq_some_iff.1 hj).1
      simp at this
      exact this
    simp at hj
    subst hj
    show (w.alloc (.cells #[.iface t u] 133)).cell? ⟨w.heap.size, 0 + 0, none⟩ = _
    rw [cell_of_row _ _ _ _ _ _ (heap_alloc_new _ _)]
    rfl
  have HPU : Hid (∀ (w2 : World) (v' : Value), w2.ownsRow (rb + 1) 133 1 v' (k + 1) (xs ++ [.iface t u]) → (w.alloc (.cells #[.iface t u] 133)).grownBy w2 s.ownBlock → _) := fun w2 v' h1 h2 => NmS.push hBr hrb hown h1 h2
  have hk9 : k + 1 ≤ 1000000000 := by omega
  clear hP hR hblk hV hrb hown ih h4 hr0 d0 c5 hsz hs hp0
  go_enter Tryz.func106, Tryz.ntmps106
  go_wp2_with (at_builtin; refine wpList_append_own_at _ rfl (.tmp 38) (.tmp 40) 137 rfl (rb + 1) 133 i0 _ 1 16 Tryz.underlying137 hi hz0 hz1 hz2 rfl (by decide) s k xs rfl hown1 ⟨w.heap.size, 0, none⟩ 1 1 [.iface t u] rfl rfl hnews (by simp [Value.oneCell']) ?a3 ?a4 ?a5 ?_)
  case a3 => unfold maxLen; omega
  case a4 => omega
  case a5 => simp; omega
  rintro v' w2 ho2 hg2 - -
  obtain ⟨hNm, hBl, ⟨g9, c9, rfl⟩, hr2⟩ := HPU.out w2 v' ho2 hg2
  obtain ⟨r3', f3'⟩ := four hr2
  have lr2 : rb < w2.heap.size := lt_of_cell r3'
  have hcl := HIC.out _ hBl hNm
  obtain ⟨q5, q0⟩ := HCE.out _ hBl
  have lp2 : pb < (w2.setCell ⟨rb, 3, none⟩ (.slice (some ⟨g9, 0, none⟩) (k + 1) c9)).heap.size := lt_of_cell q5
  have lg2 : g < (w2.setCell ⟨rb, 3, none⟩ (.slice (some ⟨g9, 0, none⟩) (k + 1) c9)).heap.size := lt_of_cell q0
  clear ho2 hg2 hNm hr2 hnews hown1 HPU HIC HCE c0
  go_wp2_with fail
  refine hcl.mono ?_
  intro e w3 h3
  have HR3 : Hid _ := HFIN.out e w3 _ hBl h3
  obtain ⟨k', rfl, -⟩ := h3
  clear hcl
  go_wp2
  go_ret
  exact HR3.out
end Go.Proofs.YtemancdlnakkmaaGreat

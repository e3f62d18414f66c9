import Derived.Test.YtedlofpgddjpgaaGreatWAT
import Derived.Deep.RegionHeld3
import Derived.Deep.RegionWith
namespace Go.Proofs.YtedlofpgddjpgaaGreat
open Go.RowKit
theorem Tryz.infoV13 : (Tryz.prog.info? 135).map (fun i => (i.zero, i.size, i.bytes)) = some (some (.agg #[.int .i64 0, .int .i64 0, .string ByteArray.empty, .slice none 0 0, .int .i64 0, .int .i64 0]), 6, 72) := by kernel_rfl
theorem wpList_append3K {P : Program} {w : World} {ops : Array Oper} {rest : List Oper} {o : Oper} {a : Act} {Q : Exit → Act → World → Prop} (hgd : o.guard = none) (s x : Operand) (t : TypeId)
    (ho : o.op = .call { callee := .builtin .append, args := #[s, x], argTypes := #[t, t] })
    (base : Nat) (e : TypeId) (i : TypeInfo) (z : Value) (size bytes : Nat) (ht : P.underlying t = some (.slice e)) (hi : P.info? e = some i) (hz : i.zero = some z)
    (hsize : i.size = size) (hby : i.bytes = bytes) (hzs : z.cells.size = size) (hsz : 0 < size) (v : Value) (n : Nat) (xs : List Value) (hs : a.eval s = v) (hown : w.ownsRow base e size v n xs)
    (ad : Addr) (m c : Nat) (news : List Value) (hx : a.eval x = .slice (some ad) m c) (hl : news.length = m * size) (hnews : ∀ j u, news[j]? = some u → w.cell? (ad.add j) = some u) (h1 : ∀ u ∈ news, u.oneCell' = true)
    (hm : 0 < m) (h63 : n + m ≤ maxLen) (hbytes : (n + m) * bytes ≤ 140737488355328) (hbase : base ≤ w.heap.size)
    (h : ∀ g' cap' w', w'.ownsRow base e size (.slice (some ⟨g', 0, none⟩) (n + m) cap') (n + m) (xs ++ news) → w.grownBy w' v.ownBlock → (v.ownBlock = some g' ∨ w.heap.size ≤ g') → wpList P ops Q rest (a.put o.dst (.slice (some ⟨g', 0, none⟩) (n + m) cap')) w') : wpList P ops Q (o :: rest) a w := by
  refine wpList_plain hgd fun K hK => ?_
  obtain ⟨g', cap', w', hrun, r1, r2, r3⟩ := run_append3 (P := P) w base t o.type e i z size bytes ht hi hz hsize hby hzs hsz v n xs hown ad m c news hl hnews h1 hm h63 hbytes hbase
  unfold Oper.wp execOp
  simp only [ho, resolve, invoke, builtin, Sem.run_bind, Sem.run_pure, Result.andThen_ok, List.map_toArray, List.map_cons, List.map_nil, hs, hx, hrun]
  exact hK _ _ (h g' cap' w' r1 r2 r3)
def mach (h : Sl3) (st rs : Int) : Array Value := #[.slice none 0 0, .slice none 0 0, .slice h.1 h.2.1 h.2.2, .slice none 0 0, .int .i64 0, .int .i64 st, .int .i64 rs, .string ⟨#[]⟩]
def V2 (w : World) (g : Nat) (tx : ByteArray) : Prop := w.cell? ⟨g, 2, none⟩ = some (.string tx) ∧ w.cell? ⟨g, 3, none⟩ = some (.slice none 0 0) ∧ w.cell? ⟨g, 4, none⟩ = some (.int .i64 0) ∧ w.cell? ⟨g, 5, none⟩ = some (.int .i64 0)
theorem V2.keep {w w' : World} {g : Nat} {tx : ByteArray} (h : V2 w g tx) (hk : ∀ j, w'.cell? ⟨g, j, none⟩ = w.cell? ⟨g, j, none⟩) : V2 w' g tx :=
  ⟨(hk _).trans h.1, (hk _).trans h.2.1, (hk _).trans h.2.2.1, (hk _).trans h.2.2.2⟩
theorem set8 {w : World} {g t : Nat} {x0 x1 x2 x3 x4 x5 x6 x7 : Value} (h : w.heap[g]? = some (.cells #[x0, x1, x2, x3, x4, x5, x6, x7] t (0, 0))) (a0 a1 a2 a3 a4 a5 a6 a7 : Value) :
    ((((((((w.setCell ⟨g, 0, none⟩ a0).setCell ⟨g, 1, none⟩ a1).setCell ⟨g, 2, none⟩ a2).setCell ⟨g, 3, none⟩ a3).setCell ⟨g, 4, none⟩ a4).setCell ⟨g, 5, none⟩ a5).setCell ⟨g, 6, none⟩ a6).setCell ⟨g, 7, none⟩ a7).heap[g]? = some (.cells #[a0, a1, a2, a3, a4, a5, a6, a7] t (0, 0)) := by
  have h0 : (w.setCell ⟨g, 0, none⟩ a0).heap[g]? = some (.cells #[a0, x1, x2, x3, x4, x5, x6, x7] t (0, 0)) := heap_setCell_same _ _ _ _ _ _ h
  have h1 : ((w.setCell ⟨g, 0, none⟩ a0).setCell ⟨g, 1, none⟩ a1).heap[g]? = some (.cells #[a0, a1, x2, x3, x4, x5, x6, x7] t (0, 0)) := heap_setCell_same _ _ _ _ _ _ h0
  have h2 : (((w.setCell ⟨g, 0, none⟩ a0).setCell ⟨g, 1, none⟩ a1).setCell ⟨g, 2, none⟩ a2).heap[g]? = some (.cells #[a0, a1, a2, x3, x4, x5, x6, x7] t (0, 0)) := heap_setCell_same _ _ _ _ _ _ h1
  have h3 : ((((w.setCell ⟨g, 0, none⟩ a0).setCell ⟨g, 1, none⟩ a1).setCell ⟨g, 2, none⟩ a2).setCell ⟨g, 3, none⟩ a3).heap[g]? = some (.cells #[a0, a1, a2, a3, x4, x5, x6, x7] t (0, 0)) := heap_setCell_same _ _ _ _ _ _ h2
  have h4 : (((((w.setCell ⟨g, 0, none⟩ a0).setCell ⟨g, 1, none⟩ a1).setCell ⟨g, 2, none⟩ a2).setCell ⟨g, 3, none⟩ a3).setCell ⟨g, 4, none⟩ a4).heap[g]? = some (.cells #[a0, a1, a2, a3, a4, x5, x6, x7] t (0, 0)) := heap_setCell_same _ _ _ _ _ _ h3
  have h5 : ((((((w.setCell ⟨g, 0, none⟩ a0).setCell ⟨g, 1, none⟩ a1).setCell ⟨g, 2, none⟩ a2).setCell ⟨g, 3, none⟩ a3).setCell ⟨g, 4, none⟩ a4).setCell ⟨g, 5, none⟩ a5).heap[g]? = some (.cells #[a0, a1, a2, a3, a4, a5, x6, x7] t (0, 0)) := heap_setCell_same _ _ _ _ _ _ h4
  have h6 : (((((((w.setCell ⟨g, 0, none⟩ a0).setCell ⟨g, 1, none⟩ a1).setCell ⟨g, 2, none⟩ a2).setCell ⟨g, 3, none⟩ a3).setCell ⟨g, 4, none⟩ a4).setCell ⟨g, 5, none⟩ a5).setCell ⟨g, 6, none⟩ a6).heap[g]? = some (.cells #[a0, a1, a2, a3, a4, a5, a6, x7] t (0, 0)) := heap_setCell_same _ _ _ _ _ _ h5
  have h7 : ((((((((w.setCell ⟨g, 0, none⟩ a0).setCell ⟨g, 1, none⟩ a1).setCell ⟨g, 2, none⟩ a2).setCell ⟨g, 3, none⟩ a3).setCell ⟨g, 4, none⟩ a4).setCell ⟨g, 5, none⟩ a5).setCell ⟨g, 6, none⟩ a6).setCell ⟨g, 7, none⟩ a7).heap[g]? = some (.cells #[a0, a1, a2, a3, a4, a5, a6, a7] t (0, 0)) := heap_setCell_same _ _ _ _ _ _ h6
  exact h7
theorem set8_but {w : World} {g : Nat} (a0 a1 a2 a3 a4 a5 a6 a7 : Value) : But (· = g) w ((((((((w.setCell ⟨g, 0, none⟩ a0).setCell ⟨g, 1, none⟩ a1).setCell ⟨g, 2, none⟩ a2).setCell ⟨g, 3, none⟩ a3).setCell ⟨g, 4, none⟩ a4).setCell ⟨g, 5, none⟩ a5).setCell ⟨g, 6, none⟩ a6).setCell ⟨g, 7, none⟩ a7) :=
  ((((((((But.refl (· = g) w).setCell (p := ⟨g, 0, none⟩) rfl _).setCell (p := ⟨g, 1, none⟩) rfl _).setCell (p := ⟨g, 2, none⟩) rfl _).setCell (p := ⟨g, 3, none⟩) rfl _).setCell (p := ⟨g, 4, none⟩) rfl _).setCell (p := ⟨g, 5, none⟩) rfl _).setCell (p := ⟨g, 6, none⟩) rfl _).setCell (p := ⟨g, 7, none⟩) rfl _
theorem results_mach {fn : Func} {a b : Tmp} (h : fn.results = #[.cell a 131, .tmp b]) (tmps : Array Value) (g : Nat) (hta : tmps[a]?.getD undef = .pointer (some ⟨g, 0, none⟩)) (w : World) (s : Sl3) (st rs : Int) (hr : w.heap[g]? = some (.cells (mach s st rs) 131 (0, 0))) (v : Value) (hv : tmps[b]?.getD undef = v) : (results fn tmps).run Tryz.prog w = .ok (.tuple #[.agg (mach s st rs), v]) w := by
  have e : ∀ w, (isAgg 131).run Tryz.prog w = .ok true w := fun w => by kernel_rfl
  have e2 : ∀ w, (sizeOf 131).run Tryz.prog w = .ok 8 w := fun w => by kernel_rfl
  have c0 : w.cell? ⟨g, 0, none⟩ = some (.slice none 0 0) := by rw [cell_of_row _ _ _ _ _ _ hr]; rfl
  have c1 : w.cell? ⟨g, 1, none⟩ = some (.slice none 0 0) := by rw [cell_of_row _ _ _ _ _ _ hr]; rfl
  have c2 : w.cell? ⟨g, 2, none⟩ = some (.slice s.1 s.2.1 s.2.2) := by rw [cell_of_row _ _ _ _ _ _ hr]; rfl
  have c3 : w.cell? ⟨g, 3, none⟩ = some (.slice none 0 0) := by rw [cell_of_row _ _ _ _ _ _ hr]; rfl
  have c4 : w.cell? ⟨g, 4, none⟩ = some (.int .i64 0) := by rw [cell_of_row _ _ _ _ _ _ hr]; rfl
  have c5 : w.cell? ⟨g, 5, none⟩ = some (.int .i64 st) := by rw [cell_of_row _ _ _ _ _ _ hr]; rfl
  have c6 : w.cell? ⟨g, 6, none⟩ = some (.int .i64 rs) := by rw [cell_of_row _ _ _ _ _ _ hr]; rfl
  have c7 : w.cell? ⟨g, 7, none⟩ = some (.string ⟨#[]⟩) := by rw [cell_of_row _ _ _ _ _ _ hr]; rfl
  simp [results, h, go_sem, hta, hv, e, e2, c0, c1, c2, c3, c4, c5, c6, c7, mach]
theorem six_new (w : World) (k nm : Int) (tx : ByteArray) : ∀ j u, [Value.int .i64 k, .int .i64 nm, .string tx, .slice none 0 0, .int .i64 0, .int .i64 0][j]? = some u → (w.alloc (.cells #[.int .i64 k, .int .i64 nm, .string tx, .slice none 0 0, .int .i64 0, .int .i64 0] 135)).cell? (Addr.add ⟨w.heap.size, 0, none⟩ j) = some u := by
  intro j u hj
  have e : Addr.add ⟨w.heap.size, 0, none⟩ j = ⟨w.heap.size, j, none⟩ := by
    unfold Addr.add
    split
    · simp_all
    · simp
  rw [e, cell_of_row _ w.heap.size j _ 135 (0, 0) (heap_alloc_new _ _), ← hj]
  simp
theorem six_one (k nm : Int) (tx : ByteArray) : ∀ u ∈ [Value.int .i64 k, .int .i64 nm, .string tx, .slice none 0 0, .int .i64 0, .int .i64 0], u.oneCell' = true := by
  intro u hu
  simp at hu
  rcases hu with rfl | rfl | rfl | rfl | rfl <;> rfl
set_option maxRecDepth 20000 in
set_option maxHeartbeats 4000000 in
theorem new_any (k nm : Int) (tx : ByteArray) (w : World) :
    Calls Tryz.prog 125 #[.agg (mach (none, 0, 0) 0 0), .agg #[.int .i64 k, .int .i64 nm, .string tx, .slice none 0 0, .int .i64 0, .int .i64 0]] w fun e w' => ∃ g c, e = .returned (.tuple #[.agg (mach (some ⟨g, 0, none⟩, 1, c) 0 0), .int .i64 0]) ∧ 1 ≤ c ∧ w'.cell? ⟨g, 0, none⟩ = some (.int .i64 k) ∧ w'.cell? ⟨g, 1, none⟩ = some (.int .i64 nm) ∧ V2 w' g tx ∧ w.heap.size ≤ g ∧ Below w.heap.size w w' := by
  obtain ⟨i0, hi, hz0, hz1, hz2⟩ := info_parts Tryz.infoV13
  unfold mach
  simp only
  have b1 := (Below.refl w.heap.size w).alloc (Nat.le_refl _) (.cells #[.slice none 0 0, .slice none 0 0, .slice none 0 0, .slice none 0 0, .int .i64 0, .int .i64 0, .int .i64 0, .string ⟨#[]⟩] 131)
  have b2 := b1.alloc b1.size (.cells #[.int .i64 k, .int .i64 nm, .string tx, .slice none 0 0, .int .i64 0, .int .i64 0] 135)
  have b3 := b2.alloc b2.size (.cells #[.slice none 0 0, .slice none 0 0, .slice none 0 0, .slice none 0 0, .int .i64 0, .int .i64 0, .int .i64 0, .string ⟨#[]⟩] 131)
  have hsz : (((w.alloc (.cells #[.slice none 0 0, .slice none 0 0, .slice none 0 0, .slice none 0 0, .int .i64 0, .int .i64 0, .int .i64 0, .string ⟨#[]⟩] 131)).alloc (.cells #[.int .i64 k, .int .i64 nm, .string tx, .slice none 0 0, .int .i64 0, .int .i64 0] 135)).alloc (.cells #[.slice none 0 0, .slice none 0 0, .slice none 0 0, .slice none 0 0, .int .i64 0, .int .i64 0, .int .i64 0, .string ⟨#[]⟩] 131)).heap.size = w.heap.size + 1 + 1 + 1 := by simp
  have hcells := six_new (((w.alloc (.cells #[.slice none 0 0, .slice none 0 0, .slice none 0 0, .slice none 0 0, .int .i64 0, .int .i64 0, .int .i64 0, .string ⟨#[]⟩] 131)).alloc (.cells #[.int .i64 k, .int .i64 nm, .string tx, .slice none 0 0, .int .i64 0, .int .i64 0] 135)).alloc (.cells #[.slice none 0 0, .slice none 0 0, .slice none 0 0, .slice none 0 0, .int .i64 0, .int .i64 0, .int .i64 0, .string ⟨#[]⟩] 131)) k nm tx
  rw [hsz] at hcells
  have r0 : (((w.alloc (.cells #[.slice none 0 0, .slice none 0 0, .slice none 0 0, .slice none 0 0, .int .i64 0, .int .i64 0, .int .i64 0, .string ⟨#[]⟩] 131)).alloc (.cells #[.int .i64 k, .int .i64 nm, .string tx, .slice none 0 0, .int .i64 0, .int .i64 0] 135)).alloc (.cells #[.slice none 0 0, .slice none 0 0, .slice none 0 0, .slice none 0 0, .int .i64 0, .int .i64 0, .int .i64 0, .string ⟨#[]⟩] 131)).heap[w.heap.size]? = some (Obj.cells #[.slice none 0 0, .slice none 0 0, .slice none 0 0, .slice none 0 0, .int .i64 0, .int .i64 0, .int .i64 0, .string ⟨#[]⟩] 131 (0, 0)) :=
    (Below.heap_alloc _ _ _ (by simp; omega)).trans ((Below.heap_alloc _ _ _ (by simp)).trans (heap_alloc_new _ _))
  have r2 : (((w.alloc (.cells #[.slice none 0 0, .slice none 0 0, .slice none 0 0, .slice none 0 0, .int .i64 0, .int .i64 0, .int .i64 0, .string ⟨#[]⟩] 131)).alloc (.cells #[.int .i64 k, .int .i64 nm, .string tx, .slice none 0 0, .int .i64 0, .int .i64 0] 135)).alloc (.cells #[.slice none 0 0, .slice none 0 0, .slice none 0 0, .slice none 0 0, .int .i64 0, .int .i64 0, .int .i64 0, .string ⟨#[]⟩] 131)).heap[w.heap.size + 1 + 1]? = some (Obj.cells #[.slice none 0 0, .slice none 0 0, .slice none 0 0, .slice none 0 0, .int .i64 0, .int .i64 0, .int .i64 0, .string ⟨#[]⟩] 131 (0, 0)) := by
    have h9 := heap_alloc_new ((w.alloc (.cells #[.slice none 0 0, .slice none 0 0, .slice none 0 0, .slice none 0 0, .int .i64 0, .int .i64 0, .int .i64 0, .string ⟨#[]⟩] 131)).alloc (.cells #[.int .i64 k, .int .i64 nm, .string tx, .slice none 0 0, .int .i64 0, .int .i64 0] 135)) (.cells #[.slice none 0 0, .slice none 0 0, .slice none 0 0, .slice none 0 0, .int .i64 0, .int .i64 0, .int .i64 0, .string ⟨#[]⟩] 131)
    rw [World.size_alloc, World.size_alloc] at h9
    exact h9
  have HR0 : Hid _ := r0
  have HR2 : Hid _ := r2
  have HB3 : Hid (Below w.heap.size w (((w.alloc (.cells #[.slice none 0 0, .slice none 0 0, .slice none 0 0, .slice none 0 0, .int .i64 0, .int .i64 0, .int .i64 0, .string ⟨#[]⟩] 131)).alloc (.cells #[.int .i64 k, .int .i64 nm, .string tx, .slice none 0 0, .int .i64 0, .int .i64 0] 135)).alloc (.cells #[.slice none 0 0, .slice none 0 0, .slice none 0 0, .slice none 0 0, .int .i64 0, .int .i64 0, .int .i64 0, .string ⟨#[]⟩] 131))) := b3
  clear r0 r2 b1 b2 b3
  go_enter Tryz.func125, Tryz.ntmps125
  go_wp2_with (at_builtin; refine wpList_append3K rfl (.tmp 7) (.tmp 9) 128 rfl w.heap.size 135 i0 _ 6 72 Tryz.underlying128 hi hz0 hz1 hz2 rfl (by decide) (.slice none 0 0) 0 [] rfl ⟨rfl, Or.inl ⟨rfl, rfl⟩⟩ ⟨_, 0, none⟩ 1 1 [.int .i64 k, .int .i64 nm, .string tx, .slice none 0 0, .int .i64 0, .int .i64 0] rfl rfl hcells (six_one k nm tx) (by decide) ?a3 ?a4 ?a5 ?_)
  case a3 => decide
  case a4 => decide
  case a5 => simp; omega
  intro g c w4 hown hgrow hwh
  have q0 : w4.heap[w.heap.size]? = some (Obj.cells #[.slice none 0 0, .slice none 0 0, .slice none 0 0, .slice none 0 0, .int .i64 0, .int .i64 0, .int .i64 0, .string ⟨#[]⟩] 131 (0, 0)) := (hgrow.block _ (by simp; omega) (by simp [Value.ownBlock])).trans ((Below.heap_alloc _ _ _ (by simp; omega)).trans HR0.out)
  have q2 : w4.heap[w.heap.size + 1 + 1]? = some (Obj.cells #[.slice none 0 0, .slice none 0 0, .slice none 0 0, .slice none 0 0, .int .i64 0, .int .i64 0, .int .i64 0, .string ⟨#[]⟩] 131 (0, 0)) := (hgrow.block _ (by simp) (by simp [Value.ownBlock])).trans ((Below.heap_alloc _ _ _ (by simp)).trans HR2.out)
  have hg : w.heap.size + 1 + 1 + 1 + 1 ≤ g := by
    rcases hwh with e | e
    · simp [Value.ownBlock] at e
    · exact e
  have hb4 : Below w.heap.size w w4 := by
    have h3 := HB3.out.alloc HB3.out.size (.cells #[.int .i64 k, .int .i64 nm, .string tx, .slice none 0 0, .int .i64 0, .int .i64 0] 135)
    exact h3.grown hgrow h3.size (fun q hq => by simp [Value.ownBlock] at hq)
  have hc1 : 1 ≤ c := by
    rcases hown.2 with ⟨h', _⟩ | ⟨g2, cap2, cur, he, _, _, hnc, _⟩
    · cases h'
    · simp only [Value.slice.injEq, Option.some.injEq, Addr.mk.injEq, and_true, true_and] at he
      omega
  have HG : Hid (w4.cell? ⟨g, 0, none⟩ = some (.int .i64 k) ∧ w4.cell? ⟨g, 1, none⟩ = some (.int .i64 nm) ∧ V2 w4 g tx) := by
    refine ⟨?_, ?_, ?_, ?_, ?_, ?_⟩ <;> (rw [owns_at hown _ (by omega)]; rfl)
  have d0 : w4.cell? ⟨w.heap.size, 2, none⟩ = some (.slice none 0 0) := by rw [cell_of_row _ _ _ _ _ _ q0]; rfl
  have f0 : w4.frozen? ⟨w.heap.size, 2, none⟩ = false := frozen_of_row _ _ _ _ _ q0
  have HQ0 : Hid ((w4.setCell ⟨w.heap.size, 2, none⟩ (.slice (some ⟨g, 0, none⟩) 1 c)).heap[w.heap.size]? = some (Obj.cells #[.slice none 0 0, .slice none 0 0, .slice (some ⟨g, 0, none⟩) 1 c, .slice none 0 0, .int .i64 0, .int .i64 0, .int .i64 0, .string ⟨#[]⟩] 131 (0, 0))) := by
    show _ = _
    rw [heap_setCell_same _ _ _ _ _ _ q0]
    rfl
  have HQ2 : Hid ((w4.setCell ⟨w.heap.size, 2, none⟩ (.slice (some ⟨g, 0, none⟩) 1 c)).heap[w.heap.size + 1 + 1]? = some (Obj.cells #[.slice none 0 0, .slice none 0 0, .slice none 0 0, .slice none 0 0, .int .i64 0, .int .i64 0, .int .i64 0, .string ⟨#[]⟩] 131 (0, 0))) := (Below.heap_setCell _ _ _ _ (by show w.heap.size + 1 + 1 ≠ w.heap.size; omega)).trans q2
  have HG5 : Hid ((w4.setCell ⟨w.heap.size, 2, none⟩ (.slice (some ⟨g, 0, none⟩) 1 c)).cell? ⟨g, 0, none⟩ = some (.int .i64 k) ∧ (w4.setCell ⟨w.heap.size, 2, none⟩ (.slice (some ⟨g, 0, none⟩) 1 c)).cell? ⟨g, 1, none⟩ = some (.int .i64 nm) ∧ V2 (w4.setCell ⟨w.heap.size, 2, none⟩ (.slice (some ⟨g, 0, none⟩) 1 c)) g tx) := by
    have hne : ∀ j, (w4.setCell ⟨w.heap.size, 2, none⟩ (.slice (some ⟨g, 0, none⟩) 1 c)).cell? ⟨g, j, none⟩ = w4.cell? ⟨g, j, none⟩ := fun j => World.cell?_setCell_far _ _ _ _ (by show w.heap.size ≠ g; omega)
    exact ⟨(hne _).trans HG.out.1, (hne _).trans HG.out.2.1, HG.out.2.2.keep hne⟩
  have hb5 := hb4.setCell (p := ⟨w.heap.size, 2, none⟩) (Nat.le_refl _) (.slice (some ⟨g, 0, none⟩) 1 c)
  clear hown hgrow hwh q0 q2 HR0 HR2 HB3 hb4 HG hcells hsz
  go_wp2_with fail
  have q0 := HQ0.out
  have q2 := HQ2.out
  have hG := HG5.out
  clear HQ0 HQ2 HG5 d0 f0
  generalize w4.setCell ⟨w.heap.size, 2, none⟩ (.slice (some ⟨g, 0, none⟩) 1 c) = w5 at q0 q2 hG hb5 ⊢
  have e0 : w5.cell? ⟨w.heap.size, 0, none⟩ = some (.slice none 0 0) := by rw [cell_of_row _ _ _ _ _ _ q0]; rfl
  have e1 : w5.cell? ⟨w.heap.size, 1, none⟩ = some (.slice none 0 0) := by rw [cell_of_row _ _ _ _ _ _ q0]; rfl
  have e2 : w5.cell? ⟨w.heap.size, 2, none⟩ = some (.slice (some ⟨g, 0, none⟩) 1 c) := by rw [cell_of_row _ _ _ _ _ _ q0]; rfl
  have e3 : w5.cell? ⟨w.heap.size, 3, none⟩ = some (.slice none 0 0) := by rw [cell_of_row _ _ _ _ _ _ q0]; rfl
  have e4 : w5.cell? ⟨w.heap.size, 4, none⟩ = some (.int .i64 0) := by rw [cell_of_row _ _ _ _ _ _ q0]; rfl
  have e5 : w5.cell? ⟨w.heap.size, 5, none⟩ = some (.int .i64 0) := by rw [cell_of_row _ _ _ _ _ _ q0]; rfl
  have e6 : w5.cell? ⟨w.heap.size, 6, none⟩ = some (.int .i64 0) := by rw [cell_of_row _ _ _ _ _ _ q0]; rfl
  have e7 : w5.cell? ⟨w.heap.size, 7, none⟩ = some (.string ⟨#[]⟩) := by rw [cell_of_row _ _ _ _ _ _ q0]; rfl
  have u0 : w5.cell? ⟨w.heap.size + 1 + 1, 0, none⟩ = some (.slice none 0 0) := by rw [cell_of_row _ _ _ _ _ _ q2]; rfl
  have u1 : w5.cell? ⟨w.heap.size + 1 + 1, 1, none⟩ = some (.slice none 0 0) := by rw [cell_of_row _ _ _ _ _ _ q2]; rfl
  have u2 : w5.cell? ⟨w.heap.size + 1 + 1, 2, none⟩ = some (.slice none 0 0) := by rw [cell_of_row _ _ _ _ _ _ q2]; rfl
  have u3 : w5.cell? ⟨w.heap.size + 1 + 1, 3, none⟩ = some (.slice none 0 0) := by rw [cell_of_row _ _ _ _ _ _ q2]; rfl
  have u4 : w5.cell? ⟨w.heap.size + 1 + 1, 4, none⟩ = some (.int .i64 0) := by rw [cell_of_row _ _ _ _ _ _ q2]; rfl
  have u5 : w5.cell? ⟨w.heap.size + 1 + 1, 5, none⟩ = some (.int .i64 0) := by rw [cell_of_row _ _ _ _ _ _ q2]; rfl
  have u6 : w5.cell? ⟨w.heap.size + 1 + 1, 6, none⟩ = some (.int .i64 0) := by rw [cell_of_row _ _ _ _ _ _ q2]; rfl
  have u7 : w5.cell? ⟨w.heap.size + 1 + 1, 7, none⟩ = some (.string ⟨#[]⟩) := by rw [cell_of_row _ _ _ _ _ _ q2]; rfl
  have y0 : w5.frozen? ⟨w.heap.size + 1 + 1, 0, none⟩ = false := frozen_of_row _ _ _ _ _ q2
  have y1 : w5.frozen? ⟨w.heap.size + 1 + 1, 1, none⟩ = false := frozen_of_row _ _ _ _ _ q2
  have y2 : w5.frozen? ⟨w.heap.size + 1 + 1, 2, none⟩ = false := frozen_of_row _ _ _ _ _ q2
  have y3 : w5.frozen? ⟨w.heap.size + 1 + 1, 3, none⟩ = false := frozen_of_row _ _ _ _ _ q2
  have y4 : w5.frozen? ⟨w.heap.size + 1 + 1, 4, none⟩ = false := frozen_of_row _ _ _ _ _ q2
  have y5 : w5.frozen? ⟨w.heap.size + 1 + 1, 5, none⟩ = false := frozen_of_row _ _ _ _ _ q2
  have y6 : w5.frozen? ⟨w.heap.size + 1 + 1, 6, none⟩ = false := frozen_of_row _ _ _ _ _ q2
  have y7 : w5.frozen? ⟨w.heap.size + 1 + 1, 7, none⟩ = false := frozen_of_row _ _ _ _ _ q2
  have l0 : w.heap.size < w5.heap.size := lt_of_cell e0
  have l2 : w.heap.size + 1 + 1 < w5.heap.size := lt_of_cell u0
  have n1 : w.heap.size + 1 + 1 ≠ w.heap.size := by omega
  have HQ2 : Hid _ := q2
  have HG5 : Hid _ := hG
  clear q0 q2 hG
  go_region_held3 (fun w' => w'.cell? ⟨w.heap.size, 0, none⟩ = some (.slice none 0 0) ∧ w'.cell? ⟨w.heap.size, 1, none⟩ = some (.slice none 0 0) ∧ w'.cell? ⟨w.heap.size, 2, none⟩ = some (.slice (some ⟨g, 0, none⟩) 1 c) ∧ w'.cell? ⟨w.heap.size, 3, none⟩ = some (.slice none 0 0) ∧ w'.cell? ⟨w.heap.size, 4, none⟩ = some (.int .i64 0) ∧ w'.cell? ⟨w.heap.size, 5, none⟩ = some (.int .i64 0) ∧ w'.cell? ⟨w.heap.size, 6, none⟩ = some (.int .i64 0) ∧ w'.cell? ⟨w.heap.size, 7, none⟩ = some (.string ⟨#[]⟩)) (go_keep) (fail)
  have hfin : ((((((((w5.setCell ⟨w.heap.size + 1 + 1, 0, none⟩ (.slice none 0 0)).setCell ⟨w.heap.size + 1 + 1, 1, none⟩ (.slice none 0 0)).setCell ⟨w.heap.size + 1 + 1, 2, none⟩ (.slice (some ⟨g, 0, none⟩) 1 c)).setCell ⟨w.heap.size + 1 + 1, 3, none⟩ (.slice none 0 0)).setCell ⟨w.heap.size + 1 + 1, 4, none⟩ (.int .i64 0)).setCell ⟨w.heap.size + 1 + 1, 5, none⟩ (.int .i64 0)).setCell ⟨w.heap.size + 1 + 1, 6, none⟩ (.int .i64 0)).setCell ⟨w.heap.size + 1 + 1, 7, none⟩ (.string ⟨#[]⟩)).heap[w.heap.size + 1 + 1]? = some (.cells (mach (some ⟨g, 0, none⟩, 1, c) 0 0) 131 (0, 0)) := set8 HQ2.out (.slice none 0 0) (.slice none 0 0) (.slice (some ⟨g, 0, none⟩) 1 c) (.slice none 0 0) (.int .i64 0) (.int .i64 0) (.int .i64 0) (.string ⟨#[]⟩)
  have hbut : But (· = w.heap.size + 1 + 1) w5 ((((((((w5.setCell ⟨w.heap.size + 1 + 1, 0, none⟩ (.slice none 0 0)).setCell ⟨w.heap.size + 1 + 1, 1, none⟩ (.slice none 0 0)).setCell ⟨w.heap.size + 1 + 1, 2, none⟩ (.slice (some ⟨g, 0, none⟩) 1 c)).setCell ⟨w.heap.size + 1 + 1, 3, none⟩ (.slice none 0 0)).setCell ⟨w.heap.size + 1 + 1, 4, none⟩ (.int .i64 0)).setCell ⟨w.heap.size + 1 + 1, 5, none⟩ (.int .i64 0)).setCell ⟨w.heap.size + 1 + 1, 6, none⟩ (.int .i64 0)).setCell ⟨w.heap.size + 1 + 1, 7, none⟩ (.string ⟨#[]⟩)) := set8_but (.slice none 0 0) (.slice none 0 0) (.slice (some ⟨g, 0, none⟩) 1 c) (.slice none 0 0) (.int .i64 0) (.int .i64 0) (.int .i64 0) (.string ⟨#[]⟩)
  clear e0 e1 e2 e3 e4 e5 e6 e7 u0 u1 u2 u3 u4 u5 u6 u7 y0 y1 y2 y3 y4 y5 y6 y7 HQ2
  generalize ((((((((w5.setCell ⟨w.heap.size + 1 + 1, 0, none⟩ (.slice none 0 0)).setCell ⟨w.heap.size + 1 + 1, 1, none⟩ (.slice none 0 0)).setCell ⟨w.heap.size + 1 + 1, 2, none⟩ (.slice (some ⟨g, 0, none⟩) 1 c)).setCell ⟨w.heap.size + 1 + 1, 3, none⟩ (.slice none 0 0)).setCell ⟨w.heap.size + 1 + 1, 4, none⟩ (.int .i64 0)).setCell ⟨w.heap.size + 1 + 1, 5, none⟩ (.int .i64 0)).setCell ⟨w.heap.size + 1 + 1, 6, none⟩ (.int .i64 0)).setCell ⟨w.heap.size + 1 + 1, 7, none⟩ (.string ⟨#[]⟩)) = WF at hfin hbut ⊢
  have w0 : IntKind.i64.wrap 0 = 0 := by decide
  rw [w0]
  have hlg : g < w5.heap.size := lt_of_cell HG5.out.1
  have hblk := hbut.block g hlg (by omega)
  have HCELL : Hid (∀ j, WF.drew.cell? ⟨g, j, none⟩ = w5.cell? ⟨g, j, none⟩) := by
    intro j
    show WF.cell? ⟨g, j, none⟩ = _
    simp only [World.cell?, hblk]
  have HF : Hid (WF.drew.heap[w.heap.size + 1 + 1]? = some (.cells (mach (some ⟨g, 0, none⟩, 1, c) 0 0) 131 (0, 0))) := hfin
  have HBE : Hid (Below w.heap.size w WF.drew) := (hb5.trans (hbut.below hb5.size (fun k hk => by omega))).drew
  clear hfin hbut hblk hb5
  go_wp2
  refine bodyPost_ret (results_mach rfl _ (w.heap.size + 1 + 1) rfl _ (some ⟨g, 0, none⟩, 1, c) 0 0 HF.out _ rfl) rfl ?_
  exact ⟨g, c, rfl, hc1, (HCELL.out 0).trans HG5.out.1, (HCELL.out 1).trans HG5.out.2.1, HG5.out.2.2.keep HCELL.out, by omega, HBE.out⟩
end Go.Proofs.YtedlofpgddjpgaaGreat

namespace Go.Proofs.YtedlofpgddjpgaaGreat
open Go.RowKit
def MachRes (w : World) (k nm : Int) (tx : ByteArray) (st : Int) (e : Ending) (w' : World) : Prop :=
  ∃ g c, e = .returned (.tuple #[.agg (mach (some ⟨g, 0, none⟩, 1, c) st 0), .int .i64 0]) ∧ 1 ≤ c ∧ w'.cell? ⟨g, 0, none⟩ = some (.int .i64 k) ∧ w'.cell? ⟨g, 1, none⟩ = some (.int .i64 nm) ∧ V2 w' g tx ∧ w.heap.size ≤ g ∧ Below w.heap.size w w'
theorem mach_fin {w w3 : World} {b g c : Nat} {k nm : Int} {tx : ByteArray} {x0 x1 x2 x3 x4 x5 x6 x7 : Value} (st : Int) (hr : w3.heap[b]? = some (.cells #[x0, x1, x2, x3, x4, x5, x6, x7] 131 (0, 0))) (hb : Below w.heap.size w w3) (hwb : w.heap.size ≤ b) (hgb : g ≠ b) (c0 : w3.cell? ⟨g, 0, none⟩ = some (.int .i64 k)) (c1 : w3.cell? ⟨g, 1, none⟩ = some (.int .i64 nm)) (c2 : V2 w3 g tx) :
    ((((((((w3.setCell ⟨b, 0, none⟩ (.slice none 0 0)).setCell ⟨b, 1, none⟩ (.slice none 0 0)).setCell ⟨b, 2, none⟩ (.slice (some ⟨g, 0, none⟩) 1 c)).setCell ⟨b, 3, none⟩ (.slice none 0 0)).setCell ⟨b, 4, none⟩ (.int .i64 0)).setCell ⟨b, 5, none⟩ (.int .i64 st)).setCell ⟨b, 6, none⟩ (.int .i64 0)).setCell ⟨b, 7, none⟩ (.string ⟨#[]⟩)).heap[b]? = some (.cells (mach (some ⟨g, 0, none⟩, 1, c) st 0) 131 (0, 0)) ∧ ((((((((w3.setCell ⟨b, 0, none⟩ (.slice none 0 0)).setCell ⟨b, 1, none⟩ (.slice none 0 0)).setCell ⟨b, 2, none⟩ (.slice (some ⟨g, 0, none⟩) 1 c)).setCell ⟨b, 3, none⟩ (.slice none 0 0)).setCell ⟨b, 4, none⟩ (.int .i64 0)).setCell ⟨b, 5, none⟩ (.int .i64 st)).setCell ⟨b, 6, none⟩ (.int .i64 0)).setCell ⟨b, 7, none⟩ (.string ⟨#[]⟩)).cell? ⟨g, 0, none⟩ = some (.int .i64 k) ∧ ((((((((w3.setCell ⟨b, 0, none⟩ (.slice none 0 0)).setCell ⟨b, 1, none⟩ (.slice none 0 0)).setCell ⟨b, 2, none⟩ (.slice (some ⟨g, 0, none⟩) 1 c)).setCell ⟨b, 3, none⟩ (.slice none 0 0)).setCell ⟨b, 4, none⟩ (.int .i64 0)).setCell ⟨b, 5, none⟩ (.int .i64 st)).setCell ⟨b, 6, none⟩ (.int .i64 0)).setCell ⟨b, 7, none⟩ (.string ⟨#[]⟩)).cell? ⟨g, 1, none⟩ = some (.int .i64 nm) ∧ V2 ((((((((w3.setCell ⟨b, 0, none⟩ (.slice none 0 0)).setCell ⟨b, 1, none⟩ (.slice none 0 0)).setCell ⟨b, 2, none⟩ (.slice (some ⟨g, 0, none⟩) 1 c)).setCell ⟨b, 3, none⟩ (.slice none 0 0)).setCell ⟨b, 4, none⟩ (.int .i64 0)).setCell ⟨b, 5, none⟩ (.int .i64 st)).setCell ⟨b, 6, none⟩ (.int .i64 0)).setCell ⟨b, 7, none⟩ (.string ⟨#[]⟩)) g tx ∧ Below w.heap.size w ((((((((w3.setCell ⟨b, 0, none⟩ (.slice none 0 0)).setCell ⟨b, 1, none⟩ (.slice none 0 0)).setCell ⟨b, 2, none⟩ (.slice (some ⟨g, 0, none⟩) 1 c)).setCell ⟨b, 3, none⟩ (.slice none 0 0)).setCell ⟨b, 4, none⟩ (.int .i64 0)).setCell ⟨b, 5, none⟩ (.int .i64 st)).setCell ⟨b, 6, none⟩ (.int .i64 0)).setCell ⟨b, 7, none⟩ (.string ⟨#[]⟩)) := by
  have hfin := set8 hr (.slice none 0 0) (.slice none 0 0) (.slice (some ⟨g, 0, none⟩) 1 c) (.slice none 0 0) (.int .i64 0) (.int .i64 st) (.int .i64 0) (.string ⟨#[]⟩)
  have hbut : But (· = b) w3 ((((((((w3.setCell ⟨b, 0, none⟩ (.slice none 0 0)).setCell ⟨b, 1, none⟩ (.slice none 0 0)).setCell ⟨b, 2, none⟩ (.slice (some ⟨g, 0, none⟩) 1 c)).setCell ⟨b, 3, none⟩ (.slice none 0 0)).setCell ⟨b, 4, none⟩ (.int .i64 0)).setCell ⟨b, 5, none⟩ (.int .i64 st)).setCell ⟨b, 6, none⟩ (.int .i64 0)).setCell ⟨b, 7, none⟩ (.string ⟨#[]⟩)) := set8_but (.slice none 0 0) (.slice none 0 0) (.slice (some ⟨g, 0, none⟩) 1 c) (.slice none 0 0) (.int .i64 0) (.int .i64 st) (.int .i64 0) (.string ⟨#[]⟩)
  generalize ((((((((w3.setCell ⟨b, 0, none⟩ (.slice none 0 0)).setCell ⟨b, 1, none⟩ (.slice none 0 0)).setCell ⟨b, 2, none⟩ (.slice (some ⟨g, 0, none⟩) 1 c)).setCell ⟨b, 3, none⟩ (.slice none 0 0)).setCell ⟨b, 4, none⟩ (.int .i64 0)).setCell ⟨b, 5, none⟩ (.int .i64 st)).setCell ⟨b, 6, none⟩ (.int .i64 0)).setCell ⟨b, 7, none⟩ (.string ⟨#[]⟩)) = WF at hfin hbut ⊢
  have hlg : g < w3.heap.size := lt_of_cell c0
  have hblk := hbut.block g hlg hgb
  have hc : ∀ j, WF.cell? ⟨g, j, none⟩ = w3.cell? ⟨g, j, none⟩ := fun j => by simp only [World.cell?, hblk]
  exact ⟨hfin, (hc 0).trans c0, (hc 1).trans c1, c2.keep hc, hb.trans (hbut.below hb.size (fun k hk => by omega))⟩
theorem zero8 {w3 : World} {b : Nat} (r : w3.heap[b]? = some (.cells #[.slice none 0 0, .slice none 0 0, .slice none 0 0, .slice none 0 0, .int .i64 0, .int .i64 0, .int .i64 0, .string ⟨#[]⟩] 131 (0, 0))) : (∀ j, w3.frozen? ⟨b, j, none⟩ = false) ∧ w3.cell? ⟨b, 0, none⟩ = some (.slice none 0 0) ∧ w3.cell? ⟨b, 1, none⟩ = some (.slice none 0 0) ∧ w3.cell? ⟨b, 2, none⟩ = some (.slice none 0 0) ∧ w3.cell? ⟨b, 3, none⟩ = some (.slice none 0 0) ∧ w3.cell? ⟨b, 4, none⟩ = some (.int .i64 0) ∧ w3.cell? ⟨b, 5, none⟩ = some (.int .i64 0) ∧ w3.cell? ⟨b, 6, none⟩ = some (.int .i64 0) ∧ w3.cell? ⟨b, 7, none⟩ = some (.string ⟨#[]⟩) := by
  refine ⟨fun j => frozen_of_row _ _ _ _ _ r, ?_, ?_, ?_, ?_, ?_, ?_, ?_, ?_⟩ <;> (rw [cell_of_row _ _ _ _ _ _ r]; rfl)
set_option maxRecDepth 20000 in
set_option maxHeartbeats 4000000 in
theorem number_any (n : Int) (w : World) :
    Calls Tryz.prog 117 #[.agg (mach (none, 0, 0) 0 0), .int .i64 n] w fun e w' => MachRes w 1 n ⟨#[]⟩ 0 e w' := by
  have b1 := (Below.refl w.heap.size w).alloc (Nat.le_refl _) (.cells #[.slice none 0 0, .slice none 0 0, .slice none 0 0, .slice none 0 0, .int .i64 0, .int .i64 0, .int .i64 0, .string ⟨#[]⟩] 131)
  have b2 := b1.alloc b1.size (.cells #[.slice none 0 0, .slice none 0 0, .slice none 0 0, .slice none 0 0, .int .i64 0, .int .i64 0, .int .i64 0, .string ⟨#[]⟩] 131)
  have r1 : ((w.alloc (.cells #[.slice none 0 0, .slice none 0 0, .slice none 0 0, .slice none 0 0, .int .i64 0, .int .i64 0, .int .i64 0, .string ⟨#[]⟩] 131)).alloc (.cells #[.slice none 0 0, .slice none 0 0, .slice none 0 0, .slice none 0 0, .int .i64 0, .int .i64 0, .int .i64 0, .string ⟨#[]⟩] 131)).heap[w.heap.size + 1]? = some (.cells #[.slice none 0 0, .slice none 0 0, .slice none 0 0, .slice none 0 0, .int .i64 0, .int .i64 0, .int .i64 0, .string ⟨#[]⟩] 131 (0, 0)) := by
    have h9 := heap_alloc_new (w.alloc (.cells #[.slice none 0 0, .slice none 0 0, .slice none 0 0, .slice none 0 0, .int .i64 0, .int .i64 0, .int .i64 0, .string ⟨#[]⟩] 131)) (.cells #[.slice none 0 0, .slice none 0 0, .slice none 0 0, .slice none 0 0, .int .i64 0, .int .i64 0, .int .i64 0, .string ⟨#[]⟩] 131)
    rw [World.size_alloc] at h9
    exact h9
  have HR1 : Hid _ := r1
  have hN := new_any 1 n ⟨#[]⟩ ((w.alloc (.cells #[.slice none 0 0, .slice none 0 0, .slice none 0 0, .slice none 0 0, .int .i64 0, .int .i64 0, .int .i64 0, .string ⟨#[]⟩] 131)).alloc (.cells #[.slice none 0 0, .slice none 0 0, .slice none 0 0, .slice none 0 0, .int .i64 0, .int .i64 0, .int .i64 0, .string ⟨#[]⟩] 131))
  have hsz : ((w.alloc (.cells #[.slice none 0 0, .slice none 0 0, .slice none 0 0, .slice none 0 0, .int .i64 0, .int .i64 0, .int .i64 0, .string ⟨#[]⟩] 131)).alloc (.cells #[.slice none 0 0, .slice none 0 0, .slice none 0 0, .slice none 0 0, .int .i64 0, .int .i64 0, .int .i64 0, .string ⟨#[]⟩] 131)).heap.size = w.heap.size + 1 + 1 := by simp
  have HSZ : Hid _ := hsz
  unfold mach at hN ⊢
  simp only at hN ⊢
  clear r1 hsz b1
  go_enter Tryz.func117, Tryz.ntmps117
  go_wp2_with fail
  refine hN.mono ?_
  rintro e w3 ⟨g, c, rfl, hc, c0, c1, c2, hg, hb3⟩
  have r3 := (hb3.block (w.heap.size + 1) (by rw [HSZ.out]; omega)).trans HR1.out
  have hbb := Below.step b2 hb3
  rw [HSZ.out] at hg
  obtain ⟨hf, hWF⟩ := mach_fin (c := c) 0 r3 hbb (by omega) (by omega) c0 c1 c2
  obtain ⟨f, d0, d1, d2, d3, d4, d5, d6, d7⟩ := zero8 r3
  have f0 := f 0
  have f1 := f 1
  have f2 := f 2
  have f3 := f 3
  have f4 := f 4
  have f5 := f 5
  have f6 := f 6
  have f7 := f 7
  have HF : Hid _ := hf
  have HW : Hid _ := hWF
  have l1 : w.heap.size + 1 < w3.heap.size := lt_of_cell d0
  clear hN hf hWF r3 hb3 hbb b2 c0 c1 c2 f
  go_wp2
  have h9 := HF.out
  refine bodyPost_ret (results_mach rfl _ (w.heap.size + 1) rfl _ (some ⟨g, 0, none⟩, 1, c) 0 0 h9 _ rfl) rfl ?_
  exact ⟨g, c, rfl, hc, HW.out.1, HW.out.2.1, HW.out.2.2.1, by omega, HW.out.2.2.2⟩
end Go.Proofs.YtedlofpgddjpgaaGreat

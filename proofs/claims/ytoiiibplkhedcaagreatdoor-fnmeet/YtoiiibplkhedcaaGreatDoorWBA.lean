import Derived.Test.YtoiiibplkhedcaaGreatDoorWAZ
import Derived.Deep.Slices
import Derived.Shelf.SlGeneric
import Derived.Shelf.SlLaysZI
import Derived.Shelf.SlIterI.Sorted
import Derived.Shelf.SlIterI.Keys
import Derived.Shelf.SlIterI.Collect
import Derived.Shelf.SlLaysM
import Derived.Shelf.SortM.Plain
import Derived.Shelf.SortM.AssemblyIn
import Derived.Ground.SlgmProg
import Derived.Ground.GgzProg
set_option maxRecDepth 100000
set_option maxHeartbeats 2000000
namespace Go.Proofs.YtoiiibplkhedcaaGreatDoor
open Go.RowKit Go.Maps
def Qfa : Value → Option (DataW Value × List MemPlace)
  | .slice a n c => some (.held (.slice a n c), [])
  | _ => none
theorem Qpa {v : Value} {z : DataW Value × List MemPlace} (h : Qfa v = some z) : (∃ q : Option Addr × Nat × Nat, v = .slice q.1 q.2.1 q.2.2) ∧ z = (.held v, []) := by
  unfold Qfa at h
  split at h
  · simp only [Option.some.injEq] at h
    exact ⟨⟨(_, _, _), rfl⟩, h.symm⟩
  · cases h
section
variable {P : Program} (w : World) {ops : Array Oper} {rest : List Oper} {o : Oper} {a : Act} {Q : Exit → Act → World → Prop}
theorem Qck (hg : o.guard = none) (m x : Operand) (t : TypeId) (hop : o.op = Op.lookup t m x true)
    (k e : TypeId) (K : Keyed P k) (ht : P.underlying t = some (.map k e)) {z : Value} (hz : (zeroValue e).run P w = .ok z w) (b n : Nat) (D : DataW Value)
    (hm : a.eval m = .map (some b)) (hown : w.ownsMap P k Qfa b n D) (key : Value) (kl : Lit) (hx : a.eval x = key) (hkey : keyOf P k key = some kl)
    {h : Bool} {v : Value} (hzd : Qfa z = some (.held z, [])) (hh : Maps.has D kl = h) (hv : D.atKey kl (.held z) = .held v)
    (hK : wpList P ops Q rest (a.put o.dst (.tuple #[v, .bool h])) w) :
    wpList P ops Q (o :: rest) a w :=
  wpList_lookup_own_ok w hg m x t hop k e K ht Qfa hz (.held z) [] hzd b n D hm hown key kl hx hkey (fun v' ps hv' => by
    have e9 : v' = v := by
      rw [hv] at hv'
      have h9 := (Qpa hv').2
      simp only [Prod.mk.injEq, DataW.held.injEq] at h9
      exact h9.1.symm
    rw [e9, hh]
    exact hK)
theorem Qgm (hg : o.guard = none) (m x : Operand) (t : TypeId) (hop : o.op = Op.lookup t m x false)
    (k e : TypeId) (K : Keyed P k) (ht : P.underlying t = some (.map k e)) {z : Value} (hz : (zeroValue e).run P w = .ok z w) (b n : Nat) (D : DataW Value)
    (hm : a.eval m = .map (some b)) (hown : w.ownsMap P k Qfa b n D) (key : Value) (kl : Lit) (hx : a.eval x = key) (hkey : keyOf P k key = some kl)
    {v : Value} (hzd : Qfa z = some (.held z, [])) (hv : D.atKey kl (.held z) = .held v)
    (hK : wpList P ops Q rest (a.put o.dst v) w) :
    wpList P ops Q (o :: rest) a w := by
  refine wpList_plain hg fun K' hK' => ?_
  obtain ⟨v', ps, hrun, hv'⟩ := hown.lookup K ht hz (zd := .held z) (zp := []) hzd hkey
  have e9 : v' = v := by
    rw [hv] at hv'
    have h9 := (Qpa hv').2
    simp only [Prod.mk.injEq, DataW.held.injEq] at h9
    exact h9.1.symm
  subst e9
  unfold Oper.wp
  simp [execOp, hop, hm, hx, hrun, Result.andThen]
  exact hK' _ _ hK
end
def sl (q : Option Addr × Nat × Nat) : Value := .slice q.1 q.2.1 q.2.2
def FirstD (ps : List (Int × (Option Addr × Nat × Nat))) (D : DataW Value) : Prop :=
  Tidy D ∧ ∀ x : Int, Maps.has D (.int .i64 x) = decide (placeIn (ps.map Prod.fst) x < ps.length) ∧ ∀ (h : placeIn (ps.map Prod.fst) x < ps.length) z, D.atKey (.int .i64 x) z = .held (sl ps[placeIn (ps.map Prod.fst) x].2)
theorem FirstD.start : FirstD [] (.map []) := ⟨tidy_empty, fun _ => ⟨rfl, fun h => by simp at h⟩⟩
theorem Qip (y : Int) (l : List Int) (x : Int) : placeIn (y :: l) x = if y = x then 0 else placeIn l x + 1 := by
  unfold placeIn
  rw [List.findIdx_cons]
  by_cases h : y = x
  · simp [h]
  · have : (y == x) = false := by simpa using h
    rw [this]; simp [h]
theorem FirstD.put {ps : List (Int × (Option Addr × Nat × Nat))} {D : DataW Value} (h : FirstD ps D) (p : Int × (Option Addr × Nat × Nat)) : FirstD (p :: ps) (D.put (.int .i64 p.1) (.held (sl p.2))) := by
  obtain ⟨h1, h2⟩ := h
  have hkl : ∀ z : Int, WideAt.IsKeyLit (.int .i64 z) := fun _ => trivial
  refine ⟨h1.put (hkl _) _, ?_⟩
  intro x
  by_cases hx : p.1 = x
  · subst hx
    have e : placeIn ((p :: ps).map Prod.fst) p.1 = 0 := by rw [List.map_cons, Qip, if_pos rfl]
    refine ⟨?_, ?_⟩
    · rw [has_put_same h1.isMap (hkl _), e]
      simp
    · intro h z
      rw [atKey_put_same h1.isMap (hkl _)]
      simp only [e, List.getElem_cons_zero]
  · have hne : (Lit.int .i64 x) ≠ (Lit.int .i64 p.1) := fun h => hx (by simpa using h.symm)
    have e : placeIn ((p :: ps).map Prod.fst) x = placeIn (ps.map Prod.fst) x + 1 := by rw [List.map_cons, Qip, if_neg hx]
    refine ⟨?_, ?_⟩
    · rw [has_put_other hne, (h2 x).1, e]
      simp
    · intro h z
      rw [atKey_put_other hne]
      simp only [e, List.getElem_cons_succ]
      exact (h2 x).2 (by simp only [e, List.length_cons] at h; omega) z
def Prs (w : World) (ao : Option Addr) (ps : List (Int × (Option Addr × Nat × Nat))) : Prop :=
  ∀ i (h : i < ps.length), ∃ b o, ao = some ⟨b, o, none⟩ ∧ w.cell? ⟨b, o + i * 2, none⟩ = some (.int .i64 ps[i].1) ∧ w.cell? ⟨b, o + i * 2 + 1, none⟩ = some (.slice ps[i].2.1 ps[i].2.2.1 ps[i].2.2.2)
theorem Prs.but {S : Nat → Prop} {w w' : World} {ao : Option Addr} {ps : List (Int × (Option Addr × Nat × Nat))} (h : Prs w ao ps) (hb : But S w w') (hs : ∀ b o, ao = some ⟨b, o, none⟩ → 0 < ps.length → ¬ S b) : Prs w' ao ps := by
  intro i hi
  obtain ⟨b, o, e, h0, h1⟩ := h i hi
  exact ⟨b, o, e, (hb.cell (Qaa h0) (hs b o e (by omega))).trans h0, (hb.cell (Qaa h1) (hs b o e (by omega))).trans h1⟩
theorem Prs.below {w w' : World} {ao : Option Addr} {ps : List (Int × (Option Addr × Nat × Nat))} (h : Prs w ao ps) (hb : Below w.heap.size w w') : Prs w' ao ps := h.but (S := fun _ => False) (But.ofBelow hb) (fun _ _ _ _ h => h)
theorem Binds.prs {w : World} {ao : Option Addr} {bs : List (Int × List Nd)} (h : Binds w ao bs) : ∃ ps : List (Int × (Option Addr × Nat × Nat)), ps.length = bs.length ∧ ps.map Prod.fst = bs.map Prod.fst ∧ Prs w ao ps ∧
    ∀ i (hp : i < ps.length) (hb : i < bs.length), ps[i].2.2.1 = bs[i].2.length ∧ Nodes w ps[i].2.1 bs[i].2 := by
  have inh : Inhabited (Option Addr × Nat) := ⟨none, 0⟩
  obtain ⟨F, hF⟩ := Go.Deep.choose_lt (α := Option Addr × Nat) (n := bs.length) (p := fun i q => ∀ hb : i < bs.length, ∃ b o, ao = some ⟨b, o, none⟩ ∧ w.cell? ⟨b, o + i * 2, none⟩ = some (.int .i64 bs[i].1) ∧ w.cell? ⟨b, o + i * 2 + 1, none⟩ = some (.slice q.1 bs[i].2.length q.2) ∧ Nodes w q.1 bs[i].2) (fun i hi => by
    obtain ⟨b, o, ai, ci, e, h0, hc, hn⟩ := h i hi
    exact ⟨(ai, ci), fun _ => ⟨b, o, e, h0, hc, hn⟩⟩)
  have hget : ∀ i (hp : i < (bs.mapIdx fun i x => (x.1, ((F i).1, x.2.length, (F i).2))).length) (hb : i < bs.length), (bs.mapIdx fun i x => (x.1, ((F i).1, x.2.length, (F i).2)))[i] = (bs[i].1, ((F i).1, bs[i].2.length, (F i).2)) := by
    intro i hp hb
    simp
  refine ⟨bs.mapIdx fun i x => (x.1, ((F i).1, x.2.length, (F i).2)), by simp, ?_, ?_, ?_⟩
  · apply List.ext_getElem
    · simp
    · intro i h1 h2
      simp
  · intro i hi
    have hb : i < bs.length := by simpa using hi
    obtain ⟨b, o, e, h0, h1, _⟩ := hF i hb hb
    refine ⟨b, o, e, ?_, ?_⟩
    · rw [hget i hi hb]; exact h0
    · rw [hget i hi hb]; exact h1
  · intro i hp hb
    obtain ⟨b, o, e, h0, h1, hn⟩ := hF i hb hb
    rw [hget i hp hb]
    exact ⟨rfl, hn⟩
end Go.Proofs.YtoiiibplkhedcaaGreatDoor
namespace Go.Proofs.YtoiiibplkhedcaaGreatDoor
open Go.RowKit Go.Shelf Go.Maps
attribute [local go_sem] Oper.semAt_some
theorem Qem {P : Program} {k : TypeId} {H : Type} {R : Value → Option (DataW H × List MemPlace)} {w w' : World} {b n : Nat} {D : DataW H} (h : w.ownsMap P k R b n D) (e : w'.heap[b]? = w.heap[b]?) : w'.ownsMap P k R b n D := by
  obtain ⟨es, clock, hb, F, hs, hD⟩ := h
  exact ⟨es, clock, e.trans hb, F, hs, hD⟩
theorem But.ofBelow' {B : Nat} {a b : World} (h : Below B a b) : But (B ≤ ·) a b := ⟨h.os, h.tape, h.output, h.size, fun i _ hn => h.block i (by omega)⟩
def Jat (x : Nat × (Int × (Option Addr × Nat × Nat))) : Array Value := #[.int .i64 (x.1 : Int), .agg #[.int .i64 x.2.1, .slice x.2.2.1 x.2.2.2.1 x.2.2.2.2]]
def Jdo (q : Nat) (ao : Option Addr) (cap Bb : Nat) (ps : List (Int × (Option Addr × Nat × Nat))) (A : World) : Prop := Box1 A Bb 30 (.slice ao q cap) ∧ Prs A ao ps
theorem Qla (q : Nat) (hq : q ≤ 1048576) (ao : Option Addr) (cap Bb : Nat) (ps : List (Int × (Option Addr × Nat × Nat))) (HP : Hid (ps.length = q)) (n₀ n : Nat) (w : World) :
    Iter Fence.wide n Tryz.prog 105 #[.pointer (some ⟨Bb, 0, none⟩)] Jat (fun xs => xs.length = q) (fun _ => True) (fun pre x => x.1 + 1 + pre.length = q ∧ ps[x.1]? = some x.2) (Jdo q ao cap Bb ps) q n₀ w := by
  intro J Jx hJ hRd hY W hW hWs h0
  obtain ⟨hbx, _⟩ := hRd _ _ h0
  have hc := hbx.cell
  refine callsIn_of_wp Tryz.func105 rfl trivial ?_
  simp only [Tryz.ntmps105, List.size_toArray, List.length_cons, List.length_nil, Nat.reduceAdd, Nat.reduceSub, Array.replicate_succ, Array.replicate_zero, List.push_toArray, List.append_toArray, List.nil_append, List.cons_append]
  gi_wp2
  clear hbx hc
  gi_loopw [3] (fun p wr => ∃ (r : Nat) (pre : List (Nat × (Int × (Option Addr × Nat × Nat)))), p = .int .i64 ((r : Int) - 1) ∧ r + pre.length = q ∧ J pre wr) (fun p _ => (intOf p + 1).toNat)
  case atStart => exact ⟨q, [], rfl, by simp, h0⟩
  case round =>
    obtain ⟨r, pre, rfl, hr, hj⟩ := hrel
    by_cases hr0 : 0 < r
    · obtain ⟨r', rfl⟩ : ∃ r', r = r' + 1 := ⟨r - 1, by omega⟩
      obtain ⟨hbx, hsp⟩ := hRd _ _ hj
      have hc := hbx.cell
      have hlt : r' < ps.length := by have := HP.out; omega
      obtain ⟨b, o, rfl, c0, c1⟩ := hsp r' hlt
      have hps : ps[r']? = some ps[r'] := List.getElem?_eq_getElem hlt
      obtain ⟨⟨nm, sa, sn, sc⟩, hs⟩ : ∃ p, ps[r'] = p := ⟨_, rfl⟩
      rw [hs] at c0 c1 hps
      simp only at c0 c1
      obtain ⟨fn, tmps, assign, body, hy, hR⟩ := hY pre (r', nm, sa, sn, sc) _ hj (by omega) ⟨by show r' + 1 + pre.length = q; omega, hps⟩
      simp only [Jat] at hy
      have e1 : (((r' + 1 : Nat) : Int) - 1) = (r' : Int) := by omega
      rw [e1]
      have hrq : r' < q := by omega
      clear hsp hs hlt h0 hps
      gi_wp2_with fail
      refine ⟨fun h => (by cases h), hR.mono ?_⟩
      rintro e W3 (⟨rfl, hJ3, hk3⟩ | ⟨rfl, hJx3⟩)
      · gi_wp2
        go_roundw
        case rel => exact ⟨r', pre ++ [(r', nm, sa, sn, sc)], by go_num, by simp; omega, hJ3⟩
        case measure => simp [intOf]
      · gi_wp2
        refine bodyPost_ret (results_none rfl _ _ _) rfl ?_
        exact ⟨⟨_, rfl⟩, .inr ⟨pre ++ [(r', nm, sa, sn, sc)], trivial, hJx3⟩⟩
    · have hr00 : r = 0 := by omega
      subst hr00
      gi_wp2
      go_end0
      exact ⟨⟨_, rfl⟩, .inl ⟨pre, by omega, hj⟩⟩
theorem Qne (ao : Option Addr) (q cap : Nat) (w : World) :
    Calls Tryz.prog 88 #[.slice ao q cap] w fun e w' => e = .returned (.func (.func 105) #[] #[.pointer (some ⟨w.heap.size, 0, none⟩)]) ∧ w' = w.alloc (.cells #[.slice ao q cap] 30) := by
  go_enter Tryz.func88, Tryz.ntmps88
  go_wp2
  go_ret
  exact ⟨rfl, rfl⟩
structure TRnd (w : World) (z : Nat) (ao : Option Addr) (q cap : Nat) (ps : List (Int × (Option Addr × Nat × Nat))) (pre : List (Nat × (Int × (Option Addr × Nat × Nat)))) (W : World) : Prop where
  len : pre.length ≤ q
  own : ∃ D, W.ownsMap Tryz.prog 2 Qfa z pre.length D ∧ FirstD (ps.drop (q - pre.length)) D
  box : Box1 W (z + 1) 67 (.map (some z))
  back : Box1 W (z + 1 + 1) 30 (.slice ao q cap)
  prs : Prs W ao ps
  below : Below w.heap.size w W
theorem TRnd.but {S : Nat → Prop} {w W W' : World} {z : Nat} {ao : Option Addr} {q cap : Nat} {ps : List (Int × (Option Addr × Nat × Nat))} {pre : List (Nat × (Int × (Option Addr × Nat × Nat)))} (h : TRnd w z ao q cap ps pre W) (hb : But S W W') (hz : w.heap.size ≤ z) (hs : ∀ k, S k → z + 3 ≤ k) (ha : ∀ b o, ao = some ⟨b, o, none⟩ → 0 < ps.length → b < w.heap.size) : TRnd w z ao q cap ps pre W' := by
  obtain ⟨D, hD, hF⟩ := h.own
  refine ⟨h.len, ⟨D, Qem hD (hb.block z hD.lt (fun h9 => by have := hs _ h9; omega)), hF⟩, h.box.but hb (fun h9 => by have := hs _ h9; omega), h.back.but hb (fun h9 => by have := hs _ h9; omega), h.prs.but hb (fun b o e h0 h9 => by have := hs _ h9; have := ha b o e h0; omega), ?_⟩
  exact h.below.trans (hb.below h.below.size (fun k hk => by have := hs _ hk; omega))
theorem Qqb (ps : List (Int × (Option Addr × Nat × Nat))) (q : Nat) (HP : Hid (ps.length = q)) (hq : q ≤ 1048576) (HW : Hid (∀ p ∈ ps, (Lit.int .i64 p.1).wf = true)) (ao : Option Addr) (cap : Nat) (w : World) (hx : Prs w ao ps) :
    Calls Tryz.prog 51 #[.slice ao q cap] w fun e w' => ∃ D, e = .returned (.map (some w.heap.size)) ∧ w'.ownsMap Tryz.prog 2 Qfa w.heap.size q D ∧ FirstD ps D ∧ Below w.heap.size w w' := by
  obtain ⟨n, hn⟩ : ∃ n : Nat, 6 ≤ n := ⟨6, Nat.le_refl _⟩
  refine (callsIn_wide (n := n)).1 ?_
  refine callsIn_of_wp_marks Tryz.func51 rfl trivial ?_
  simp only [Tryz.ntmps51, List.size_toArray, List.length_cons, List.length_nil, Nat.reduceAdd, Nat.reduceSub, Array.replicate_succ, Array.replicate_zero, List.push_toArray, List.append_toArray, List.nil_append, List.cons_append]
  have hmm := @run_makeMap Tryz.prog
  gi_wp2_with fail
  refine ⟨trivial, fun h => (by cases h), callsIn_wide.2 ((Qne _ q _ _).mono ?_)⟩
  rintro e w4 ⟨rfl, rfl⟩
  gi_wp2
  obtain ⟨z, hz⟩ : ∃ z, w.heap.size = z := ⟨_, rfl⟩
  have hT : TRnd w z ao q cap ps [] (((w.alloc (.map #[] 0)).alloc (.cells #[.map (some z)] 67)).alloc (.cells #[.slice ao q cap] 30)) := by
    subst hz
    have hA : Below w.heap.size w (w.alloc (.map #[] 0)) := (Below.refl _ w).alloc (Nat.le_refl _) _
    have hB := hA.alloc hA.size (.cells #[.map (some w.heap.size)] 67)
    have hC := hB.alloc hB.size (.cells #[.slice ao q cap] 30)
    refine ⟨Nat.zero_le _, ⟨.map [], ((World.ownsMap_made w Tryz.prog 2 Qfa).alloc _).alloc _, ?_⟩, ?_, ?_, hx.below hC, hC⟩
    · rw [List.drop_of_length_le (by have := HP.out; simp; omega)]
      exact FirstD.start
    · have h9 := (Box1.new (w.alloc (.map #[] 0)) 67 (.map (some w.heap.size))).alloc (.cells #[.slice ao q cap] 30)
      simpa using h9
    · have h9 := Box1.new ((w.alloc (.map #[] 0)).alloc (.cells #[.map (some w.heap.size)] 67)) 30 (.slice ao q cap)
      simpa using h9
  have hal : ∀ b o, ao = some ⟨b, o, none⟩ → 0 < ps.length → b < w.heap.size := by
    intro b o e h0
    obtain ⟨b', o', e', c0, _⟩ := hx 0 h0
    rw [e] at e'
    simp only [Option.some.injEq, Addr.mk.injEq, and_true] at e'
    rw [e'.1]
    exact Qaa c0
  have hs1 : (((w.alloc (.map #[] 0)).alloc (.cells #[.map (some z)] 67)).alloc (.cells #[.slice ao q cap] 30)).heap.size = z + 3 := by simp [hz]
  simp only [hz]
  generalize ((w.alloc (.map #[] 0)).alloc (.cells #[.map (some z)] 67)).alloc (.cells #[.slice ao q cap] 30) = W1 at hT hs1 ⊢
  clear hx
  refine Qlc (α := Nat × (Int × (Option Addr × Nat × Nat))) rfl (by omega) (gf := 105) (lb := #[.pointer (some ⟨z + 1 + 1, 0, none⟩)]) rfl trivial (enters_of Tryz.func105 (by kernel_rfl) rfl)
    (encs := Jat) w.heap.size (by omega) (Qla q hq ao cap (z + 1 + 1) ps HP w.heap.size (n - 1) W1) (fun _ => rfl)
    (fun pre W => TRnd w z ao q cap ps pre W)
    (fun _ _ _ => False) ?hI (fun _ _ _ _ h _ => h) ?hRd hT ?round ?done (fun _ _ _ _ h _ => h.elim)
  case hI =>
    rintro s A C h hb
    exact h.but (But.ofBelow' hb) (by omega) (fun k hk => by omega) hal
  case hRd =>
    rintro s A h
    exact ⟨h.back, h.prs⟩
  case round =>
    rintro pre ⟨k, nm, sa, sn, sc⟩ W hK hlen hfit hsz
    obtain ⟨hfit, hps⟩ := hfit
    simp only at hfit hps
    simp only [Jat]
    have HS1 : Hid (W1.heap.size = z + 3) := hs1
    clear hs1
    gi_wp2
    refine ⟨But.ofBelow ((Below.refl _ W).alloc (Nat.le_refl _) _), ?_⟩
    intro Wb hWb
    have hs1 := HS1.out
    have hKa := hK.but (S := fun _ => False) (But.ofBelow ((Below.refl _ W).alloc (Nat.le_refl _) (.cells #[.int .i64 nm, .slice sa sn sc] 54))) (by omega) (fun _ h => h.elim) hal
    have hKb := hKa.but hWb (by omega) (fun k hk => by omega) hal
    have hblk : Wb.heap[W.heap.size]? = some (.cells #[.int .i64 nm, .slice sa sn sc] 54 (0, 0)) := (hWb.block W.heap.size (by simp) (by omega)).trans (heap_alloc_new _ _)
    have u0 : Wb.cell? ⟨W.heap.size, 0, none⟩ = some (.int .i64 nm) := by rw [cell_of_row _ _ _ _ _ _ hblk]; rfl
    have u1 : Wb.cell? ⟨W.heap.size, 1, none⟩ = some (.slice sa sn sc) := by rw [cell_of_row _ _ _ _ _ _ hblk]; rfl
    obtain ⟨D, hown, hF⟩ := hKb.own
    have hlt := (List.getElem?_eq_some_iff.1 hps).1
    have hwf := HW.out (nm, sa, sn, sc) (List.mem_of_getElem? hps)
    have hkey : keyOf Tryz.prog 2 (.int .i64 nm) = some (.int .i64 nm) := keyOf_int_mk Tryz.underlying2 hwf
    have hc := hKb.box.cell
    have hd : ps.drop (q - (pre.length + 1)) = (nm, sa, sn, sc) :: ps.drop (q - pre.length) := by
      have e1 : q - (pre.length + 1) = k := by omega
      have e2 : q - pre.length = k + 1 := by omega
      rw [e1, e2, List.drop_eq_getElem_cons hlt]
      congr 1
      rw [List.getElem?_eq_getElem hlt] at hps
      simpa using hps
    have hF2 := hF.put (nm, sa, sn, sc)
    rw [← hd] at hF2
    have HF2 : Hid (FirstD (ps.drop (q - (pre.length + 1))) (D.put (.int .i64 nm) (.held (.slice sa sn sc)))) := hF2
    have HFIN : Hid (∀ w2, w2.ownsMap Tryz.prog 2 Qfa z (pre.length + 1) (D.put (.int .i64 nm) (.held (.slice sa sn sc))) → Wb.grownBy w2 (some z) → But (Mine w.heap.size W1.heap.size) Wb w2 ∧ TRnd w z ao q cap ps (pre ++ [(k, nm, sa, sn, sc)]) w2) := by
      intro w2 hown2 hg2
      have hbut : But (· = z) Wb w2 := (But.refl (· = z) Wb).grown hg2 (fun _ => rfl)
      refine ⟨⟨hbut.os, hbut.tape, hbut.output, hbut.size, fun i hi hn => hbut.block i hi (fun e => hn (by subst e; exact ⟨by omega, by omega⟩))⟩, ?_⟩
      refine ⟨by simp; omega, ⟨_, by simpa using hown2, by simpa using HF2.out⟩, hKb.box.but hbut (by omega), hKb.back.but hbut (by omega), hKb.prs.but hbut (fun b o e h0 e2 => by have := hal b o e h0; omega), hKb.below.trans (hbut.below hKb.below.size (fun k hk => by omega))⟩
    clear hF hF2 hd hlt hwf hps hblk hKa hK hWb HF2
    obtain ⟨w2, hrun, hown2, hgrow2⟩ := hown.update Tryz.law2 Tryz.underlying67 (by unfold maxLen; omega) hkey (val := .slice sa sn sc) (d := .held (.slice sa sn sc)) (ps := []) rfl
    gi_wp2
    exact HFIN.out w2 hown2 hgrow2
  case done =>
    rintro xs W hxl hK hD
    have hxl : xs.length = q := hxl
    obtain ⟨D, hown, hF⟩ := hK.own
    rw [hxl, Nat.sub_self, List.drop_zero] at hF
    rw [hxl] at hown
    have hput : But (· = W1.heap.size) W (W.putObj W1.heap.size (.deferred none)) := But.putObj _ _ _ rfl
    have hq := hK.box.cell
    have hown9 := Qem hown (hput.block z hown.lt (by omega))
    have hb9 := hK.below.trans (hput.below hK.below.size (fun k hk => by omega))
    rw [hs1] at hD hput hown9 hb9 ⊢
    clear hK hown
    gi_wp2
    refine ⟨by simp, .inl ⟨_, _, rfl, run_takeDeferred hD, ?_⟩⟩
    subst hz
    exact ⟨_, results_tmp rfl _ _ _, D, rfl, hown9, hF, hb9⟩
end Go.Proofs.YtoiiibplkhedcaaGreatDoor
namespace Go.Proofs.YtoiiibplkhedcaaGreatDoor
open Go.Shelf
def Tryz.laysK65_ren : Go.Shelf.Ren := ⟨fun | 6 => 65 | 8 => 95 | 9 => 96 | 11 => 108 | 13 => 110 | 12 => 109 | 23 => 122 | 24 => 123 | 14 => 113 | 15 => 114 | 16 => 115 | 17 => 116 | 18 => 117 | 19 => 118 | 20 => 119 | 21 => 120 | 22 => 121 | 25 => 127 | 26 => 128 | 27 => 129 | 28 => 130 | 29 => 131 | 30 => 132 | 31 => 133 | n => n, fun | 26 => 2 | 28 => 124 | 24 => 75 | 0 => 0 | 3 => 3 | 37 => 197 | 48 => 217 | 50 => 219 | 4 => 4 | 40 => 209 | 39 => 208 | 45 => 214 | 5 => 5 | 9 => 9 | 51 => 224 | 55 => 228 | 57 => 230 | 58 => 35 | 33 => 173 | n => n, fun | n => n⟩
theorem Tryz.laysK65 : Go.Proofs.SlLaysZI.n6 Tryz.prog Tryz.laysK65_ren := {
  mixed := by kernel_rfl
  f6 := ⟨Tryz.f65.name, by decide, Tryz.func65.trans (congrArg some (by kernel_rfl))⟩
  f8 := ⟨Tryz.f95.name, by decide, Tryz.func95.trans (congrArg some (by kernel_rfl))⟩
  f11 := ⟨Tryz.f108.name, by decide, Tryz.func108.trans (congrArg some (by kernel_rfl))⟩
  t0 := Tryz.underlying0
  a0 := Tryz.isAgg0
  z0 := Tryz.sizeOf0
  v0 := Tryz.zeroValue0
  t24 := Tryz.underlying75
  a24 := Tryz.isAgg75
  z24 := Tryz.sizeOf75
  v24 := Tryz.zeroValue75
  t26 := Tryz.underlying2
  a26 := Tryz.isAgg2
  z26 := Tryz.sizeOf2
  v26 := Tryz.zeroValue2
  t28 := Tryz.underlying124
  a28 := Tryz.isAgg124
  z28 := Tryz.sizeOf124
  v28 := Tryz.zeroValue124
  i26 := by kernel_rfl }
def Tryz.laysK66_ren : Go.Shelf.Ren := ⟨fun | 7 => 66 | 10 => 97 | n => n, fun | 23 => 67 | 26 => 2 | 3 => 23 | 28 => 124 | 0 => 0 | 27 => 123 | 33 => 173 | 4 => 4 | n => n, fun | n => n⟩
theorem Tryz.laysK66 : Go.Proofs.SlLaysZI.n7 Tryz.prog Tryz.laysK66_ren := {
  mixed := by kernel_rfl
  f7 := ⟨Tryz.f66.name, by decide, Tryz.func66.trans (congrArg some (by kernel_rfl))⟩
  f10 := ⟨Tryz.f97.name, by decide, Tryz.func97.trans (congrArg some (by kernel_rfl))⟩
  t0 := Tryz.underlying0
  a0 := Tryz.isAgg0
  z0 := Tryz.sizeOf0
  v0 := Tryz.zeroValue0
  t4 := Tryz.underlying4
  a4 := Tryz.isAgg4
  z4 := Tryz.sizeOf4
  v4 := Tryz.zeroValue4
  t23 := Tryz.underlying67
  a23 := Tryz.isAgg67
  z23 := Tryz.sizeOf67
  v23 := Tryz.zeroValue67
  t26 := Tryz.underlying2
  a26 := Tryz.isAgg2
  z26 := Tryz.sizeOf2
  v26 := Tryz.zeroValue2
  t27 := Tryz.underlying123
  a27 := Tryz.isAgg123
  z27 := Tryz.sizeOf123
  v27 := Tryz.zeroValue123
  t28 := Tryz.underlying124
  a28 := Tryz.isAgg124
  z28 := Tryz.sizeOf124
  v28 := Tryz.zeroValue124
  t33 := Tryz.underlying173
  a33 := Tryz.isAgg173
  z33 := Tryz.sizeOf173
  v33 := Tryz.zeroValue173 }
def Tryz.laysK97_ren : Go.Shelf.Ren := ⟨fun | 10 => 97 | n => n, fun | 33 => 173 | 23 => 67 | 0 => 0 | 4 => 4 | 26 => 2 | 3 => 23 | n => n, fun | n => n⟩
theorem Tryz.laysK97 : Go.Proofs.SlLaysZI.n10 Tryz.prog Tryz.laysK97_ren := {
  mixed := by kernel_rfl
  f10 := ⟨Tryz.f97.name, by decide, Tryz.func97.trans (congrArg some (by kernel_rfl))⟩
  t0 := Tryz.underlying0
  a0 := Tryz.isAgg0
  z0 := Tryz.sizeOf0
  v0 := Tryz.zeroValue0
  t4 := Tryz.underlying4
  a4 := Tryz.isAgg4
  z4 := Tryz.sizeOf4
  v4 := Tryz.zeroValue4
  t23 := Tryz.underlying67
  a23 := Tryz.isAgg67
  z23 := Tryz.sizeOf67
  v23 := Tryz.zeroValue67
  t26 := Tryz.underlying2
  a26 := Tryz.isAgg2
  z26 := Tryz.sizeOf2
  v26 := Tryz.zeroValue2
  t33 := Tryz.underlying173
  a33 := Tryz.isAgg173
  z33 := Tryz.sizeOf173
  v33 := Tryz.zeroValue173 }
def Tryz.laysK96_ren : Go.Shelf.Ren := ⟨fun | 5 => 96 | 8 => 110 | 7 => 109 | 19 => 122 | 20 => 123 | 10 => 113 | 11 => 114 | 12 => 115 | 13 => 116 | 14 => 117 | 15 => 118 | 16 => 119 | 17 => 120 | 18 => 121 | 30 => 127 | 31 => 128 | 32 => 129 | 33 => 130 | 34 => 131 | 35 => 132 | 40 => 133 | n => n, fun | 23 => 75 | 25 => 2 | 3 => 3 | 32 => 197 | 22 => 75 | 0 => 0 | 44 => 217 | 46 => 219 | 4 => 4 | 36 => 209 | 35 => 208 | 41 => 214 | 5 => 5 | 9 => 9 | 53 => 224 | 57 => 228 | 63 => 230 | 64 => 35 | n => n, fun | n => n⟩
theorem Tryz.laysK96 : Go.Proofs.SlLaysM.n5 Tryz.prog Tryz.laysK96_ren := {
  mixed := by kernel_rfl
  f5 := ⟨Tryz.f96.name, by decide, Tryz.func96.trans (congrArg some (by kernel_rfl))⟩
  f7 := ⟨Tryz.f109.name, by decide, Tryz.func109.trans (congrArg some (by kernel_rfl))⟩
  f8 := Tryz.func110.trans (congrArg some (by kernel_rfl))
  f10 := ⟨Tryz.f113.name, by decide, Tryz.func113.trans (congrArg some (by kernel_rfl))⟩
  f11 := ⟨Tryz.f114.name, by decide, Tryz.func114.trans (congrArg some (by kernel_rfl))⟩
  f12 := ⟨Tryz.f115.name, by decide, Tryz.func115.trans (congrArg some (by kernel_rfl))⟩
  f13 := ⟨Tryz.f116.name, by decide, Tryz.func116.trans (congrArg some (by kernel_rfl))⟩
  f14 := ⟨Tryz.f117.name, by decide, Tryz.func117.trans (congrArg some (by kernel_rfl))⟩
  f15 := ⟨Tryz.f118.name, by decide, Tryz.func118.trans (congrArg some (by kernel_rfl))⟩
  f16 := ⟨Tryz.f119.name, by decide, Tryz.func119.trans (congrArg some (by kernel_rfl))⟩
  f17 := ⟨Tryz.f120.name, by decide, Tryz.func120.trans (congrArg some (by kernel_rfl))⟩
  f18 := ⟨Tryz.f121.name, by decide, Tryz.func121.trans (congrArg some (by kernel_rfl))⟩
  f19 := Tryz.func122.trans (congrArg some (by kernel_rfl))
  f20 := Tryz.func123.trans (congrArg some (by kernel_rfl))
  f30 := ⟨Tryz.f127.name, by decide, Tryz.func127.trans (congrArg some (by kernel_rfl))⟩
  f31 := Tryz.func128.trans (congrArg some (by kernel_rfl))
  f32 := Tryz.func129.trans (congrArg some (by kernel_rfl))
  f33 := ⟨Tryz.f130.name, by decide, Tryz.func130.trans (congrArg some (by kernel_rfl))⟩
  f34 := ⟨Tryz.f131.name, by decide, Tryz.func131.trans (congrArg some (by kernel_rfl))⟩
  f35 := ⟨Tryz.f132.name, by decide, Tryz.func132.trans (congrArg some (by kernel_rfl))⟩
  f40 := ⟨Tryz.f133.name, by decide, Tryz.func133.trans (congrArg some (by kernel_rfl))⟩
  t0 := Tryz.underlying0
  a0 := Tryz.isAgg0
  z0 := Tryz.sizeOf0
  v0 := Tryz.zeroValue0
  t3 := Tryz.underlying3
  a3 := Tryz.isAgg3
  z3 := Tryz.sizeOf3
  v3 := Tryz.zeroValue3
  t4 := Tryz.underlying4
  a4 := Tryz.isAgg4
  z4 := Tryz.sizeOf4
  v4 := Tryz.zeroValue4
  t5 := Tryz.underlying5
  a5 := Tryz.isAgg5
  z5 := Tryz.sizeOf5
  v5 := Tryz.zeroValue5
  t9 := Tryz.underlying9
  a9 := Tryz.isAgg9
  z9 := Tryz.sizeOf9
  v9 := Tryz.zeroValue9
  t22 := Tryz.underlying75
  a22 := Tryz.isAgg75
  z22 := Tryz.sizeOf75
  v22 := Tryz.zeroValue75
  t23 := Tryz.underlying75
  a23 := Tryz.isAgg75
  z23 := Tryz.sizeOf75
  v23 := Tryz.zeroValue75
  t25 := Tryz.underlying2
  a25 := Tryz.isAgg2
  z25 := Tryz.sizeOf2
  v25 := Tryz.zeroValue2
  t32 := Tryz.underlying197
  a32 := Tryz.isAgg197
  z32 := Tryz.sizeOf197
  v32 := Tryz.zeroValue197
  t35 := Tryz.underlying208
  a35 := Tryz.isAgg208
  z35 := Tryz.sizeOf208
  v35 := Tryz.zeroValue208
  t36 := Tryz.underlying209
  a36 := Tryz.isAgg209
  z36 := Tryz.sizeOf209
  v36 := Tryz.zeroValue209
  t41 := Tryz.underlying214
  a41 := Tryz.isAgg214
  z41 := Tryz.sizeOf214
  v41 := Tryz.zeroValue214
  t44 := Tryz.underlying217
  a44 := Tryz.isAgg217
  z44 := Tryz.sizeOf217
  v44 := Tryz.zeroValue217
  t46 := Tryz.underlying219
  a46 := Tryz.isAgg219
  z46 := Tryz.sizeOf219
  v46 := Tryz.zeroValue219
  t53 := Tryz.underlying224
  a53 := Tryz.isAgg224
  z53 := Tryz.sizeOf224
  v53 := Tryz.zeroValue224
  t57 := Tryz.underlying228
  a57 := Tryz.isAgg228
  z57 := Tryz.sizeOf228
  v57 := Tryz.zeroValue228
  t63 := Tryz.underlying230
  a63 := Tryz.isAgg230
  z63 := Tryz.sizeOf230
  v63 := Tryz.zeroValue230
  t64 := Tryz.underlying35
  a64 := Tryz.isAgg35
  z64 := Tryz.sizeOf35
  v64 := Tryz.zeroValue35 }
end Go.Proofs.YtoiiibplkhedcaaGreatDoor

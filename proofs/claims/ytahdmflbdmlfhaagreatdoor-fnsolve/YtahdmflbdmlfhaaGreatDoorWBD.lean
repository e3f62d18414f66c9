import Derived.Test.YtahdmflbdmlfhaaGreatDoorWBC
import Derived.Test.YtahdmflbdmlfhaaGreatDoorWBA
import Derived.Shelf.SlGeneric
import Derived.Shelf.SlLaysZI
import Derived.Shelf.SlIterI.Sorted
import Derived.Shelf.SlIterI.Keys
import Derived.Shelf.SlIterI.Collect
import Derived.Shelf.SlLaysM
import Derived.Shelf.SortM.Plain
import Derived.Shelf.SortM.AssemblyIn
import Derived.Ground.SlgmProg
import Derived.Ground.GgzProg
import Derived.Test.YtahdmflbdmlfhaaGreatDoorProg
namespace Go.Proofs.YtahdmflbdmlfhaaGreatDoor
open Go.RowKit Go.Shelf Go.Maps
attribute [local go_sem] Oper.semAt_some

theorem owns_same {P : Program} {k : TypeId} {H : Type} {R : Value → Option (DataW H × List MemPlace)} {w w' : World} {b n : Nat} {D : DataW H} (h : w.ownsMap P k R b n D) (e : w'.heap[b]? = w.heap[b]?) : w'.ownsMap P k R b n D := by
  obtain ⟨es, clock, hb, F, hs, hD⟩ := h
  exact ⟨es, clock, e.trans hb, F, hs, hD⟩

theorem But.ofBelow' {B : Nat} {a b : World} (h : Below B a b) : But (B ≤ ·) a b := ⟨h.os, h.tape, h.output, h.size, fun i _ hn => h.block i (by omega)⟩

def encPB (x : Nat × (Int × (Option Addr × Nat × Nat))) : Array Value := #[.int .i64 (x.1 : Int), .agg #[.int .i64 x.2.1, .slice x.2.2.1 x.2.2.2.1 x.2.2.2.2]]

/-- What Backward reads of its caller's memory in each round. -/
def ReadsB (q : Nat) (ao : Option Addr) (cap Bb : Nat) (ps : List (Int × (Option Addr × Nat × Nat))) (A : World) : Prop := Box1 A Bb 25 (.slice ao q cap) ∧ Prs A ao ps

set_option maxRecDepth 100000 in
set_option maxHeartbeats 2000000 in
theorem backwardB1_any (q : Nat) (hq : q ≤ 1048576) (ao : Option Addr) (cap Bb : Nat) (ps : List (Int × (Option Addr × Nat × Nat))) (HP : Hid (ps.length = q)) (n₀ n : Nat) (w : World) :
    Iter Fence.wide n Tryz.prog 83 #[.pointer (some ⟨Bb, 0, none⟩)] encPB (fun xs => xs.length = q) (fun _ => True) (fun pre x => x.1 + 1 + pre.length = q ∧ ps[x.1]? = some x.2) (ReadsB q ao cap Bb ps) q n₀ w := by
  intro J Jx hJ hRd hY W hW hWs h0
  obtain ⟨hbx, _⟩ := hRd _ _ h0
  have hc := hbx.cell
  refine callsIn_of_wp Tryz.func83 rfl trivial ?_
  simp only [Tryz.ntmps83, List.size_toArray, List.length_cons, List.length_nil, Nat.reduceAdd, Nat.reduceSub, Array.replicate_succ, Array.replicate_zero, List.push_toArray, List.append_toArray, List.nil_append, List.cons_append]
  gi_wp2
  clear hbx hc
  gi_loopw [3] (fun p wr => ∃ (r : Nat) (pre : List (Nat × (Int × (Option Addr × Nat × Nat)))), p = .int .i64 ((r : Int) - 1) ∧ r + pre.length = q ∧ J pre wr) (fun p _ => (intOf p + 1).toNat)
  case atStart => exact ⟨q, [], rfl, by simp, h0⟩
  case round =>
    obtain ⟨r, pre, rfl, hr, hj⟩ := hrel
    by_cases hr0 : 0 < r
    · obtain ⟨r', rfl⟩ : ∃ r', r = r' + 1 := ⟨r - 1, by omega⟩
      obtain ⟨hbx, hsp⟩ := hRd _ _ hj
      have hc := hbx.cell
      have hlt : r' < ps.length := by have := HP.out; omega
      obtain ⟨b, o, rfl, c0, c1⟩ := hsp r' hlt
      have hps : ps[r']? = some ps[r'] := List.getElem?_eq_getElem hlt
      obtain ⟨⟨nm, sa, sn, sc⟩, hs⟩ : ∃ p, ps[r'] = p := ⟨_, rfl⟩
      rw [hs] at c0 c1 hps
      simp only at c0 c1
      obtain ⟨fn, tmps, assign, body, hy, hR⟩ := hY pre (r', nm, sa, sn, sc) _ hj (by omega) ⟨by show r' + 1 + pre.length = q; omega, hps⟩
      simp only [encPB] at hy
      have e1 : (((r' + 1 : Nat) : Int) - 1) = (r' : Int) := by omega
      rw [e1]
      have hrq : r' < q := by omega
      clear hsp hs hlt h0 hps
      gi_wp2_with fail
      refine ⟨fun h => (by cases h), hR.mono ?_⟩
      rintro e W3 (⟨rfl, hJ3, hk3⟩ | ⟨rfl, hJx3⟩)
      · gi_wp2
        go_roundw
        case rel => exact ⟨r', pre ++ [(r', nm, sa, sn, sc)], by go_num, by simp; omega, hJ3⟩
        case measure => simp [intOf]
      · gi_wp2
        refine bodyPost_ret (results_none rfl _ _ _) rfl ?_
        exact ⟨⟨_, rfl⟩, .inr ⟨pre ++ [(r', nm, sa, sn, sc)], trivial, hJx3⟩⟩
    · have hr00 : r = 0 := by omega
      subst hr00
      gi_wp2
      go_end0
      exact ⟨⟨_, rfl⟩, .inl ⟨pre, by omega, hj⟩⟩

theorem backwardB_any (ao : Option Addr) (q cap : Nat) (w : World) :
    Calls Tryz.prog 61 #[.slice ao q cap] w fun e w' => e = .returned (.func (.func 83) #[] #[.pointer (some ⟨w.heap.size, 0, none⟩)]) ∧ w' = w.alloc (.cells #[.slice ao q cap] 25) := by
  go_enter Tryz.func61, Tryz.ntmps61
  go_wp2
  go_ret
  exact ⟨rfl, rfl⟩

/-- What the loop of typesOf keeps: z the place of its map. -/
structure TRnd (w : World) (z : Nat) (ao : Option Addr) (q cap : Nat) (ps : List (Int × (Option Addr × Nat × Nat))) (pre : List (Nat × (Int × (Option Addr × Nat × Nat)))) (W : World) : Prop where
  len : pre.length ≤ q
  own : ∃ D, W.ownsMap Tryz.prog 2 heldE z pre.length D ∧ FirstD (ps.drop (q - pre.length)) D
  box : Box1 W (z + 1) 71 (.map (some z))
  back : Box1 W (z + 1 + 1) 25 (.slice ao q cap)
  prs : Prs W ao ps
  below : Below w.heap.size w W

theorem TRnd.but {S : Nat → Prop} {w W W' : World} {z : Nat} {ao : Option Addr} {q cap : Nat} {ps : List (Int × (Option Addr × Nat × Nat))} {pre : List (Nat × (Int × (Option Addr × Nat × Nat)))} (h : TRnd w z ao q cap ps pre W) (hb : But S W W') (hz : w.heap.size ≤ z) (hs : ∀ k, S k → z + 3 ≤ k) (ha : ∀ b o, ao = some ⟨b, o, none⟩ → 0 < ps.length → b < w.heap.size) : TRnd w z ao q cap ps pre W' := by
  obtain ⟨D, hD, hF⟩ := h.own
  refine ⟨h.len, ⟨D, owns_same hD (hb.block z hD.lt (fun h9 => by have := hs _ h9; omega)), hF⟩, h.box.but hb (fun h9 => by have := hs _ h9; omega), h.back.but hb (fun h9 => by have := hs _ h9; omega), h.prs.but hb (fun b o e h0 h9 => by have := hs _ h9; have := ha b o e h0; omega), ?_⟩
  exact h.below.trans (hb.below h.below.size (fun k hk => by have := hs _ hk; omega))

set_option maxRecDepth 100000 in
set_option maxHeartbeats 2000000 in
theorem typesOf_any (ps : List (Int × (Option Addr × Nat × Nat))) (q : Nat) (HP : Hid (ps.length = q)) (hq : q ≤ 1048576) (HW : Hid (∀ p ∈ ps, (Lit.int .i64 p.1).wf = true)) (ao : Option Addr) (cap : Nat) (w : World) (hx : Prs w ao ps) :
    Calls Tryz.prog 28 #[.slice ao q cap] w fun e w' => ∃ D, e = .returned (.map (some w.heap.size)) ∧ w'.ownsMap Tryz.prog 2 heldE w.heap.size q D ∧ FirstD ps D ∧ Below w.heap.size w w' := by
  obtain ⟨n, hn⟩ : ∃ n : Nat, 6 ≤ n := ⟨6, Nat.le_refl _⟩
  refine (callsIn_wide (n := n)).1 ?_
  refine callsIn_of_wp_marks Tryz.func28 rfl trivial ?_
  simp only [Tryz.ntmps28, List.size_toArray, List.length_cons, List.length_nil, Nat.reduceAdd, Nat.reduceSub, Array.replicate_succ, Array.replicate_zero, List.push_toArray, List.append_toArray, List.nil_append, List.cons_append]
  have hmm := @run_makeMap Tryz.prog
  gi_wp2_with fail
  refine ⟨trivial, fun h => (by cases h), callsIn_wide.2 ((backwardB_any _ q _ _).mono ?_)⟩
  rintro e w4 ⟨rfl, rfl⟩
  gi_wp2
  obtain ⟨z, hz⟩ : ∃ z, w.heap.size = z := ⟨_, rfl⟩
  have hT : TRnd w z ao q cap ps [] (((w.alloc (.map #[] 0)).alloc (.cells #[.map (some z)] 71)).alloc (.cells #[.slice ao q cap] 25)) := by
    subst hz
    have hA : Below w.heap.size w (w.alloc (.map #[] 0)) := (Below.refl _ w).alloc (Nat.le_refl _) _
    have hB := hA.alloc hA.size (.cells #[.map (some w.heap.size)] 71)
    have hC := hB.alloc hB.size (.cells #[.slice ao q cap] 25)
    refine ⟨Nat.zero_le _, ⟨.map [], ((World.ownsMap_made w Tryz.prog 2 heldE).alloc _).alloc _, ?_⟩, ?_, ?_, hx.below hC, hC⟩
    · rw [List.drop_of_length_le (by have := HP.out; simp; omega)]
      exact FirstD.start
    · have h9 := (Box1.new (w.alloc (.map #[] 0)) 71 (.map (some w.heap.size))).alloc (.cells #[.slice ao q cap] 25)
      simpa using h9
    · have h9 := Box1.new ((w.alloc (.map #[] 0)).alloc (.cells #[.map (some w.heap.size)] 71)) 25 (.slice ao q cap)
      simpa using h9
  have hal : ∀ b o, ao = some ⟨b, o, none⟩ → 0 < ps.length → b < w.heap.size := by
    intro b o e h0
    obtain ⟨b', o', e', c0, _⟩ := hx 0 h0
    rw [e] at e'
    simp only [Option.some.injEq, Addr.mk.injEq, and_true] at e'
    rw [e'.1]
    exact lt_of_cell c0
  have hs1 : (((w.alloc (.map #[] 0)).alloc (.cells #[.map (some z)] 71)).alloc (.cells #[.slice ao q cap] 25)).heap.size = z + 3 := by simp [hz]
  simp only [hz]
  generalize ((w.alloc (.map #[] 0)).alloc (.cells #[.map (some z)] 71)).alloc (.cells #[.slice ao q cap] 25) = W1 at hT hs1 ⊢
  clear hx
  refine wpIn_range (α := Nat × (Int × (Option Addr × Nat × Nat))) rfl (by omega) (gf := 83) (lb := #[.pointer (some ⟨z + 1 + 1, 0, none⟩)]) rfl trivial (enters_of Tryz.func83 (by kernel_rfl) rfl)
    (encs := encPB) w.heap.size (by omega) (backwardB1_any q hq ao cap (z + 1 + 1) ps HP w.heap.size (n - 1) W1) (fun _ => rfl)
    (fun pre W => TRnd w z ao q cap ps pre W)
    (fun _ _ _ => False) ?hI (fun _ _ _ _ h _ => h) ?hRd hT ?round ?done (fun _ _ _ _ h _ => h.elim)
  case hI =>
    rintro s A C h hb
    exact h.but (But.ofBelow' hb) (by omega) (fun k hk => by omega) hal
  case hRd =>
    rintro s A h
    exact ⟨h.back, h.prs⟩
  case round =>
    rintro pre ⟨k, nm, sa, sn, sc⟩ W hK hlen hfit hsz
    obtain ⟨hfit, hps⟩ := hfit
    simp only at hfit hps
    simp only [encPB]
    have HS1 : Hid (W1.heap.size = z + 3) := hs1
    clear hs1
    gi_wp2
    refine ⟨But.ofBelow ((Below.refl _ W).alloc (Nat.le_refl _) _), ?_⟩
    intro Wb hWb
    have hs1 := HS1.out
    have hKa := hK.but (S := fun _ => False) (But.ofBelow ((Below.refl _ W).alloc (Nat.le_refl _) (.cells #[.int .i64 nm, .slice sa sn sc] 91))) (by omega) (fun _ h => h.elim) hal
    have hKb := hKa.but hWb (by omega) (fun k hk => by omega) hal
    have hblk : Wb.heap[W.heap.size]? = some (.cells #[.int .i64 nm, .slice sa sn sc] 91 (0, 0)) := (hWb.block W.heap.size (by simp) (by omega)).trans (heap_alloc_new _ _)
    have u0 : Wb.cell? ⟨W.heap.size, 0, none⟩ = some (.int .i64 nm) := by rw [cell_of_row _ _ _ _ _ _ hblk]; rfl
    have u1 : Wb.cell? ⟨W.heap.size, 1, none⟩ = some (.slice sa sn sc) := by rw [cell_of_row _ _ _ _ _ _ hblk]; rfl
    obtain ⟨D, hown, hF⟩ := hKb.own
    have hlt := (List.getElem?_eq_some_iff.1 hps).1
    have hwf := HW.out (nm, sa, sn, sc) (List.mem_of_getElem? hps)
    have hkey : keyOf Tryz.prog 2 (.int .i64 nm) = some (.int .i64 nm) := keyOf_int_mk Tryz.underlying2 hwf
    have hc := hKb.box.cell
    have hd : ps.drop (q - (pre.length + 1)) = (nm, sa, sn, sc) :: ps.drop (q - pre.length) := by
      have e1 : q - (pre.length + 1) = k := by omega
      have e2 : q - pre.length = k + 1 := by omega
      rw [e1, e2, List.drop_eq_getElem_cons hlt]
      congr 1
      rw [List.getElem?_eq_getElem hlt] at hps
      simpa using hps
    have hF2 := hF.put (nm, sa, sn, sc)
    rw [← hd] at hF2
    have HF2 : Hid (FirstD (ps.drop (q - (pre.length + 1))) (D.put (.int .i64 nm) (.held (.slice sa sn sc)))) := hF2
    have HFIN : Hid (∀ w2, w2.ownsMap Tryz.prog 2 heldE z (pre.length + 1) (D.put (.int .i64 nm) (.held (.slice sa sn sc))) → Wb.grownBy w2 (some z) → But (Mine w.heap.size W1.heap.size) Wb w2 ∧ TRnd w z ao q cap ps (pre ++ [(k, nm, sa, sn, sc)]) w2) := by
      intro w2 hown2 hg2
      have hbut : But (· = z) Wb w2 := (But.refl (· = z) Wb).grown hg2 (fun _ => rfl)
      refine ⟨⟨hbut.os, hbut.tape, hbut.output, hbut.size, fun i hi hn => hbut.block i hi (fun e => hn (by subst e; exact ⟨by omega, by omega⟩))⟩, ?_⟩
      refine ⟨by simp; omega, ⟨_, by simpa using hown2, by simpa using HF2.out⟩, hKb.box.but hbut (by omega), hKb.back.but hbut (by omega), hKb.prs.but hbut (fun b o e h0 e2 => by have := hal b o e h0; omega), hKb.below.trans (hbut.below hKb.below.size (fun k hk => by omega))⟩
    clear hF hF2 hd hlt hwf hps hblk hKa hK hWb HF2
    obtain ⟨w2, hrun, hown2, hgrow2⟩ := hown.update Tryz.law2 Tryz.underlying71 (by unfold maxLen; omega) hkey (val := .slice sa sn sc) (d := .held (.slice sa sn sc)) (ps := []) rfl
    gi_wp2
    exact HFIN.out w2 hown2 hgrow2
  case done =>
    rintro xs W hxl hK hD
    have hxl : xs.length = q := hxl
    obtain ⟨D, hown, hF⟩ := hK.own
    rw [hxl, Nat.sub_self, List.drop_zero] at hF
    rw [hxl] at hown
    have hput : But (· = W1.heap.size) W (W.putObj W1.heap.size (.deferred none)) := But.putObj _ _ _ rfl
    have hq := hK.box.cell
    have hown9 := owns_same hown (hput.block z hown.lt (by omega))
    have hb9 := hK.below.trans (hput.below hK.below.size (fun k hk => by omega))
    rw [hs1] at hD hput hown9 hb9 ⊢
    clear hK hown
    gi_wp2
    refine ⟨by simp, .inl ⟨_, _, rfl, run_takeDeferred hD, ?_⟩⟩
    subst hz
    exact ⟨_, results_tmp rfl _ _ _, D, rfl, hown9, hF, hb9⟩

end Go.Proofs.YtahdmflbdmlfhaaGreatDoor

namespace Go.Proofs.YtahdmflbdmlfhaaGreatDoor

open Go.Shelf

def Tryz.laysK49_ren : Go.Shelf.Ren := ⟨fun | 6 => 49 | 8 => 76 | 9 => 77 | 11 => 88 | 13 => 90 | 12 => 89 | 23 => 104 | 24 => 105 | 14 => 95 | 15 => 96 | 16 => 97 | 17 => 98 | 18 => 99 | 19 => 100 | 20 => 101 | 21 => 102 | 22 => 103 | 25 => 107 | 26 => 108 | 27 => 109 | 28 => 110 | 29 => 111 | 30 => 112 | 31 => 115 | n => n, fun | 26 => 2 | 28 => 127 | 24 => 124 | 0 => 0 | 3 => 3 | 37 => 179 | 48 => 200 | 50 => 202 | 4 => 4 | 40 => 192 | 39 => 191 | 45 => 197 | 5 => 5 | 9 => 9 | 51 => 208 | 55 => 212 | 57 => 217 | 58 => 35 | 33 => 172 | n => n, fun | n => n⟩
theorem Tryz.laysK49 : Go.Proofs.SlLaysZI.n6 Tryz.prog Tryz.laysK49_ren := {
  mixed := by kernel_rfl
  f6 := ⟨Tryz.f49.name, by decide, Tryz.func49.trans (congrArg some (by kernel_rfl))⟩
  f8 := ⟨Tryz.f76.name, by decide, Tryz.func76.trans (congrArg some (by kernel_rfl))⟩
  f11 := ⟨Tryz.f88.name, by decide, Tryz.func88.trans (congrArg some (by kernel_rfl))⟩
  t0 := Tryz.underlying0
  a0 := Tryz.isAgg0
  z0 := Tryz.sizeOf0
  v0 := Tryz.zeroValue0
  t24 := Tryz.underlying124
  a24 := Tryz.isAgg124
  z24 := Tryz.sizeOf124
  v24 := Tryz.zeroValue124
  t26 := Tryz.underlying2
  a26 := Tryz.isAgg2
  z26 := Tryz.sizeOf2
  v26 := Tryz.zeroValue2
  t28 := Tryz.underlying127
  a28 := Tryz.isAgg127
  z28 := Tryz.sizeOf127
  v28 := Tryz.zeroValue127
  i26 := by kernel_rfl }
def Tryz.laysK50_ren : Go.Shelf.Ren := ⟨fun | 7 => 50 | 10 => 78 | n => n, fun | 23 => 71 | 26 => 2 | 3 => 29 | 28 => 127 | 0 => 0 | 27 => 126 | 33 => 172 | 4 => 4 | n => n, fun | n => n⟩
theorem Tryz.laysK50 : Go.Proofs.SlLaysZI.n7 Tryz.prog Tryz.laysK50_ren := {
  mixed := by kernel_rfl
  f7 := ⟨Tryz.f50.name, by decide, Tryz.func50.trans (congrArg some (by kernel_rfl))⟩
  f10 := ⟨Tryz.f78.name, by decide, Tryz.func78.trans (congrArg some (by kernel_rfl))⟩
  t0 := Tryz.underlying0
  a0 := Tryz.isAgg0
  z0 := Tryz.sizeOf0
  v0 := Tryz.zeroValue0
  t4 := Tryz.underlying4
  a4 := Tryz.isAgg4
  z4 := Tryz.sizeOf4
  v4 := Tryz.zeroValue4
  t23 := Tryz.underlying71
  a23 := Tryz.isAgg71
  z23 := Tryz.sizeOf71
  v23 := Tryz.zeroValue71
  t26 := Tryz.underlying2
  a26 := Tryz.isAgg2
  z26 := Tryz.sizeOf2
  v26 := Tryz.zeroValue2
  t27 := Tryz.underlying126
  a27 := Tryz.isAgg126
  z27 := Tryz.sizeOf126
  v27 := Tryz.zeroValue126
  t28 := Tryz.underlying127
  a28 := Tryz.isAgg127
  z28 := Tryz.sizeOf127
  v28 := Tryz.zeroValue127
  t33 := Tryz.underlying172
  a33 := Tryz.isAgg172
  z33 := Tryz.sizeOf172
  v33 := Tryz.zeroValue172 }
def Tryz.laysK77_ren : Go.Shelf.Ren := ⟨fun | 5 => 77 | 8 => 90 | 7 => 89 | 19 => 104 | 20 => 105 | 10 => 95 | 11 => 96 | 12 => 97 | 13 => 98 | 14 => 99 | 15 => 100 | 16 => 101 | 17 => 102 | 18 => 103 | 30 => 107 | 31 => 108 | 32 => 109 | 33 => 110 | 34 => 111 | 35 => 112 | 40 => 115 | n => n, fun | 23 => 124 | 25 => 2 | 3 => 3 | 32 => 179 | 22 => 124 | 0 => 0 | 44 => 200 | 46 => 202 | 4 => 4 | 36 => 192 | 35 => 191 | 41 => 197 | 5 => 5 | 9 => 9 | 53 => 208 | 57 => 212 | 63 => 217 | 64 => 35 | n => n, fun | n => n⟩
theorem Tryz.laysK77 : Go.Proofs.SlLaysM.n5 Tryz.prog Tryz.laysK77_ren := {
  mixed := by kernel_rfl
  f5 := ⟨Tryz.f77.name, by decide, Tryz.func77.trans (congrArg some (by kernel_rfl))⟩
  f7 := ⟨Tryz.f89.name, by decide, Tryz.func89.trans (congrArg some (by kernel_rfl))⟩
  f8 := Tryz.func90.trans (congrArg some (by kernel_rfl))
  f10 := ⟨Tryz.f95.name, by decide, Tryz.func95.trans (congrArg some (by kernel_rfl))⟩
  f11 := ⟨Tryz.f96.name, by decide, Tryz.func96.trans (congrArg some (by kernel_rfl))⟩
  f12 := ⟨Tryz.f97.name, by decide, Tryz.func97.trans (congrArg some (by kernel_rfl))⟩
  f13 := ⟨Tryz.f98.name, by decide, Tryz.func98.trans (congrArg some (by kernel_rfl))⟩
  f14 := ⟨Tryz.f99.name, by decide, Tryz.func99.trans (congrArg some (by kernel_rfl))⟩
  f15 := ⟨Tryz.f100.name, by decide, Tryz.func100.trans (congrArg some (by kernel_rfl))⟩
  f16 := ⟨Tryz.f101.name, by decide, Tryz.func101.trans (congrArg some (by kernel_rfl))⟩
  f17 := ⟨Tryz.f102.name, by decide, Tryz.func102.trans (congrArg some (by kernel_rfl))⟩
  f18 := ⟨Tryz.f103.name, by decide, Tryz.func103.trans (congrArg some (by kernel_rfl))⟩
  f19 := Tryz.func104.trans (congrArg some (by kernel_rfl))
  f20 := Tryz.func105.trans (congrArg some (by kernel_rfl))
  f30 := ⟨Tryz.f107.name, by decide, Tryz.func107.trans (congrArg some (by kernel_rfl))⟩
  f31 := Tryz.func108.trans (congrArg some (by kernel_rfl))
  f32 := Tryz.func109.trans (congrArg some (by kernel_rfl))
  f33 := ⟨Tryz.f110.name, by decide, Tryz.func110.trans (congrArg some (by kernel_rfl))⟩
  f34 := ⟨Tryz.f111.name, by decide, Tryz.func111.trans (congrArg some (by kernel_rfl))⟩
  f35 := ⟨Tryz.f112.name, by decide, Tryz.func112.trans (congrArg some (by kernel_rfl))⟩
  f40 := ⟨Tryz.f115.name, by decide, Tryz.func115.trans (congrArg some (by kernel_rfl))⟩
  t0 := Tryz.underlying0
  a0 := Tryz.isAgg0
  z0 := Tryz.sizeOf0
  v0 := Tryz.zeroValue0
  t3 := Tryz.underlying3
  a3 := Tryz.isAgg3
  z3 := Tryz.sizeOf3
  v3 := Tryz.zeroValue3
  t4 := Tryz.underlying4
  a4 := Tryz.isAgg4
  z4 := Tryz.sizeOf4
  v4 := Tryz.zeroValue4
  t5 := Tryz.underlying5
  a5 := Tryz.isAgg5
  z5 := Tryz.sizeOf5
  v5 := Tryz.zeroValue5
  t9 := Tryz.underlying9
  a9 := Tryz.isAgg9
  z9 := Tryz.sizeOf9
  v9 := Tryz.zeroValue9
  t22 := Tryz.underlying124
  a22 := Tryz.isAgg124
  z22 := Tryz.sizeOf124
  v22 := Tryz.zeroValue124
  t23 := Tryz.underlying124
  a23 := Tryz.isAgg124
  z23 := Tryz.sizeOf124
  v23 := Tryz.zeroValue124
  t25 := Tryz.underlying2
  a25 := Tryz.isAgg2
  z25 := Tryz.sizeOf2
  v25 := Tryz.zeroValue2
  t32 := Tryz.underlying179
  a32 := Tryz.isAgg179
  z32 := Tryz.sizeOf179
  v32 := Tryz.zeroValue179
  t35 := Tryz.underlying191
  a35 := Tryz.isAgg191
  z35 := Tryz.sizeOf191
  v35 := Tryz.zeroValue191
  t36 := Tryz.underlying192
  a36 := Tryz.isAgg192
  z36 := Tryz.sizeOf192
  v36 := Tryz.zeroValue192
  t41 := Tryz.underlying197
  a41 := Tryz.isAgg197
  z41 := Tryz.sizeOf197
  v41 := Tryz.zeroValue197
  t44 := Tryz.underlying200
  a44 := Tryz.isAgg200
  z44 := Tryz.sizeOf200
  v44 := Tryz.zeroValue200
  t46 := Tryz.underlying202
  a46 := Tryz.isAgg202
  z46 := Tryz.sizeOf202
  v46 := Tryz.zeroValue202
  t53 := Tryz.underlying208
  a53 := Tryz.isAgg208
  z53 := Tryz.sizeOf208
  v53 := Tryz.zeroValue208
  t57 := Tryz.underlying212
  a57 := Tryz.isAgg212
  z57 := Tryz.sizeOf212
  v57 := Tryz.zeroValue212
  t63 := Tryz.underlying217
  a63 := Tryz.isAgg217
  z63 := Tryz.sizeOf217
  v63 := Tryz.zeroValue217
  t64 := Tryz.underlying35
  a64 := Tryz.isAgg35
  z64 := Tryz.sizeOf35
  v64 := Tryz.zeroValue35 }

end Go.Proofs.YtahdmflbdmlfhaaGreatDoor

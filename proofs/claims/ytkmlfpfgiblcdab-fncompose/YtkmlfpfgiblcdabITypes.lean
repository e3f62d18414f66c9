
import Derived.Test.YtkmlfpfgiblcdabHMap
import Derived.Test.YtkmlfpfgiblcdabLoop2
namespace Go.Proofs.Ytkmlfpfgiblcdab
open Go.RowKit Go.Shelf Go.Maps
attribute [local go_sem] Oper.semAt_some

theorem owns_same {P : Program} {k : TypeId} {H : Type} {R : Value → Option (DataW H × List MemPlace)} {w w' : World} {b n : Nat} {D : DataW H} (h : w.ownsMap P k R b n D) (e : w'.heap[b]? = w.heap[b]?) : w'.ownsMap P k R b n D := by
  obtain ⟨es, clock, hb, F, hs, hD⟩ := h
  exact ⟨es, clock, e.trans hb, F, hs, hD⟩

theorem But.ofBelow' {B : Nat} {a b : World} (h : Below B a b) : But (B ≤ ·) a b := ⟨h.os, h.tape, h.output, h.size, fun i _ hn => h.block i (by omega)⟩

def encPB (x : Nat × (Int × (Option Addr × Nat × Nat))) : Array Value := #[.int .i64 (x.1 : Int), .agg #[.int .i64 x.2.1, .slice x.2.2.1 x.2.2.2.1 x.2.2.2.2]]

/-- What Backward reads of its caller's memory in each round. -/
def ReadsB (q : Nat) (ao : Option Addr) (cap Bb : Nat) (ps : List (Int × (Option Addr × Nat × Nat))) (A : World) : Prop := Box1 A Bb 38 (.slice ao q cap) ∧ Prs A ao ps

set_option maxRecDepth 100000 in
set_option maxHeartbeats 2000000 in
theorem backwardB1_any (q : Nat) (hq : q ≤ 1048576) (ao : Option Addr) (cap Bb : Nat) (ps : List (Int × (Option Addr × Nat × Nat))) (HP : Hid (ps.length = q)) (n₀ n : Nat) (w : World) :
    Iter Fence.wide n Try.prog 99 #[.pointer (some ⟨Bb, 0, none⟩)] encPB (fun xs => xs.length = q) (fun _ => True) (fun pre x => x.1 + 1 + pre.length = q ∧ ps[x.1]? = some x.2) (ReadsB q ao cap Bb ps) q n₀ w := by
  intro J Jx hJ hRd hY W hW hWs h0
  obtain ⟨hbx, _⟩ := hRd _ _ h0
  have hc := hbx.cell
  refine callsIn_of_wp Try.func99 rfl trivial ?_
  simp only [Try.ntmps99, List.size_toArray, List.length_cons, List.length_nil, Nat.reduceAdd, Nat.reduceSub, Array.replicate_succ, Array.replicate_zero, List.push_toArray, List.append_toArray, List.nil_append, List.cons_append]
  gi_wp2
  clear hbx hc
  gi_loopw [3] (fun p wr => ∃ (r : Nat) (pre : List (Nat × (Int × (Option Addr × Nat × Nat)))), p = .int .i64 ((r : Int) - 1) ∧ r + pre.length = q ∧ J pre wr) (fun p _ => (intOf p + 1).toNat)
  case atStart => exact ⟨q, [], rfl, by simp, h0⟩
  case round =>
    obtain ⟨r, pre, rfl, hr, hj⟩ := hrel
    by_cases hr0 : 0 < r
    · obtain ⟨r', rfl⟩ : ∃ r', r = r' + 1 := ⟨r - 1, by omega⟩
      obtain ⟨hbx, hsp⟩ := hRd _ _ hj
      have hc := hbx.cell
      have hlt : r' < ps.length := by have := HP.out; omega
      obtain ⟨b, o, rfl, c0, c1⟩ := hsp r' hlt
      have hps : ps[r']? = some ps[r'] := List.getElem?_eq_getElem hlt
      obtain ⟨⟨nm, sa, sn, sc⟩, hs⟩ : ∃ p, ps[r'] = p := ⟨_, rfl⟩
      rw [hs] at c0 c1 hps
      simp only at c0 c1
      obtain ⟨fn, tmps, assign, body, hy, hR⟩ := hY pre (r', nm, sa, sn, sc) _ hj (by omega) ⟨by show r' + 1 + pre.length = q; omega, hps⟩
      simp only [encPB] at hy
      have e1 : (((r' + 1 : Nat) : Int) - 1) = (r' : Int) := by omega
      rw [e1]
      have hrq : r' < q := by omega
      clear hsp hs hlt h0 hps
      gi_wp2_with fail
      refine ⟨fun h => (by cases h), hR.mono ?_⟩
      rintro e W3 (⟨rfl, hJ3, hk3⟩ | ⟨rfl, hJx3⟩)
      · gi_wp2
        go_roundw
        case rel => exact ⟨r', pre ++ [(r', nm, sa, sn, sc)], by go_num, by simp; omega, hJ3⟩
        case measure => simp [intOf]
      · gi_wp2
        refine bodyPost_ret (results_none rfl _ _ _) rfl ?_
        exact ⟨⟨_, rfl⟩, .inr ⟨pre ++ [(r', nm, sa, sn, sc)], trivial, hJx3⟩⟩
    · have hr00 : r = 0 := by omega
      subst hr00
      gi_wp2
      go_end0
      exact ⟨⟨_, rfl⟩, .inl ⟨pre, by omega, hj⟩⟩

theorem backwardB_any (ao : Option Addr) (q cap : Nat) (w : World) :
    Calls Try.prog 78 #[.slice ao q cap] w fun e w' => e = .returned (.func (.func 99) #[] #[.pointer (some ⟨w.heap.size, 0, none⟩)]) ∧ w' = w.alloc (.cells #[.slice ao q cap] 38) := by
  go_enter Try.func78, Try.ntmps78
  go_wp2
  go_ret
  exact ⟨rfl, rfl⟩

/-- What the loop of typesOf keeps: z the place of its map. -/
structure TRnd (w : World) (z : Nat) (ao : Option Addr) (q cap : Nat) (ps : List (Int × (Option Addr × Nat × Nat))) (pre : List (Nat × (Int × (Option Addr × Nat × Nat)))) (W : World) : Prop where
  len : pre.length ≤ q
  own : ∃ D, W.ownsMap Try.prog 2 heldE z pre.length D ∧ FirstD (ps.drop (q - pre.length)) D
  box : Box1 W (z + 1) 77 (.map (some z))
  back : Box1 W (z + 1 + 1) 38 (.slice ao q cap)
  prs : Prs W ao ps
  below : Below w.heap.size w W

theorem TRnd.but {S : Nat → Prop} {w W W' : World} {z : Nat} {ao : Option Addr} {q cap : Nat} {ps : List (Int × (Option Addr × Nat × Nat))} {pre : List (Nat × (Int × (Option Addr × Nat × Nat)))} (h : TRnd w z ao q cap ps pre W) (hb : But S W W') (hz : w.heap.size ≤ z) (hs : ∀ k, S k → z + 3 ≤ k) (ha : ∀ b o, ao = some ⟨b, o, none⟩ → 0 < ps.length → b < w.heap.size) : TRnd w z ao q cap ps pre W' := by
  obtain ⟨D, hD, hF⟩ := h.own
  refine ⟨h.len, ⟨D, owns_same hD (hb.block z hD.lt (fun h9 => by have := hs _ h9; omega)), hF⟩, h.box.but hb (fun h9 => by have := hs _ h9; omega), h.back.but hb (fun h9 => by have := hs _ h9; omega), h.prs.but hb (fun b o e h0 h9 => by have := hs _ h9; have := ha b o e h0; omega), ?_⟩
  exact h.below.trans (hb.below h.below.size (fun k hk => by have := hs _ hk; omega))

set_option maxRecDepth 100000 in
set_option maxHeartbeats 2000000 in
theorem typesOf_any (ps : List (Int × (Option Addr × Nat × Nat))) (q : Nat) (HP : Hid (ps.length = q)) (hq : q ≤ 1048576) (HW : Hid (∀ p ∈ ps, (Lit.int .i64 p.1).wf = true)) (ao : Option Addr) (cap : Nat) (w : World) (hx : Prs w ao ps) :
    Calls Try.prog 57 #[.slice ao q cap] w fun e w' => ∃ D, e = .returned (.map (some w.heap.size)) ∧ w'.ownsMap Try.prog 2 heldE w.heap.size q D ∧ FirstD ps D ∧ Below w.heap.size w w' := by
  obtain ⟨n, hn⟩ : ∃ n : Nat, 6 ≤ n := ⟨6, Nat.le_refl _⟩
  refine (callsIn_wide (n := n)).1 ?_
  refine callsIn_of_wp_marks Try.func57 rfl trivial ?_
  simp only [Try.ntmps57, List.size_toArray, List.length_cons, List.length_nil, Nat.reduceAdd, Nat.reduceSub, Array.replicate_succ, Array.replicate_zero, List.push_toArray, List.append_toArray, List.nil_append, List.cons_append]
  have hmm := @run_makeMap Try.prog
  gi_wp2_with fail
  refine ⟨trivial, fun h => (by cases h), callsIn_wide.2 ((backwardB_any _ q _ _).mono ?_)⟩
  rintro e w4 ⟨rfl, rfl⟩
  gi_wp2
  obtain ⟨z, hz⟩ : ∃ z, w.heap.size = z := ⟨_, rfl⟩
  have hT : TRnd w z ao q cap ps [] (((w.alloc (.map #[] 0)).alloc (.cells #[.map (some z)] 77)).alloc (.cells #[.slice ao q cap] 38)) := by
    subst hz
    have hA : Below w.heap.size w (w.alloc (.map #[] 0)) := (Below.refl _ w).alloc (Nat.le_refl _) _
    have hB := hA.alloc hA.size (.cells #[.map (some w.heap.size)] 77)
    have hC := hB.alloc hB.size (.cells #[.slice ao q cap] 38)
    refine ⟨Nat.zero_le _, ⟨.map [], ((World.ownsMap_made w Try.prog 2 heldE).alloc _).alloc _, ?_⟩, ?_, ?_, hx.below hC, hC⟩
    · rw [List.drop_of_length_le (by have := HP.out; simp; omega)]
      exact FirstD.start
    · have h9 := (Box1.new (w.alloc (.map #[] 0)) 77 (.map (some w.heap.size))).alloc (.cells #[.slice ao q cap] 38)
      simpa using h9
    · have h9 := Box1.new ((w.alloc (.map #[] 0)).alloc (.cells #[.map (some w.heap.size)] 77)) 38 (.slice ao q cap)
      simpa using h9
  have hal : ∀ b o, ao = some ⟨b, o, none⟩ → 0 < ps.length → b < w.heap.size := by
    intro b o e h0
    obtain ⟨b', o', e', c0, _⟩ := hx 0 h0
    rw [e] at e'
    simp only [Option.some.injEq, Addr.mk.injEq, and_true] at e'
    rw [e'.1]
    exact lt_of_cell c0
  have hs1 : (((w.alloc (.map #[] 0)).alloc (.cells #[.map (some z)] 77)).alloc (.cells #[.slice ao q cap] 38)).heap.size = z + 3 := by simp [hz]
  simp only [hz]
  generalize ((w.alloc (.map #[] 0)).alloc (.cells #[.map (some z)] 77)).alloc (.cells #[.slice ao q cap] 38) = W1 at hT hs1 ⊢
  clear hx
  refine wpIn_range (α := Nat × (Int × (Option Addr × Nat × Nat))) rfl (by omega) (gf := 99) (lb := #[.pointer (some ⟨z + 1 + 1, 0, none⟩)]) rfl trivial (enters_of Try.func99 (by kernel_rfl) rfl)
    (encs := encPB) w.heap.size (by omega) (backwardB1_any q hq ao cap (z + 1 + 1) ps HP w.heap.size (n - 1) W1) (fun _ => rfl)
    (fun pre W => TRnd w z ao q cap ps pre W)
    (fun _ _ _ => False) ?hI (fun _ _ _ _ h _ => h) ?hRd hT ?round ?done (fun _ _ _ _ h _ => h.elim)
  case hI =>
    rintro s A C h hb
    exact h.but (But.ofBelow' hb) (by omega) (fun k hk => by omega) hal
  case hRd =>
    rintro s A h
    exact ⟨h.back, h.prs⟩
  case round =>
    rintro pre ⟨k, nm, sa, sn, sc⟩ W hK hlen hfit hsz
    obtain ⟨hfit, hps⟩ := hfit
    simp only at hfit hps
    simp only [encPB]
    have HS1 : Hid (W1.heap.size = z + 3) := hs1
    clear hs1
    gi_wp2
    refine ⟨But.ofBelow ((Below.refl _ W).alloc (Nat.le_refl _) _), ?_⟩
    intro Wb hWb
    have hs1 := HS1.out
    have hKa := hK.but (S := fun _ => False) (But.ofBelow ((Below.refl _ W).alloc (Nat.le_refl _) (.cells #[.int .i64 nm, .slice sa sn sc] 71))) (by omega) (fun _ h => h.elim) hal
    have hKb := hKa.but hWb (by omega) (fun k hk => by omega) hal
    have hblk : Wb.heap[W.heap.size]? = some (.cells #[.int .i64 nm, .slice sa sn sc] 71 (0, 0)) := (hWb.block W.heap.size (by simp) (by omega)).trans (heap_alloc_new _ _)
    have u0 : Wb.cell? ⟨W.heap.size, 0, none⟩ = some (.int .i64 nm) := by rw [cell_of_row _ _ _ _ _ _ hblk]; rfl
    have u1 : Wb.cell? ⟨W.heap.size, 1, none⟩ = some (.slice sa sn sc) := by rw [cell_of_row _ _ _ _ _ _ hblk]; rfl
    obtain ⟨D, hown, hF⟩ := hKb.own
    have hlt := (List.getElem?_eq_some_iff.1 hps).1
    have hwf := HW.out (nm, sa, sn, sc) (List.mem_of_getElem? hps)
    have hkey : keyOf Try.prog 2 (.int .i64 nm) = some (.int .i64 nm) := keyOf_int_mk Try.underlying2 hwf
    have hc := hKb.box.cell
    have hd : ps.drop (q - (pre.length + 1)) = (nm, sa, sn, sc) :: ps.drop (q - pre.length) := by
      have e1 : q - (pre.length + 1) = k := by omega
      have e2 : q - pre.length = k + 1 := by omega
      rw [e1, e2, List.drop_eq_getElem_cons hlt]
      congr 1
      rw [List.getElem?_eq_getElem hlt] at hps
      simpa using hps
    have hF2 := hF.put (nm, sa, sn, sc)
    rw [← hd] at hF2
    have HF2 : Hid (FirstD (ps.drop (q - (pre.length + 1))) (D.put (.int .i64 nm) (.held (.slice sa sn sc)))) := hF2
    have HFIN : Hid (∀ w2, w2.ownsMap Try.prog 2 heldE z (pre.length + 1) (D.put (.int .i64 nm) (.held (.slice sa sn sc))) → Wb.grownBy w2 (some z) → But (Mine w.heap.size W1.heap.size) Wb w2 ∧ TRnd w z ao q cap ps (pre ++ [(k, nm, sa, sn, sc)]) w2) := by
      intro w2 hown2 hg2
      have hbut : But (· = z) Wb w2 := (But.refl (· = z) Wb).grown hg2 (fun _ => rfl)
      refine ⟨⟨hbut.os, hbut.tape, hbut.output, hbut.size, fun i hi hn => hbut.block i hi (fun e => hn (by subst e; exact ⟨by omega, by omega⟩))⟩, ?_⟩
      refine ⟨by simp; omega, ⟨_, by simpa using hown2, by simpa using HF2.out⟩, hKb.box.but hbut (by omega), hKb.back.but hbut (by omega), hKb.prs.but hbut (fun b o e h0 e2 => by have := hal b o e h0; omega), hKb.below.trans (hbut.below hKb.below.size (fun k hk => by omega))⟩
    clear hF hF2 hd hlt hwf hps hblk hKa hK hWb HF2
    obtain ⟨w2, hrun, hown2, hgrow2⟩ := hown.update Try.law2 Try.underlying77 (by unfold maxLen; omega) hkey (val := .slice sa sn sc) (d := .held (.slice sa sn sc)) (ps := []) rfl
    gi_wp2
    exact HFIN.out w2 hown2 hgrow2
  case done =>
    rintro xs W hxl hK hD
    have hxl : xs.length = q := hxl
    obtain ⟨D, hown, hF⟩ := hK.own
    rw [hxl, Nat.sub_self, List.drop_zero] at hF
    rw [hxl] at hown
    have hput : But (· = W1.heap.size) W (W.putObj W1.heap.size (.deferred none)) := But.putObj _ _ _ rfl
    have hq := hK.box.cell
    have hown9 := owns_same hown (hput.block z hown.lt (by omega))
    have hb9 := hK.below.trans (hput.below hK.below.size (fun k hk => by omega))
    rw [hs1] at hD hput hown9 hb9 ⊢
    clear hK hown
    gi_wp2
    refine ⟨by simp, .inl ⟨_, _, rfl, run_takeDeferred hD, ?_⟩⟩
    subst hz
    exact ⟨_, results_tmp rfl _ _ _, D, rfl, hown9, hF, hb9⟩

end Go.Proofs.Ytkmlfpfgiblcdab

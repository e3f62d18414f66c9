import Derived.Test.YtoiiibplkhedcaaGreatDoorWBH
namespace Go.Proofs.YtoiiibplkhedcaaGreatDoor
open Go.RowKit
/-! What l8Put holds in memory: a store, the list of unknowns, where nodes are, and their sizes. -/
def msI (ms : List (Int × Nat)) : List (Int × Int) := ms.map fun p => (p.1, (p.2 : Int))
def natI (xs : List Nat) : List Int := xs.map (fun (x : Nat) => (x : Int))
theorem Qcw (ms : List (Int × Nat)) : (msI ms).length = ms.length := by simp [msI]
theorem Qey (xs : List Nat) : (natI xs).length = xs.length := by simp [natI]
theorem Jab (ms : List (Int × Nat)) (x : Int) (a : Nat) : msI (ms ++ [(x, a)]) = msI ms ++ [(x, (a : Int))] := by simp [msI]
theorem Qol (xs : List Nat) (a : Nat) : natI (xs ++ [a]) = natI xs ++ [(a : Int)] := by simp [natI]
theorem Qhn {w w' : World} {X : Option Nat} (h : w.grownBy w' X) : But (fun i => X = some i) w w' :=
  ⟨h.os, h.tape, h.output, h.size, fun i hi hne => h.block i hi (fun e => hne e.symm)⟩
theorem Qwu {ms : List (Int × Nat)} {x q : Int} (h : Qcm (msI ms) x = q) (hq : ¬ q < 0) : ∃ j, ∃ hj : j < ms.length, q = (j : Int) ∧ ms[j].1 = x := by
  unfold Qcm at h
  split at h
  · rename_i hl
    have hl2 : placeIn ((msI ms).map Prod.fst) x < ms.length := by rw [Qcw] at hl; exact hl
    refine ⟨_, hl2, h.symm, ?_⟩
    have h9 := List.findIdx_getElem (xs := (msI ms).map Prod.fst) (p := (· == x)) (w := by simp [msI]; simpa [placeIn, msI] using hl2)
    simp only [beq_iff_eq, msI, List.getElem_map] at h9
    exact h9
  · omega
theorem Jaf {ms : List (Int × Nat)} {x q : Int} (h : Qcm (msI ms) x = q) (hq : q < 0) : ∀ p ∈ ms, p.1 ≠ x := by
  have h9 := (Qwv (msI ms) x).1 (by omega)
  intro p hp
  exact h9 (p.1, (p.2 : Int)) (List.mem_map.2 ⟨p, hp, rfl⟩)
theorem Ints.base {w : World} {B B' g c n : Nat} {xs : List Int} (h : Ints w B g c n xs) (hB : B' ≤ B) : Ints w B' g c n xs := by
  obtain ⟨h1, h2, h3⟩ := h
  refine ⟨h1, h2, ?_⟩
  rcases h3 with h3 | ⟨g2, cap, cur, e1, e2, e3⟩
  · exact .inl h3
  · exact .inr ⟨g2, cap, cur, e1, by omega, e3⟩
theorem Qiz {w : World} {y : Nat} {a b c d e : Value} (h : w.heap[y]? = some (.cells #[a, b, c, d, e] 43 (0, 0))) : w.cell? ⟨y, 0, none⟩ = some a ∧ w.cell? ⟨y, 1, none⟩ = some b ∧ w.cell? ⟨y, 2, none⟩ = some c := by
  refine ⟨?_, ?_, ?_⟩ <;> (rw [cell_of_row _ _ _ _ _ _ h]; rfl)
theorem Qay {w : World} {z : Nat} {u v : Value} (h : w.heap[z]? = some (.cells #[u, v] 78 (0, 0))) : w.cell? ⟨z, 0, none⟩ = some u ∧ w.cell? ⟨z, 1, none⟩ = some v ∧ w.frozen? ⟨z, 0, none⟩ = false ∧ w.frozen? ⟨z, 1, none⟩ = false ∧ z < w.heap.size := by
  refine ⟨?_, ?_, frozen_of_row w z 0 _ 78 h, frozen_of_row w z 1 _ 78 h, (Array.getElem?_eq_some_iff.1 h).1⟩ <;> (rw [cell_of_row _ _ _ _ _ _ h]; rfl)
def KOff (st : List SK) (ka : Nat → Option Addr × Nat) (X : Nat) : Prop := ∀ i b o, 0 < (sk st i).kids.length → (ka i).1 = some ⟨b, o, none⟩ → b ≠ X
theorem StoV.but {S : Nat → Prop} {w w' : World} {B : Nat} {ao : Option Addr} {c : Nat} {st : List SK} {ka : Nat → Option Addr × Nat} {lk : Nat → Option Nat} {mk : Nat → Int} (h : StoV w B ao c st ka lk mk) (hb : But S w w') (ho : ∀ q, S q → (Value.slice ao st.length c).ownBlock ≠ some q) (hk : ∀ q, S q → KOff st ka q) : StoV w' B ao c st ka lk mk := by
  refine ⟨?_, fun i k hk1 => ?_⟩
  · obtain ⟨h1, h2⟩ := h.own
    rcases h2 with ⟨e, h3⟩ | ⟨g, cap, cur, e, hr⟩
    · exact ⟨h1, .inl ⟨e, h3⟩⟩
    · simp only [Value.slice.injEq] at e
      obtain ⟨rfl, _, rfl⟩ := e
      exact Qah h.own hb (fun hs => ho g hs rfl)
  · obtain ⟨b, o, e1, e2, e3⟩ := h.kids i k hk1
    refine ⟨b, o, e1, e2, ?_⟩
    have hlt : b < w.heap.size := Qaa e3
    have h9 := hb.block b hlt (fun hs => hk b hs i b o (by omega) e1 rfl)
    unfold World.cell? at e3 ⊢
    rw [h9]
    exact e3
theorem StoV.klt {w : World} {B : Nat} {ao : Option Addr} {c : Nat} {st : List SK} {ka : Nat → Option Addr × Nat} {lk : Nat → Option Nat} {mk : Nat → Int} (h : StoV w B ao c st ka lk mk) {X : Nat} (hX : w.heap.size ≤ X) : KOff st ka X := by
  intro i b o hl e
  obtain ⟨b', o', e1, _, e3⟩ := h.kids i 0 hl
  have hlt := Qaa e3
  rw [e] at e1
  simp only [Option.some.injEq, Addr.mk.injEq, and_true] at e1
  simp only at hlt
  omega
theorem StoV.slt {w : World} {B : Nat} {ao : Option Addr} {c : Nat} {st : List SK} {ka : Nat → Option Addr × Nat} {lk : Nat → Option Nat} {mk : Nat → Int} (h : StoV w B ao c st ka lk mk) {X : Nat} (hX : w.heap.size ≤ X) : (Value.slice ao st.length c).ownBlock ≠ some X := by
  intro e
  have := Qwc h.own e
  omega
structure PW (Q : Nat → Prop) (w wr : World) (ow : Option Nat) (gm0 B z : Nat) (wk : Int) (ao : Option Addr) (n c : Nat) (st : List SK) (ka : Nat → Option Addr × Nat) (lk : Nat → Option Nat) (mk : Nat → Int) (gm l cm : Nat) (ms : List (Int × Nat)) (ga k ca : Nat) (at' : List Nat) (gz cz m : Nat) (zs : List Int) : Prop where
  hn : st.length = n
  hl : ms.length = l
  hk : at'.length = k
  sto : StoV wr B ao c st ka lk mk
  mts : OwnM wr B gm cm l (msI ms)
  ats : Ints wr z ga ca k (natI at')
  sz : Ints wr z gz cz m zs
  box : wr.heap[z]? = some (.cells #[.slice ao n c, .int .i64 wk] 78 (0, 0))
  koff : ∀ X, X = gm ∨ X = ga ∨ X = gz ∨ X = z ∨ X = z + 1 → KOff st ka X
  soff : ∀ X, X = gm ∨ X = ga ∨ X = gz ∨ X = z ∨ X = z + 1 → (Value.slice ao st.length c).ownBlock ≠ some X
  rbox : wr.heap[z + 1]? = some (.cells #[.slice none 0 0, .int .i64 0] 78 (0, 0))
  moff : gm ≠ ga ∧ gm ≠ gz ∧ gm ≠ z ∧ gm ≠ z + 1
  aoff : ga ≠ gz ∧ ga ≠ z ∧ gz ≠ z ∧ ga ≠ z + 1 ∧ gz ≠ z + 1
  frame : But (fun i => ow = some i ∨ i = gm0) w wr
  so : ∀ b, (Value.slice ao st.length c).ownBlock = some b → ow = some b ∨ z ≤ b
  mo : gm = gm0 ∨ z ≤ gm
  hz : w.heap.size = z
  kq : ∀ X, Q X → X < z ∧ KOff st ka X
section
variable {Q : Nat → Prop} {w wr : World} {ow : Option Nat} {gm0 B z : Nat} {wk : Int} {ao : Option Addr} {n c : Nat} {st : List SK} {ka : Nat → Option Addr × Nat} {lk : Nat → Option Nat} {mk : Nat → Int} {gm l cm : Nat} {ms : List (Int × Nat)} {ga k ca : Nat} {at' : List Nat} {gz cz m : Nat} {zs : List Int}
theorem PW.zlt (h : PW Q w wr ow gm0 B z wk ao n c st ka lk mk gm l cm ms ga k ca at' gz cz m zs) : z < wr.heap.size := (Array.getElem?_eq_some_iff.1 h.box).1
theorem PW.rlt (h : PW Q w wr ow gm0 B z wk ao n c st ka lk mk gm l cm ms ga k ca at' gz cz m zs) : z + 1 < wr.heap.size := (Array.getElem?_eq_some_iff.1 h.rbox).1
theorem PW.below {wr' : World} (h : PW Q w wr ow gm0 B z wk ao n c st ka lk mk gm l cm ms ga k ca at' gz cz m zs) (hb : Below wr.heap.size wr wr') : PW Q w wr' ow gm0 B z wk ao n c st ka lk mk gm l cm ms ga k ca at' gz cz m zs :=
  { h with
    sto := h.sto.but (S := fun _ => False) (But.ofBelow hb) (fun _ h => h.elim) (fun _ h => h.elim)
    mts := h.mts.below hb
    ats := h.ats.below hb
    sz := h.sz.below hb
    box := (hb.block z h.zlt).trans h.box
    rbox := (hb.block (z + 1) h.rlt).trans h.rbox
    frame := h.frame.trans (But.ofBelow hb) }
theorem PW.frame' {S : Nat → Prop} {wr' : World} (h : PW Q w wr ow gm0 B z wk ao n c st ka lk mk gm l cm ms ga k ca at' gz cz m zs) (hb : But S wr wr') (hS : ∀ q, S q → (ow = some q ∨ q = gm0) ∨ z ≤ q) : But (fun i => ow = some i ∨ i = gm0) w wr' := by
  refine ⟨hb.os.trans h.frame.os, hb.tape.trans h.frame.tape, hb.output.trans h.frame.output, by have := hb.size; have := h.frame.size; omega, fun i hi hne => ?_⟩
  have hsz := h.frame.size
  refine (hb.block i (by omega) (fun hs => ?_)).trans (h.frame.block i hi hne)
  rcases hS i hs with h9 | h9
  · exact hne h9
  · have := h.hz; omega
theorem PW.pushAt {w1 w2 : World} {g2 c2 a : Nat} (h : PW Q w wr ow gm0 B z wk ao n c st ka lk mk gm l cm ms ga k ca at' gz cz m zs) (hb1 : Below wr.heap.size wr w1) (hown : w2.ownsRow z 3 1 (.slice (some ⟨g2, 0, none⟩) (k + 1) c2) (k + 1) (ints (natI at') ++ [.int .i64 (a : Int)])) (hg : w1.grownBy w2 (some ga)) (hwh : ga = g2 ∨ w1.heap.size ≤ g2) : PW Q w w2 ow gm0 B z wk ao n c st ka lk mk gm l cm ms g2 (k + 1) c2 (at' ++ [a]) gz cz m zs := by
  have h1 := h.below hb1
  have hbu : But (fun i => i = ga) w1 w2 := (Qhn hg).mono (fun i e => by simp only [Option.some.injEq] at e; exact e.symm)
  have hga : ga < w1.heap.size := h1.ats.block.2
  have hgb := h1.ats.block.1
  have hgz : gz < w1.heap.size := h1.sz.block.2
  have hgm : gm < w1.heap.size := (Qad h1.mts.2).2
  have hzl := h1.zlt
  have hrl := h1.rlt
  refine ⟨h.hn, h.hl, by simp [h.hk], ?_, h1.mts.but hbu h.moff.1, ?_, ⟨h1.sz.1, Qah h1.sz.2 hbu (Ne.symm h.aoff.1)⟩, (hbu.block z hzl (Ne.symm h.aoff.2.1)).trans h1.box, ?_, ?_, (hbu.block (z + 1) hrl (Ne.symm h.aoff.2.2.2.1)).trans h1.rbox, ?_, ?_, h1.frame' hbu (fun q hq => .inr (by omega)), h.so, h.mo, h.hz, h.kq⟩
  · exact h1.sto.but hbu (fun q hq => h.soff q (.inr (.inl hq))) (fun q hq => h.koff q (.inr (.inl hq)))
  · rw [Qol]
    exact Ints.push hown (by rw [Qey, h.hk]) rfl
  · intro X hX
    by_cases e : X = ga
    · exact h.koff X (.inr (.inl e))
    · rcases hX with hX | hX | hX | hX
      · exact h.koff X (.inl hX)
      · rcases hwh with h9 | h9
        · omega
        · exact h1.sto.klt (by omega)
      · exact h.koff X (.inr (.inr (.inl hX)))
      · exact h.koff X (.inr (.inr (.inr hX)))
  · intro X hX
    by_cases e : X = ga
    · exact h.soff X (.inr (.inl e))
    · rcases hX with hX | hX | hX | hX
      · exact h.soff X (.inl hX)
      · rcases hwh with h9 | h9
        · omega
        · exact h1.sto.slt (by omega)
      · exact h.soff X (.inr (.inr (.inl hX)))
      · exact h.soff X (.inr (.inr (.inr hX)))
  · have := h.moff
    omega
  · have := h.aoff
    omega
theorem PW.pushMs {w1 w2 : World} {g2 c2 a : Nat} {x : Int} (h : PW Q w wr ow gm0 B z wk ao n c st ka lk mk gm l cm ms ga k ca at' gz cz m zs) (hb1 : Below wr.heap.size wr w1) (hown : w2.ownsRow B 134 2 (.slice (some ⟨g2, 0, none⟩) (l + 1) c2) (l + 1) (Qfb (msI ms) ++ [.int .i64 x, .int .i64 (a : Int)])) (hg : w1.grownBy w2 (some gm)) (hwh : gm = g2 ∨ w1.heap.size ≤ g2) : PW Q w w2 ow gm0 B z wk ao n c st ka lk mk g2 (l + 1) c2 (ms ++ [(x, a)]) ga k ca at' gz cz m zs := by
  have h1 := h.below hb1
  have hbu : But (fun i => i = gm) w1 w2 := (Qhn hg).mono (fun i e => by simp only [Option.some.injEq] at e; exact e.symm)
  have hga : ga < w1.heap.size := h1.ats.block.2
  have hgz : gz < w1.heap.size := h1.sz.block.2
  have hgm : gm < w1.heap.size := (Qad h1.mts.2).2
  have hzl := h1.zlt
  have hrl := h1.rlt
  have hmo := h.mo
  refine ⟨h.hn, by simp [h.hl], h.hk, ?_, ?_, ⟨h1.ats.1, Qah h1.ats.2 hbu (Ne.symm h.moff.1)⟩, ⟨h1.sz.1, Qah h1.sz.2 hbu (Ne.symm h.moff.2.1)⟩, (hbu.block z hzl (Ne.symm h.moff.2.2.1)).trans h1.box, ?_, ?_, (hbu.block (z + 1) hrl (Ne.symm h.moff.2.2.2)).trans h1.rbox, ?_, h.aoff, h1.frame' hbu (fun q hq => by omega), h.so, by omega, h.hz, h.kq⟩
  · exact h1.sto.but hbu (fun q hq => h.soff q (.inl hq)) (fun q hq => h.koff q (.inl hq))
  · rw [Jab]
    exact OwnM.push (x := (x, (a : Int))) hown (by rw [Qcw, h.hl]) rfl
  · intro X hX
    by_cases e : X = gm
    · exact h.koff X (.inl e)
    · rcases hX with hX | hX
      · rcases hwh with h9 | h9
        · omega
        · exact h1.sto.klt (by omega)
      · exact h.koff X (.inr hX)
  · intro X hX
    by_cases e : X = gm
    · exact h.soff X (.inl e)
    · rcases hX with hX | hX
      · rcases hwh with h9 | h9
        · omega
        · exact h1.sto.slt (by omega)
      · exact h.soff X (.inr hX)
  · have := h.moff
    omega
theorem Qrr {w : World} {z : Nat} {u v u' v' : Value} {t : TypeId} (h : w.heap[z]? = some (.cells #[u, v] t (0, 0))) : ((w.setCell ⟨z, 0, none⟩ u').setCell ⟨z, 1, none⟩ v').heap[z]? = some (.cells #[u', v'] t (0, 0)) := by
  have h1 := heap_setCell_same w z 0 _ t u' h
  have h2 := heap_setCell_same _ z 1 _ t v' h1
  exact h2
theorem PW.new {w2 : World} {g' c' : Nat} {x : SK} {so : Option Addr} {c0 : Nat} (h : PW Q w wr ow gm0 B z wk ao n c st ka lk mk gm l cm ms ga k ca at' gz cz m zs) (hs : Sto w2 B g' c' (st ++ [x]) (fun i => if i = n then (so, c0) else ka i) lk (updM mk n 0)) (hb : But (fun i => (Value.slice ao n c).ownBlock = some i) wr w2) (hwh : (Value.slice ao n c).ownBlock = some g' ∨ wr.heap.size ≤ g')
    (hso : ∀ b o, 0 < x.kids.length → so = some ⟨b, o, none⟩ → b ≠ gm ∧ b ≠ ga ∧ b ≠ gz ∧ b ≠ z ∧ b ≠ z + 1 ∧ z ≤ b) :
    PW Q w ((w2.setCell ⟨z, 0, none⟩ (.slice (some ⟨g', 0, none⟩) (n + 1) c')).setCell ⟨z, 1, none⟩ (.int .i64 wk)) ow gm0 B z wk (some ⟨g', 0, none⟩) (n + 1) c' (st ++ [x]) (fun i => if i = n then (so, c0) else ka i) lk (updM mk n 0) gm l cm ms ga k ca at' gz cz m zs := by
  have hga : ga < wr.heap.size := h.ats.block.2
  have hgz : gz < wr.heap.size := h.sz.block.2
  have hgm : gm < wr.heap.size := (Qad h.mts.2).2
  have hzl := h.zlt
  have hrl := h.rlt
  have hn := h.hn
  have hsoff := h.soff
  rw [hn] at hsoff
  have hn1 : ∀ X, X = gm ∨ X = ga ∨ X = gz ∨ X = z ∨ X = z + 1 → X ≠ g' := by
    intro X hX e
    rcases hwh with h9 | h9
    · exact hsoff X hX (by rw [h9, e])
    · omega
  have hbz : But (fun i => i = z) w2 ((w2.setCell ⟨z, 0, none⟩ (.slice (some ⟨g', 0, none⟩) (n + 1) c')).setCell ⟨z, 1, none⟩ (.int .i64 wk)) := ((But.refl (fun i => i = z) w2).setCell (p := ⟨z, 0, none⟩) rfl _).setCell (p := ⟨z, 1, none⟩) rfl _
  have hkoff : ∀ X, X = gm ∨ X = ga ∨ X = gz ∨ X = z ∨ X = z + 1 → KOff (st ++ [x]) (fun i => if i = n then (so, c0) else ka i) X := by
    intro X hX i b o hl e
    rcases Qdb st x i with ⟨a1, e1⟩ | ⟨a1, e1⟩ | ⟨a1, e1⟩
    · rw [e1] at hl
      simp only [show i ≠ n by omega, if_false] at e
      exact h.koff X hX i b o hl e
    · rw [e1] at hl
      simp only [show i = n by omega, if_true] at e
      have := hso b o hl e
      omega
    · rw [e1] at hl
      simp [SK.none] at hl
  have hb2 : But (fun i => (Value.slice ao n c).ownBlock = some i ∨ i = z) wr ((w2.setCell ⟨z, 0, none⟩ (.slice (some ⟨g', 0, none⟩) (n + 1) c')).setCell ⟨z, 1, none⟩ (.int .i64 wk)) := (hb.mono (fun i hi => .inl hi)).trans (hbz.mono (fun i hi => .inr hi))
  have hoff : ∀ X, X = gm ∨ X = ga ∨ X = gz → ¬ ((Value.slice ao n c).ownBlock = some X ∨ X = z) := by
    rintro X hX (h9 | h9)
    · exact hsoff X (by omega) h9
    · have := h.moff; have := h.aoff; omega
  have hw2 : w2.heap[z]? = some (.cells #[.slice ao n c, .int .i64 wk] 78 (0, 0)) := (hb.block z hzl (hsoff z (by omega))).trans h.box
  have hlen : (st ++ [x]).length = n + 1 := by simp [hn]
  refine ⟨hlen, h.hl, h.hk, ?_, h.mts.but hb2 (hoff gm (by omega)), ⟨h.ats.1, Qah h.ats.2 hb2 (hoff ga (by omega))⟩, ⟨h.sz.1, Qah h.sz.2 hb2 (hoff gz (by omega))⟩, Qrr hw2, hkoff, ?_, (hb2.block (z + 1) hrl (fun e => ?_)).trans h.rbox, h.moff, h.aoff, h.frame' hb2 ?_, ?_, h.mo, h.hz, fun X hX => ⟨(h.kq X hX).1, ?_⟩⟩
  · refine hs.toV.but hbz (fun q hq e => ?_) (fun q hq => hkoff q (by omega))
    simp only [Value.ownBlock, Option.some.injEq] at e
    exact hn1 q (by omega) e.symm
  · intro X hX e
    simp only [Value.ownBlock, Option.some.injEq] at e
    exact hn1 X hX e.symm
  · rcases e with h9 | h9
    · exact hsoff (z + 1) (by omega) h9
    · omega
  · rintro q (h9 | h9)
    · rcases h.so q (by rw [hn]; exact h9) with h8 | h8
      · exact .inl (.inl h8)
      · exact .inr h8
    · exact .inr (by omega)
  · intro b e
    simp only [Value.ownBlock, Option.some.injEq] at e
    subst e
    rcases hwh with h9 | h9
    · exact h.so g' (by rw [hn]; exact h9)
    · exact .inr (by omega)
  · obtain ⟨hX1, hX2⟩ := h.kq X hX
    intro i b o hl e
    rcases Qdb st x i with ⟨a1, e1⟩ | ⟨a1, e1⟩ | ⟨a1, e1⟩
    · rw [e1] at hl
      simp only [show i ≠ n by omega, if_false] at e
      exact hX2 i b o hl e
    · rw [e1] at hl
      simp only [show i = n by omega, if_true] at e
      have := hso b o hl e
      omega
    · rw [e1] at hl
      simp [SK.none] at hl
theorem PW.newBox {w2 : World} (h : PW Q w wr ow gm0 B z wk ao n c st ka lk mk gm l cm ms ga k ca at' gz cz m zs) (hb : But (fun i => (Value.slice ao n c).ownBlock = some i) wr w2) : w2.heap[z]? = some (.cells #[.slice ao n c, .int .i64 wk] 78 (0, 0)) :=
  (hb.block z h.zlt (by have h9 := h.soff z (by omega); rw [h.hn] at h9; exact h9)).trans h.box
theorem PW.far {S : Nat → Prop} {wr' : World} {y : Nat} (h : PW Q w wr ow gm0 B z wk ao n c st ka lk mk gm l cm ms ga k ca at' gz cz m zs) (hb : But S wr wr') (hS : ∀ q, S q → y ≤ q) (hy : gm < y ∧ ga < y ∧ gz < y ∧ z < y ∧ z + 1 < y) (hown : ∀ q, y ≤ q → (Value.slice ao n c).ownBlock ≠ some q) (hk : ∀ q, y ≤ q → KOff st ka q) : PW Q w wr' ow gm0 B z wk ao n c st ka lk mk gm l cm ms ga k ca at' gz cz m zs := by
  have hoff : ∀ X, X < y → ¬ S X := fun X hX hs => by have := hS X hs; omega
  exact { h with
    sto := h.sto.but hb (fun q hq => by rw [h.hn]; exact hown q (hS q hq)) (fun q hq => hk q (hS q hq))
    mts := h.mts.but hb (hoff _ hy.1)
    ats := ⟨h.ats.1, Qah h.ats.2 hb (hoff _ hy.2.1)⟩
    sz := ⟨h.sz.1, Qah h.sz.2 hb (hoff _ hy.2.2.1)⟩
    box := (hb.block z h.zlt (hoff _ hy.2.2.2.1)).trans h.box
    rbox := (hb.block (z + 1) h.rlt (hoff _ hy.2.2.2.2)).trans h.rbox
    frame := h.frame' hb (fun q hq => .inr (by have := hS q hq; omega)) }
theorem PW.ret {wr' : World} {g : Nat} (h : PW Q w wr ow gm0 B z wk (some ⟨g, 0, none⟩) n c st ka lk mk gm l cm ms ga k ca at' gz cz m zs) (hb : But (fun i => i = z + 1) wr wr') : Sto wr' B g c st ka lk mk ∧ OwnM wr' B gm cm l (msI ms) ∧ KOff st ka gm ∧ g ≠ gm ∧ But (fun i => ow = some i ∨ i = gm0) w wr' ∧ (∀ X, Q X → KOff st ka X) ∧ (ow = some g ∨ z ≤ g) ∧ (gm = gm0 ∨ z ≤ gm) := by
  have h1 := h.sto.but hb (fun q hq => h.soff q (by omega)) (fun q hq => h.koff q (by omega))
  refine ⟨⟨h1.own, fun i k hk => ?_⟩, h.mts.but hb h.moff.2.2.2, h.koff gm (.inl rfl), fun e => h.soff gm (.inl rfl) (by rw [← e]; rfl), h.frame' hb (fun q hq => .inr (by omega)), fun X hX => (h.kq X hX).2, h.so g rfl, h.mo⟩
  obtain ⟨b, o, e1, e2, e3⟩ := h1.kids i k hk
  exact ⟨b, o, e1, fun e => e2 (by rw [e]; rfl), e3⟩
theorem PW.hasRow (h : PW Q w wr ow gm0 B z wk ao n c st ka lk mk gm l cm ms ga k ca at' gz cz m zs) (hn0 : 0 < n) : ∃ g, ao = some ⟨g, 0, none⟩ := by
  rcases h.sto.own.2 with ⟨_, e⟩ | ⟨g, cap, cur, e, _⟩
  · have := h.hn; omega
  · simp only [Value.slice.injEq] at e
    exact ⟨g, e.1⟩
theorem PW.nodes {tao : Option Addr} {ty : List Nd} (h : PW Q w wr ow gm0 B z wk ao n c st ka lk mk gm l cm ms ga k ca at' gz cz m zs) (hx : Nodes w tao ty) (ht : ∀ b o, tao = some ⟨b, o, none⟩ → b < B) (how : ∀ b, ow = some b → B ≤ b) (hgm : B ≤ gm0) : Nodes wr tao ty :=
  hx.but h.frame (fun b o e hs => by
    have h1 := ht b o e
    rcases hs with h2 | h2
    · have := how b h2; omega
    · omega)
end
theorem PW.start {w w1 : World} {B z : Nat} {wk : Int} {ao : Option Addr} {n c : Nat} {st : List SK} {ka : Nat → Option Addr × Nat} {lk : Nat → Option Nat} {mk : Nat → Int} {gm l cm : Nat} {ms : List (Int × Nat)} {gz cz m : Nat} {zs : List Int} (hz : w.heap.size = z) (hn : st.length = n) (hl : ms.length = l) (hS : StoV w B ao c st ka lk mk) (hM : OwnM w B gm cm l (msI ms)) (hk : KOff st ka gm) (hs : (Value.slice ao n c).ownBlock ≠ some gm)
    (hb : Below ((w.alloc (.cells #[.slice ao n c, .int .i64 wk] 78)).alloc (.cells #[.slice none 0 0, .int .i64 0] 78)).heap.size ((w.alloc (.cells #[.slice ao n c, .int .i64 wk] 78)).alloc (.cells #[.slice none 0 0, .int .i64 0] 78)) w1) (hsz : Ints w1 (z + 2) gz cz m zs) :
    PW (fun X => X < z ∧ KOff st ka X) w (w1.alloc (.cells #[] 3)) (Value.slice ao n c).ownBlock gm B z wk ao n c st ka lk mk gm l cm ms w1.heap.size 0 0 [] gz cz m zs := by
  have hA : Below w.heap.size w ((w.alloc (.cells #[.slice ao n c, .int .i64 wk] 78)).alloc (.cells #[.slice none 0 0, .int .i64 0] 78)) := ((Below.refl _ w).alloc (Nat.le_refl _) _).alloc (by simp) _
  have hA1 := Below.step hA hb
  have hA2 := hA1.alloc hA1.size (.cells #[] 3)
  have hgm := hM.row.2.lt
  have hgz := hsz.block
  have hs1 := hb.size
  simp only [World.size_alloc] at hs1
  have k0 : ((w.alloc (.cells #[.slice ao n c, .int .i64 wk] 78)).alloc (.cells #[.slice none 0 0, .int .i64 0] 78)).heap[z]? = some (.cells #[.slice ao n c, .int .i64 wk] 78 (0, 0)) := by
    rw [heap_alloc_old _ _ (by simp; omega), ← hz]
    exact heap_alloc_new _ _
  have k1 : ((w.alloc (.cells #[.slice ao n c, .int .i64 wk] 78)).alloc (.cells #[.slice none 0 0, .int .i64 0] 78)).heap[z + 1]? = some (.cells #[.slice none 0 0, .int .i64 0] 78 (0, 0)) := by
    have h9 := heap_alloc_new (w.alloc (.cells #[.slice ao n c, .int .i64 wk] 78)) (.cells #[.slice none 0 0, .int .i64 0] 78)
    simpa [hz] using h9
  have b0 := (heap_alloc_old w1 (.cells #[] 3) (r := z) (by omega)).trans ((hb.block z (by simp; omega)).trans k0)
  have b1 := (heap_alloc_old w1 (.cells #[] 3) (r := z + 1) (by omega)).trans ((hb.block (z + 1) (by simp; omega)).trans k1)
  refine ⟨hn, hl, rfl, hS.but (S := fun _ => False) (But.ofBelow hA2) (fun _ h => h.elim) (fun _ h => h.elim), hM.below hA2, Ints.empty (by omega), (hsz.base (by omega)).alloc _, b0, fun X hX => ?_, fun X hX => ?_, b1, by omega, by omega, But.ofBelow hA2, fun b e => .inl (by rw [← hn]; exact e), .inl rfl, hz, fun X hX => hX⟩
  · by_cases e : X = gm
    · rw [e]; exact hk
    · exact hS.klt (by omega)
  · by_cases e : X = gm
    · rw [e, hn]; exact hs
    · exact hS.slt (by omega)
end Go.Proofs.YtoiiibplkhedcaaGreatDoor

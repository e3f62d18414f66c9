import Derived.Test.YtoiiibplkhedcaaGreatDoorUUnify
set_option maxRecDepth 100000
set_option maxHeartbeats 2000000
namespace Go.Proofs.YtoiiibplkhedcaaGreatDoor
open Go.RowKit
/-! What Solve holds in memory, and what its answer means. -/
theorem Qyc {ps : List (List Nd × List Nd)} {st : List SK} {lk : Nat → Option Nat} {ms : List (Int × Nat)} (hL : LoopS ps ps.length st lk ms) (hv : Qbf ps) {D : Nat → List Nd} (hD : IsD st lk D) {bs : List (Int × List Nd)} {ok : Bool} (h : Qef D (Qax (msI ms)) bs ok) : SolveRes ps ok (if ok then 0 else -1) bs := by
  obtain ⟨h1, h2, h3⟩ := hL.done hD
  have hnd : (msI ms).Pairwise (fun a b => a.1 ≠ b.1) := by
    have h9 := hL.msok.nd
    rw [List.Nodup, List.pairwise_map] at h9
    unfold msI
    rw [List.pairwise_map]
    exact h9
  obtain ⟨u1, u2⟩ := Qvg (msI ms) [] List.Pairwise.nil hnd (fun a ha => by simp at ha)
  have hmem : ∀ q, q ∈ Qax (msI ms) → ∃ p ∈ ms, q = (p.1, (p.2 : Int)) := by
    intro q hq
    rcases (u2 q).1 hq with h9 | h9
    · simp at h9
    · obtain ⟨p, hp, rfl⟩ := List.mem_map.1 h9
      exact ⟨p, hp, rfl⟩
  cases ok with
  | false =>
    obtain ⟨rfl, q, hq, hl⟩ := h.2 rfl
    obtain ⟨p, hp, rfl⟩ := hmem q hq
    have e : ((p.2 : Int)).toNat = p.2 := rfl
    simp only [e] at hl
    refine .large (Qeq Classical.propDecidable Classical.epsilon st D) p.1 hv h1 ((h3 p.1).1 (List.mem_map.2 ⟨p, hp, rfl⟩)) ?_
    rw [h2 p hp]
    exact hl
  | true =>
    obtain ⟨rfl, hl⟩ := h.1 rfl
    have eb : Qbv D (Qax (msI ms)) (Qax (msI ms)).length = (Qax (msI ms)).map fun p => (p.1, D p.2.toNat) := by
      unfold Qbv
      rw [List.take_of_length_le (Nat.le_refl _)]
    rw [eb]
    refine .ok (Qeq Classical.propDecidable Classical.epsilon st D) _ hv h1 ?_ (fun x => ?_) (fun q hq => ?_)
    · unfold Up nums
      rw [List.map_map, List.pairwise_map]
      exact u1
    · rw [← h3 x]
      unfold nums
      rw [List.map_map]
      constructor
      · intro hx
        obtain ⟨q, hq, e⟩ := List.mem_map.1 hx
        obtain ⟨p, hp, rfl⟩ := hmem q hq
        exact List.mem_map.2 ⟨p, hp, e⟩
      · intro hx
        obtain ⟨p, hp, e⟩ := List.mem_map.1 hx
        refine List.mem_map.2 ⟨(p.1, (p.2 : Int)), ?_, e⟩
        exact (u2 _).2 (.inr (List.mem_map.2 ⟨p, hp, rfl⟩))
    · obtain ⟨q', hq', rfl⟩ := List.mem_map.1 hq
      obtain ⟨p, hp, rfl⟩ := hmem q' hq'
      exact ⟨(h2 p hp).symm, hl _ hq'⟩
theorem Nodes.inB {w : World} {ao : Option Addr} {xs : List Nd} (h : Nodes w ao xs) (h0 : 0 < xs.length) : ∀ b o, ao = some ⟨b, o, none⟩ → b < w.heap.size := by
  intro b o e
  obtain ⟨b', o', e', h1⟩ := h 0 h0
  rw [e] at e'
  simp only [Option.some.injEq, Addr.mk.injEq, and_true] at e'
  have := Qaa h1.1
  simp only at this
  omega
structure SW (w wr : World) (z s : Nat) (wk : Int) (ao : Option Addr) (n c : Nat) (st : List SK) (ka : Nat → Option Addr × Nat) (lk : Nat → Option Nat) (mk : Nat → Int) (gm l cm : Nat) (ms : List (Int × Nat)) : Prop where
  hz : w.heap.size = z
  hn : st.length = n
  hl : ms.length = l
  below : Below z w wr
  rbox : wr.heap[z]? = some (.cells #[.bool false, .int .i64 0, .slice none 0 0] 46 (0, 0))
  sbox : wr.heap[s]? = some (.cells #[.slice ao n c, .int .i64 wk] 78 (0, 0))
  sto : StoV wr z ao c st ka lk mk
  mts : OwnM wr z gm cm l (msI ms)
  koff : ∀ X, X = gm ∨ X = s ∨ X = z → KOff st ka X
  soff : ∀ X, X = gm ∨ X = s ∨ X = z → (Value.slice ao n c).ownBlock ≠ some X
  moff : gm ≠ s ∧ gm ≠ z ∧ s ≠ z ∧ z ≤ s
  marks : ∀ i, mk i ≤ wk
  wk0 : 0 ≤ wk
  wkn : wk + unl st lk ≤ n
theorem Qzs {w : World} {z n c : Nat} {ao : Option Addr} {e : TypeId} {size : Nat} {xs : List Value} (h : w.ownsRow z e size (.slice ao n c) n xs) : ∀ b, (Value.slice ao n c).ownBlock = some b → z ≤ b := by
  intro b hb
  rcases h.2 with ⟨e2, _⟩ | ⟨g, cap, cur, e2, h1, _⟩
  · rw [e2] at hb; cases hb
  · rw [e2] at hb; simp only [Value.ownBlock, Option.some.injEq] at hb; omega
section
variable {w wr : World} {z s : Nat} {wk : Int} {ao : Option Addr} {n c : Nat} {st : List SK} {ka : Nat → Option Addr × Nat} {lk : Nat → Option Nat} {mk : Nat → Int} {gm l cm : Nat} {ms : List (Int × Nat)}
theorem SW.zlt (h : SW w wr z s wk ao n c st ka lk mk gm l cm ms) : z < wr.heap.size := (Array.getElem?_eq_some_iff.1 h.rbox).1
theorem SW.slt (h : SW w wr z s wk ao n c st ka lk mk gm l cm ms) : s < wr.heap.size := (Array.getElem?_eq_some_iff.1 h.sbox).1
theorem SW.own_ge (h : SW w wr z s wk ao n c st ka lk mk gm l cm ms) : ∀ b, (Value.slice ao n c).ownBlock = some b → z ≤ b := by
  have h9 := h.sto.own
  rw [h.hn] at h9
  exact Qzs h9
theorem SW.put {w5 : World} {g' n' c' : Nat} {st' : List SK} {ka' : Nat → Option Addr × Nat} {mk' : Nat → Int} {gm' l' cm' : Nat} {ms' : List (Int × Nat)} (h : SW w wr z s wk ao n c st ka lk mk gm l cm ms) (hg : Grown st st') (hn' : st'.length = n') (hl' : ms'.length = l') (hS : Sto w5 z g' c' st' ka' lk mk') (hM : OwnM w5 z gm' cm' l' (msI ms')) (hk : KOff st' ka' gm') (hne : g' ≠ gm') (hmk : ∀ i, mk' i ≤ wk) (hb : But (fun i => (Value.slice ao n c).ownBlock = some i ∨ i = gm) wr w5) (hX : ∀ X, X < wr.heap.size → KOff st ka X → KOff st' ka' X) (hgo : (Value.slice ao n c).ownBlock = some g' ∨ wr.heap.size ≤ g') (hmo : gm' = gm ∨ wr.heap.size ≤ gm') :
    SW w ((w5.setCell ⟨s, 0, none⟩ (.slice (some ⟨g', 0, none⟩) n' c')).setCell ⟨s, 1, none⟩ (.int .i64 wk)) z s wk (some ⟨g', 0, none⟩) n' c' st' ka' lk mk' gm' l' cm' ms' := by
  have hzl := h.zlt
  have hsl := h.slt
  have hgmz : z ≤ gm := h.mts.row.1
  have hs0 := h.below.size
  have hb2 : But (fun i => i = s) w5 ((w5.setCell ⟨s, 0, none⟩ (.slice (some ⟨g', 0, none⟩) n' c')).setCell ⟨s, 1, none⟩ (.int .i64 wk)) := ((But.refl (fun i => i = s) w5).setCell (p := ⟨s, 0, none⟩) rfl _).setCell (p := ⟨s, 1, none⟩) rfl _
  have hks : KOff st' ka' s := hX s hsl (h.koff s (by omega))
  have hkz : KOff st' ka' z := hX z hzl (h.koff z (by omega))
  have hgs : ∀ X, X = s ∨ X = z → g' ≠ X := by
    intro X hx e
    rcases hgo with h9 | h9
    · exact h.soff X (by omega) (by rw [h9, e])
    · omega
  have hms : gm' ≠ s ∧ gm' ≠ z := by have := h.moff; omega
  have hoff : ∀ X, X = s ∨ X = z → ¬ ((Value.slice ao n c).ownBlock = some X ∨ X = gm) := by
    rintro X hx (h9 | h9)
    · exact h.soff X (by omega) h9
    · have := h.moff; omega
  have hw5 : Below z w w5 := h.below.trans (hb.below (by omega) (fun q hq => by
    rcases hq with h9 | h9
    · exact h.own_ge q h9
    · omega))
  have hs5 : w5.heap[s]? = some (.cells #[.slice ao n c, .int .i64 wk] 78 (0, 0)) := (hb.block s hsl (hoff s (.inl rfl))).trans h.sbox
  have hz5 := (hb.block z hzl (hoff z (.inr rfl))).trans h.rbox
  refine ⟨h.hz, hn', hl', hw5.trans (hb2.below (by have := hw5.size; have := hb.size; omega) (fun q hq => by have := h.moff; omega)), ?_, Qrr hs5, ?_, hM.but hb2 hms.1, ?_, ?_, ⟨hms.1, hms.2, h.moff.2.2.1, h.moff.2.2.2⟩, hmk, h.wk0, ?_⟩
  · exact (hb2.block z (by have := hb.size; omega) (by have := h.moff; omega)).trans hz5
  · exact hS.toV.but hb2 (fun q hq e => by simp only [Value.ownBlock, Option.some.injEq] at e; exact hgs q (.inl hq) e) (fun q hq => by rw [hq]; exact hks)
  · rintro X (rfl | rfl | rfl)
    · exact hk
    · exact hks
    · exact hkz
  · intro X hx e
    simp only [Value.ownBlock, Option.some.injEq] at e
    rcases hx with hx | hx
    · exact hne (by rw [e, hx])
    · exact hgs X hx e
  · have h8 := hg.unl lk
    have h7 := h.wkn
    have h6 := hg.le
    have h5 := h.hn
    omega
theorem SW.unify {w7 : World} {g : Nat} {wk' : Int} {lk' : Nat → Option Nat} {mk' : Nat → Int} (h : SW w wr z s wk (some ⟨g, 0, none⟩) n c st ka lk mk gm l cm ms) (hS : Sto w7 z g c st ka lk' mk') (hb : But (· = g) wr w7) (hmk : ∀ i, mk' i ≤ wk') (hwk : wk ≤ wk') (hu : wk' + unl st lk' ≤ wk + unl st lk) :
    SW w ((w7.setCell ⟨s, 0, none⟩ (.slice (some ⟨g, 0, none⟩) n c)).setCell ⟨s, 1, none⟩ (.int .i64 wk')) z s wk' (some ⟨g, 0, none⟩) n c st ka lk' mk' gm l cm ms := by
  have hzl := h.zlt
  have hsl := h.slt
  have hs0 := h.below.size
  have hb2 : But (fun i => i = s) w7 ((w7.setCell ⟨s, 0, none⟩ (.slice (some ⟨g, 0, none⟩) n c)).setCell ⟨s, 1, none⟩ (.int .i64 wk')) := ((But.refl (fun i => i = s) w7).setCell (p := ⟨s, 0, none⟩) rfl _).setCell (p := ⟨s, 1, none⟩) rfl _
  have hgX : ∀ X, X = gm ∨ X = s ∨ X = z → X ≠ g := fun X hx e => h.soff X hx (by rw [e]; rfl)
  have hgz : z ≤ g := h.own_ge g rfl
  have hw7 : Below z w w7 := h.below.trans (hb.below (by omega) (fun q hq => by omega))
  have hs7 : w7.heap[s]? = some (.cells #[.slice (some ⟨g, 0, none⟩) n c, .int .i64 wk] 78 (0, 0)) := (hb.block s hsl (hgX s (by omega))).trans h.sbox
  refine ⟨h.hz, h.hn, h.hl, hw7.trans (hb2.below (by have := hw7.size; have := hb.size; omega) (fun q hq => by have := h.moff; omega)), ?_, Qrr hs7, ?_, (h.mts.but hb (hgX gm (by omega))).but hb2 h.moff.1, h.koff, h.soff, h.moff, hmk, by have := h.wk0; omega, by have := h.wkn; omega⟩
  · exact (hb2.block z (by have := hb.size; omega) (by have := h.moff; omega)).trans ((hb.block z hzl (hgX z (by omega))).trans h.rbox)
  · exact hS.toV.but hb2 (fun q hq e => by simp only [Value.ownBlock, Option.some.injEq] at e; exact hgX q (by omega) e.symm) (fun q hq => by rw [hq]; exact h.koff s (by omega))
end
end Go.Proofs.YtoiiibplkhedcaaGreatDoor
namespace Go.Proofs.YtoiiibplkhedcaaGreatDoor
open Go.RowKit
theorem SW.start {w wr : World} {z s : Nat} (hz : w.heap.size = z) (hb : Below z w wr) (hr : wr.heap[z]? = some (.cells #[.bool false, .int .i64 0, .slice none 0 0] 46 (0, 0))) (hs : wr.heap.size = s) :
    SW w ((wr.alloc (.cells #[.slice none 0 0, .int .i64 0] 78)).alloc (.cells #[] 134)) z s 0 none 0 0 [] (fun _ => (none, 0)) (fun _ => none) (fun _ => 0) (s + 1) 0 0 [] := by
  have hzl : z < wr.heap.size := (Array.getElem?_eq_some_iff.1 hr).1
  have hb1 := hb.alloc (by omega) (.cells #[.slice none 0 0, .int .i64 0] 78)
  have hb2 := hb1.alloc (by simp; omega) (.cells #[] 134)
  have hO := OwnM.empty (w := wr.alloc (.cells #[.slice none 0 0, .int .i64 0] 78)) (B := z) (by simp; omega)
  rw [World.size_alloc, hs] at hO
  have hk : ∀ X, KOff [] (fun _ => ((none : Option Addr), 0)) X := by
    intro X i b o hl
    simp [sk, SK.none] at hl
  refine ⟨hz, rfl, rfl, hb2, ?_, ?_, StoV.start _ _ _ _, hO, fun X _ => hk X, fun X _ e => (by cases e), (by omega), fun _ => Int.le_refl _, Int.le_refl _, (by simp [unl])⟩
  · rw [heap_alloc_old _ _ (by simp; omega), heap_alloc_old _ _ (by omega)]
    exact hr
  · rw [heap_alloc_old _ _ (by simp; omega), ← hs]
    exact heap_alloc_new _ _
section
variable {w wr : World} {z s : Nat} {wk : Int} {ao : Option Addr} {n c : Nat} {st : List SK} {ka : Nat → Option Addr × Nat} {lk : Nat → Option Nat} {mk : Nat → Int} {gm l cm : Nat} {ms : List (Int × Nat)}
theorem SW.step {wr' : World} (h : SW w wr z s wk ao n c st ka lk mk gm l cm ms) (hb : Below wr.heap.size wr wr') : SW w wr' z s wk ao n c st ka lk mk gm l cm ms :=
  { h with
    below := h.below.trans (hb.mono (by have := h.zlt; omega))
    rbox := (hb.block z h.zlt).trans h.rbox
    sbox := (hb.block s h.slt).trans h.sbox
    sto := h.sto.but (S := fun _ => False) (But.ofBelow hb) (fun _ h => h.elim) (fun _ h => h.elim)
    mts := h.mts.below hb }
def Qyk (w : World) (z s : Nat) (wk : Int) (n : Nat) (st : List SK) (lk : Nat → Option Nat) (l : Nat) (ms : List (Int × Nat)) (ty : List Nd) (ys : List Sp) (g' n' c' gm' l' cm' a : Nat) (wx : World) : Prop :=
  ∃ (st' : List SK) (ka' : Nat → Option Addr × Nat) (mk' : Nat → Int) (ms' : List (Int × Nat)) (at' : List Nat), SW w wx z s wk (some ⟨g', 0, none⟩) n' c' st' ka' lk mk' gm' l' cm' ms' ∧ PutS st ms ty ys ty.length st' at' ms' ∧ at'[ty.length - 1]? = some a ∧ l' ≤ l + ty.length ∧ n' ≤ n + ty.length
theorem SW.callPut (h : SW w wr z s wk ao n c st ka lk mk gm l cm ms) (hs : Sts st) (hms : MsOk st ms) (hI : Inv st lk) (hn6 : n ≤ 1000000) (hl6 : l ≤ 1000000) (ty : List Nd) (la : Nat) (HLA : Hid (ty.length = la)) (ht : typeb ty = true) (tao : Option Addr) (tc : Nat) (hx : Nodes wr tao ty) (hB : ∀ b o, tao = some ⟨b, o, none⟩ → b < z) :
    ∃ ys s0, 0 < la ∧ ys[la - 1]? = some s0 ∧ span ty s0.fr (la - 1) = ty ∧
      Calls Tryz.prog 37 #[.agg #[.slice ao n c, .int .i64 wk], .slice tao la tc, .slice (some ⟨gm, 0, none⟩) l cm] wr fun e w5 => ∃ (g' n' c' gm' l' cm' a : Nat), e = .returned (.tuple #[.agg #[.slice (some ⟨g', 0, none⟩) n' c', .int .i64 wk], .int .i64 (a : Int), .slice (some ⟨gm', 0, none⟩) l' cm']) ∧ w5.heap[s]? = some (.cells #[.slice ao n c, .int .i64 wk] 78 (0, 0)) ∧ wr.heap.size ≤ w5.heap.size ∧
        Qyk w z s wk n st lk l ms ty ys g' n' c' gm' l' cm' a ((w5.setCell ⟨s, 0, none⟩ (.slice (some ⟨g', 0, none⟩) n' c')).setCell ⟨s, 1, none⟩ (.int .i64 wk)) := by
  have hla := HLA.out
  obtain ⟨S, ys, s0, hside, h0, hs0, _, hsp, hsz⟩ := Qbx hla ht
  refine ⟨ys, s0, h0, hs0, hsp, ?_⟩
  have hyl : ys.length = la := by
    have hf := Qaf hside.run
    exact hf.len
  have hlk : ∀ i, n ≤ i → lk i = none := by
    intro i hi
    cases e : lk i with
    | none => rfl
    | some j => have := (hI.rng i j e).1; have := h.hn; omega
  refine (Jbv ty la HLA hside.m300 h0 S ys hside.run hyl hsz (fun y hy => List.all_eq_true.1 hside.plain y hy) st n h.hn hn6 ka lk mk hlk ms l h.hl hl6 hs hms z ao c wk h.marks h.wk0 gm cm tao tc wr (by have := h.zlt; omega) hB hx h.sto h.mts (h.koff gm (.inl rfl)) (h.soff gm (.inl rfl))).mono ?_
  rintro e w5 ⟨g', n', c', st', ka', mk', gm', l', cm', ms', at', a, rfl, hP, ha, hn', hl', hS, hM, hk, hne, hmk, hb, hll, hX, hgo, hmo⟩
  refine ⟨g', n', c', gm', l', cm', a, rfl, ?_, hb.size, st', ka', mk', ms', at', h.put hP.grown hn' hl' hS hM hk hne hmk hb hX hgo hmo, by rw [hla]; exact hP, by rw [hla]; exact ha, by rw [hla]; exact hll, ?_⟩
  · refine (hb.block s h.slt ?_).trans h.sbox
    rintro (h9 | h9)
    · exact h.soff s (by omega) h9
    · have := h.moff; omega
  · have := hP.few
    have := h.hn
    omega
def Jdl (w : World) (z s : Nat) (g n c : Nat) (st : List SK) (ka : Nat → Option Addr × Nat) (lk : Nat → Option Nat) (gm l cm : Nat) (ms : List (Int × Nat)) (a b : Nat) (wk' : Int) (ok : Bool) (wx : World) : Prop :=
  Below z w wx ∧ wx.heap[z]? = some (.cells #[.bool false, .int .i64 0, .slice none 0 0] 46 (0, 0)) ∧ (ok = true → ∃ lk' mk', SW w wx z s wk' (some ⟨g, 0, none⟩) n c st ka lk' mk' gm l cm ms ∧ UOk st lk a b lk') ∧ (ok = false → UNo st lk a b)
theorem SW.callUnify {g : Nat} (h : SW w wr z s wk (some ⟨g, 0, none⟩) n c st ka lk mk gm l cm ms) (hs : Sts st) (hI : Inv st lk) (hn6 : n ≤ 1000000) (a b : Nat) (ha : a < n) (hb' : b < n) :
    Calls Tryz.prog 38 #[.agg #[.slice (some ⟨g, 0, none⟩) n c, .int .i64 wk], .int .i64 (a : Int), .int .i64 (b : Int)] wr fun e w7 => ∃ wk' ok, e = .returned (.tuple #[.agg #[.slice (some ⟨g, 0, none⟩) n c, .int .i64 wk'], .bool ok]) ∧ w7.heap[s]? = some (.cells #[.slice (some ⟨g, 0, none⟩) n c, .int .i64 wk] 78 (0, 0)) ∧
      Jdl w z s g n c st ka lk gm l cm ms a b wk' ok ((w7.setCell ⟨s, 0, none⟩ (.slice (some ⟨g, 0, none⟩) n c)).setCell ⟨s, 1, none⟩ (.int .i64 wk')) := by
  obtain ⟨r, hr⟩ := hI.rank
  obtain ⟨D, hD⟩ := hr.exists_D
  have hgX : ∀ X, X = gm ∨ X = s ∨ X = z → X ≠ g := fun X hx e => h.soff X hx (by rw [e]; rfl)
  have hgz : z ≤ g := h.own_ge g rfl
  have hzl := h.zlt
  have hsl := h.slt
  have hwn := h.wkn
  have hS0 : Sto wr z g c st ka lk mk := by
    refine ⟨h.sto.own, fun i k hk => ?_⟩
    obtain ⟨b, o, e1, e2, e3⟩ := h.sto.kids i k hk
    exact ⟨b, o, e1, fun e => e2 (by rw [e]; rfl), e3⟩
  refine (Qus st n h.hn (by omega) ka hs z g c (unl st lk) (D a).length lk mk wk a b wr D rfl hD rfl ha hb' hI hS0 h.marks h.wk0 (by omega)).mono ?_
  rintro e w7 ⟨wk', ok, rfl, hb, hok, hno⟩
  have hs7 : w7.heap[s]? = some (.cells #[.slice (some ⟨g, 0, none⟩) n c, .int .i64 wk] 78 (0, 0)) := (hb.block s hsl (hgX s (by omega))).trans h.sbox
  have hb2 : But (fun i => i = s) w7 ((w7.setCell ⟨s, 0, none⟩ (.slice (some ⟨g, 0, none⟩) n c)).setCell ⟨s, 1, none⟩ (.int .i64 wk')) := ((But.refl (fun i => i = s) w7).setCell (p := ⟨s, 0, none⟩) rfl _).setCell (p := ⟨s, 1, none⟩) rfl _
  have hw7 : Below z w w7 := h.below.trans (hb.below (by omega) (fun q hq => by omega))
  have hsz := hb.size
  have hmo := h.moff
  refine ⟨wk', ok, rfl, hs7, hw7.trans (hb2.below (by omega) (fun q hq => by omega)), (hb2.block z (by omega) (by omega)).trans ((hb.block z hzl (hgX z (by omega))).trans h.rbox), fun e => ?_, hno⟩
  obtain ⟨lk', mk', hS7, hU, hm7, hw, hu⟩ := hok e
  exact ⟨lk', mk', h.unify hS7 hb hm7 hw hu, hU⟩
end
end Go.Proofs.YtoiiibplkhedcaaGreatDoor
namespace Go.Proofs.YtoiiibplkhedcaaGreatDoor
open Go.RowKit
theorem Qyd (wk : Int) (D : Nat → List Nd) (gm cm : Nat) (w : World) (hM : MRow w gm []) :
    Calls Tryz.prog 39 #[.agg #[.slice none 0 0, .int .i64 wk], .slice (some ⟨gm, 0, none⟩) 0 cm] w fun e w' => ∃ (ao : Option Addr) (l' c' : Nat) (bs : List (Int × List Nd)) (ok : Bool), e = .returned (.tuple #[.slice ao l' c', .bool ok]) ∧ bs.length = l' ∧ BAns w' w.heap.size ao bs ∧ Below w.heap.size w w' ∧ Qef D (Qax []) bs ok := by
  obtain ⟨z, hz⟩ : ∃ z, w.heap.size = z := ⟨_, rfl⟩
  have hA1 : Below w.heap.size w (w.alloc (.cells #[.slice none 0 0, .int .i64 wk] 78)) := (Below.refl _ w).alloc (Nat.le_refl _) _
  have hA2 := hA1.alloc hA1.size (.cells #[] 54)
  go_enter Tryz.func39, Tryz.ntmps39
  go_wp2_with fail
  refine (Qlj [] 0 rfl (by omega) gm cm _ (hM.below hA2)).mono ?_
  rintro e w2 ⟨gs, cs, rfl, hgs, hrs, hb2⟩
  have hbb := Below.step hA2 hb2
  have HRES : Hid (Qef D (Qax []) [] true) := ⟨fun _ => ⟨rfl, fun p hp => by simp [Qax] at hp⟩, fun h => by cases h⟩
  clear hA1 hA2 hM hrs hb2 hgs
  go_wp2
  go_loopw [6, 8] (fun v p wq => v = .slice (some ⟨z + 1, 0, none⟩) 0 0 ∧ p = .int .i64 0 ∧ Below w.heap.size w wq) (fun _ _ _ => 0)
  case atStart => exact ⟨rfl, rfl, hbb⟩
  case round =>
    clear hbb
    obtain ⟨rfl, rfl, hb⟩ := hrel
    go_wp2
    go_ret2
    exact ⟨_, 0, _, [], true, rfl, rfl, .inl rfl, hb, HRES.out⟩
section
variable {w wr : World} {z s : Nat} {wk : Int} {ao : Option Addr} {n c : Nat} {st : List SK} {ka : Nat → Option Addr × Nat} {lk : Nat → Option Nat} {mk : Nat → Int} {gm l cm : Nat} {ms : List (Int × Nat)}
theorem SW.callBinds (h : SW w wr z s wk ao n c st ka lk mk gm l cm ms) (hs : Sts st) (hms : MsOk st ms) (hI : Inv st lk) (hn6 : n ≤ 1000000) (hl6 : l ≤ 1000000) :
    ∃ D, IsD st lk D ∧ Calls Tryz.prog 39 #[.agg #[.slice ao n c, .int .i64 wk], .slice (some ⟨gm, 0, none⟩) l cm] wr fun e w' => ∃ (bo : Option Addr) (l' c' : Nat) (bs : List (Int × List Nd)) (ok : Bool), e = .returned (.tuple #[.slice bo l' c', .bool ok]) ∧ bs.length = l' ∧ BAns w' wr.heap.size bo bs ∧ Below wr.heap.size wr w' ∧ Qef D (Qax (msI ms)) bs ok := by
  obtain ⟨r, hr⟩ := hI.rank
  obtain ⟨D, hD⟩ := hr.exists_D
  refine ⟨D, hD, ?_⟩
  have hn := h.hn
  rcases h.sto.own.2 with ⟨e, e0⟩ | ⟨g, cap, cur, e, _⟩
  · simp only [Value.slice.injEq] at e
    obtain ⟨e1, e2, e3⟩ := e
    have hm0 : ms = [] := by
      cases ms with
      | nil => rfl
      | cons p ms =>
        have := (hms.at' p (by simp)).1
        omega
    have hl0 : l = 0 := by rw [← h.hl, hm0]; rfl
    have hM := h.mts.row.2
    rw [hm0] at hM ⊢
    have hn0 : n = 0 := by omega
    rw [e1, e3, hn0, hl0]
    exact Qyd wk D gm cm wr hM
  · simp only [Value.slice.injEq] at e
    obtain ⟨rfl, _, rfl⟩ := e
    have hS0 : Sto wr z g c st ka lk mk := by
      refine ⟨h.sto.own, fun i k hk => ?_⟩
      obtain ⟨b, o, e1, e2, e3⟩ := h.sto.kids i k hk
      exact ⟨b, o, e1, fun e => e2 (by rw [e]; rfl), e3⟩
    exact Qye st n hn (by omega) ka hs lk mk r hr hI.rng D hD z g c wk ms l h.hl (by omega) (fun p hp => by rw [← hn]; exact (hms.at' p hp).1) gm cm wr hS0 h.mts.row.2
end
end Go.Proofs.YtoiiibplkhedcaaGreatDoor

import Derived.Test.YtoiiibplkhedcaaGreatDoorWBE
set_option maxRecDepth 20000
set_option maxHeartbeats 8000000
namespace Go.Proofs.YtoiiibplkhedcaaGreatDoor
open Go.RowKit Go.Maps
theorem Qvp {X : Nat → Prop} {g : Nat → GC} {lk : Nat → Option Nat} {d : Nat → Nat} (ha : Acyc lk d) : ∃ θ, SatC X g lk θ := by
  have hk : ∀ i, ∃ r, Hd lk i r := fun i => ha.head _ i (Nat.lt_succ_self _)
  obtain ⟨hd, hhd⟩ := Classical.axiomOfChoice hk
  exact ⟨_, Qvn (hd := hd) (fun i j e => (hhd i).fun (Hd.step e (hhd j))) (fun i e => (hhd i).fun (Hd.root e))⟩
theorem Qxq {ρ : Int → List Nd} {g t : List Nd} (h : fill ρ g = t) {x : Int} (hx : x ∈ metas g) : (ρ x).length ≤ t.length := by
  obtain ⟨y, hy, rfl⟩ := List.mem_map.1 hx
  obtain ⟨h1, h2⟩ := List.mem_filter.1 hy
  rw [← h]
  have e : Qas ρ y = ρ y.num := by unfold Qas; simp at h2; simp [h2]
  have h3 : Qas ρ y ∈ g.map (Qas ρ) := List.mem_map.2 ⟨y, h1, rfl⟩
  rw [← e, fill, List.flatMap_def]
  exact (List.sublist_flatten_of_mem h3).length_le
theorem Qnj {t : List Nd} (h : typeb t = true) : One t := by
  obtain ⟨S, ys, s, hS, h0, hs, hf, hsp, _⟩ := Qbx rfl h
  have h9 := Qjl hS.run (i := t.length - 1) (by omega) hs
  rw [hsp] at h9
  exact h9
theorem Jak {g t : List Nd} {U : Int → Option Nat} {ρ : Int → List Nd} {bs : List (Int × List Nd)} (hfill : fill ρ g = t) (hmem : ∀ x, (∃ b, U x = some b) ↔ x ∈ metas g) (hwf : ∀ x ∈ g, (Lit.int .i64 x.num).wf = true) (hone : ∀ x b, U x = some b → One (ρ x))
    (h : Qkp (fun x => if (Lit.int .i64 x).wf = true then (U x).map (fun _ => ρ x) else none) bs) : InstOk g t bs := by
  obtain ⟨h1, h2, h3⟩ := h
  have hE : ∀ x, x ∈ metas g → (if (Lit.int .i64 x).wf = true then (U x).map (fun _ => ρ x) else none) = some (ρ x) := by
    intro x hx
    obtain ⟨b, hb⟩ := (hmem x).2 hx
    obtain ⟨y, hy, rfl⟩ := List.mem_map.1 hx
    rw [if_pos (hwf y (List.mem_filter.1 hy).1), hb]
    rfl
  have hB : ∀ p ∈ bs, p.1 ∈ metas g ∧ p.2 = ρ p.1 := by
    intro p hp
    have h9 := h2 p hp
    simp only at h9
    by_cases hw : (Lit.int .i64 p.1).wf = true
    · rw [if_pos hw] at h9
      cases hu : U p.1 with
      | none => rw [hu] at h9; cases h9
      | some b =>
        rw [hu] at h9
        simp only [Option.map_some, Option.some.injEq] at h9
        exact ⟨(hmem p.1).1 ⟨b, hu⟩, h9.symm⟩
    · rw [if_neg hw] at h9
      cases h9
  refine ⟨h1, fun x => ⟨fun hx => ?_, fun hx => ?_⟩, fun p hp => ?_, fun θ hθ => ?_⟩
  · obtain ⟨p, hp, rfl⟩ := List.mem_map.1 hx
    exact (hB p hp).1
  · exact h3 x (by simp only; rw [hE x hx]; rfl)
  · obtain ⟨h4, h5⟩ := hB p hp
    obtain ⟨b, hb⟩ := (hmem p.1).2 h4
    rw [h5]
    exact hone _ b hb
  · rw [← hfill]
    refine Qbi (fun x hx => ?_)
    obtain ⟨p, hp, rfl⟩ := List.mem_map.1 (h3 x (by simp only; rw [hE x hx]; rfl))
    rw [hθ p hp, (hB p hp).2]
theorem Qed {S : Nat → Prop} {w0 w w' : World} (h0 : Below w0.heap.size w0 w) (h : But S w w') (hS : ∀ i, S i → w0.heap.size ≤ i) : Below w0.heap.size w0 w' := by
  refine ⟨h.os.trans h0.os, h.tape.trans h0.tape, h.output.trans h0.output, Nat.le_trans h0.size h.size, fun i hi => ?_⟩
  have hz := h0.size
  exact (h.block i (by omega) (fun h9 => by have := hS i h9; omega)).trans (h0.block i hi)
theorem Qkm {w : World} {B B' : Nat} {ao : Option Addr} {bs : List (Int × List Nd)} (h : BAns w B ao bs) (hB : B' ≤ B) : BAns w B' ao bs := by
  rcases h with h | ⟨g, rs, e, h1, h2, hr⟩
  · exact Or.inl h
  · exact Or.inr ⟨g, rs, e, Nat.le_trans hB h1, fun r hm => Nat.le_trans hB (h2 r hm), hr⟩
theorem Qoj (w : World) : Calls Tryz.prog 28 #[] w fun e w' => ∃ sb mb, e = .returned (.pointer (some ⟨sb, 0, none⟩)) ∧ w.heap.size ≤ sb ∧ w.heap.size ≤ mb ∧ Stor w' sb mb 0 0 (fun _ => False) (fun _ => Qdd Nd.zero 0) (fun _ => none) (fun _ => 0) (fun _ => []) (fun _ _ => none) (.map []) ∧ Below w.heap.size w w' := by
  have hmm := @run_makeMap Tryz.prog
  go_enter Tryz.func28, Tryz.ntmps28
  go_wp2
  go_ret
  have hb : Below w.heap.size w ((w.alloc (.map #[] 0)).alloc (.cells #[.map (some w.heap.size), .int .i64 0, .int .i64 0, .int .i64 0, .int .i64 0, .slice none 0 0] 107)) := ((Below.refl _ w).alloc (Nat.le_refl _) _).alloc (by simp) _
  have k1 : ((w.alloc (.map #[] 0)).alloc (.cells #[.map (some w.heap.size), .int .i64 0, .int .i64 0, .int .i64 0, .int .i64 0, .slice none 0 0] 107)).heap[w.heap.size + 1]? = some (.cells #[.map (some w.heap.size), .int .i64 0, .int .i64 0, .int .i64 0, .int .i64 0, .slice none 0 0] 107 (0, 0)) := by
    have h9 := heap_alloc_new (w.alloc (.map #[] 0)) (.cells #[.map (some w.heap.size), .int .i64 0, .int .i64 0, .int .i64 0, .int .i64 0, .slice none 0 0] 107)
    simpa using h9
  refine ⟨w.heap.size + 1, w.heap.size, rfl, by omega, Nat.le_refl _, ⟨⟨⟨fun b h => h.elim, fun _ _ e => (by cases e)⟩, fun _ _ e => (by cases e), fun b h => h.elim, fun b h => h.elim, fun b h => h.elim, fun b h => h.elim, fun b h => h.elim⟩, ?_, ?_, fun h => h, (World.ownsMap_made w Tryz.prog 127 Qce).alloc _, UD.start, fun _ _ _ e => (by cases e), rfl⟩, hb⟩
  · rw [cell_of_row _ _ _ _ 107 (0, 0) k1]; rfl
  · rw [cell_of_row _ _ _ _ 107 (0, 0) k1]; rfl
theorem Qnh {t : List Nd} (h : t.all Nd.plainb = true) : ∀ a ∈ t, ∀ b ∈ t, a.kind = 61 → b.kind = 61 → a.num = b.num → a = b := by
  intro a ha b hb h1 h2 e
  have h9 := List.all_eq_true.1 h
  rw [Qds (h9 a ha) h1, Qds (h9 b hb) h2, e]
theorem Qfw (g t : List Nd) (mg mt : Nat) (HMG : Hid (g.length = mg)) (HMT : Hid (t.length = mt)) (hmg : mg ≤ 1048576) (hmt : mt ≤ 1048576) (HWG : Hid (∀ x ∈ g, (Lit.int .i64 x.num).wf = true)) (HWT : Hid (∀ x ∈ t, (Lit.int .i64 x.num).wf = true)) (ga ta : Option Addr) (ca cb : Nat) (w : World) (hG : Nodes w ga g) (hT : Nodes w ta t) :
    Calls Tryz.prog 11 #[.slice ga mg ca, .slice ta mt cb] w fun e w' => ∃ ag cg bs b, e = .returned (.tuple #[.slice ag bs.length cg, .bool b]) ∧ Qcd g t bs b ∧ BAns w' w.heap.size ag bs ∧ Below w.heap.size w w' := by
  go_enter Tryz.func11, Tryz.ntmps11
  go_wp2_with fail
  refine (Qbr g mg HMG hmg _ _ _ hG).mono ?_
  rintro e w1 ⟨rfl, hb1⟩
  cases htg : typeb g
  · have HR : Hid (Qcd g t [] false) := ⟨(fun h => by cases h), fun _ => ⟨rfl, .inl htg⟩⟩
    clear hG hT
    go_wp2
    go_ret2
    exact ⟨_, _, [], false, rfl, HR.out, .inl rfl, hb1.alloc hb1.size _⟩
  · go_wp2_with fail
    refine (Qbr t mt HMT hmt _ _ _ (hT.below hb1)).mono ?_
    rintro e w2 ⟨rfl, hb2⟩
    have hb2 := Below.step hb1 hb2
    clear hb1
    cases htt : typeb t
    · have HR : Hid (Qcd g t [] false) := ⟨(fun h => by cases h), fun _ => ⟨rfl, .inr (.inl htt)⟩⟩
      clear hG hT
      go_wp2
      go_ret2
      exact ⟨_, _, [], false, rfl, HR.out, .inl rfl, hb2.alloc hb2.size _⟩
    · obtain ⟨Sg, yg, xg, hSg, h0g, _⟩ := Qbx HMG.out htg
      obtain ⟨St, yt, xt, hSt, h0t, _⟩ := Qbx HMT.out htt
      have hg3 := hSg.m300
      have ht3 := hSt.m300
      have HG1 : Hid (Sg.length = 1) := by
        have h1 := Qfe hSg.run
        rw [List.take_of_length_le (by have := HMG.out; omega), (Qnj htg).wt] at h1
        rw [Hid]
        omega
      have HT1 : Hid (St.length = 1) := by
        have h1 := Qfe hSt.run
        rw [List.take_of_length_le (by have := HMT.out; omega), (Qnj htt).wt] at h1
        rw [Hid]
        omega
      have HGR : Hid (Qag g mg = some (Sg, yg)) := hSg.run
      have HTR : Hid (Qag t mt = some (St, yt)) := hSt.run
      have HLG : Hid (Leafy g) := Qaq hSg.plain
      have HLT : Hid (Leafy t) := Qaq hSt.plain
      have HUG : Hid (∀ a ∈ g, ∀ b ∈ g, a.kind = 61 → b.kind = 61 → a.num = b.num → a = b) := Qnh hSg.plain
      have HUT : Hid (∀ a ∈ t, ∀ b ∈ t, a.kind = 61 → b.kind = 61 → a.num = b.num → a = b) := Qnh hSt.plain
      have HPT : Hid (t.all Nd.plainb = true) := hSt.plain
      have HTY : Hid (typeb g = true ∧ typeb t = true) := ⟨htg, htt⟩
      have HG : Hid (Nodes w ga g) := hG
      have HT : Hid (Nodes w ta t) := hT
      clear hSg hSt htg htt hG hT
      go_wp2_with fail
      refine (Qoj w2).mono ?_
      rintro e w3 ⟨sb, mb, rfl, hsb, hmb, hst3, hb3⟩
      have hz2 := hb2.size
      have hb3 := Below.step hb2 hb3
      have hz3 := hb3.size
      have HS3 : Hid (Stor w3 sb mb 0 0 (fun _ => False) (fun _ => Qdd Nd.zero 0) (fun _ => none) (fun _ => 0) (fun _ => []) (fun _ _ => none) (.map [])) := hst3
      clear hst3 hb2
      go_wp2_with fail
      refine (Qmf w3 sb mb 0 (by omega) 0 1 (fun _ => True) (fun _ => False) (fun _ => Qdd Nd.zero 0) (fun _ => none) (fun _ => 0) (fun _ => []) (fun _ _ => none) (.map []) HS3.out (by decide) (.inr rfl) g mg HMG hg3 h0g HWG HLG HUG Sg yg HGR HG1.out (fun _ _ h => by omega) 0 [] ⟨fun _ h => h.elim, Nat.le_refl _⟩ ga ca (HG.out.below hb3)).mono ?_
      rintro e w4 ⟨b1, n1, X1, f1, K1, U1, D1, rt1, rfl, T1⟩
      have hb4 : Below w.heap.size w w4 := Qed hb3 T1.old (fun i h => by omega)
      have hn1 : n1 ≤ 300 := by have := T1.num; have := HMG.out; omega
      have HT1' : Hid (Taken w3 w4 sb mb 0 0 1 (fun _ => True) (fun _ => False) (fun _ => Qdd Nd.zero 0) (fun _ => none) (fun _ => 0) (fun _ => []) (fun _ _ => none) 0 g b1 n1 X1 f1 K1 U1 D1 rt1) := T1
      clear T1
      go_wp2_with fail
      refine (Qmf w4 sb mb n1 (by omega) 0 0 (fun ρ => ∀ n ∈ t, n.kind = 61 → ρ n.num = Qbh n) X1 f1 (fun _ => none) (fun _ => 0) K1 U1 D1 HT1'.out.stor (by decide) (.inl rfl) t mt HMT ht3 h0t HWT HLT HUT St yt HTR HT1.out (fun ρ h _ => h) mg rt1 ⟨HT1'.out.roots.1, by have := HT1'.out.roots.2; have := HMG.out; omega⟩ ta cb (HT.out.below hb4)).mono ?_
      rintro e w5 ⟨b2, n2, X2, f2, K2, U2, D2, rt2, rfl, T2⟩
      have hb5 : Below w.heap.size w w5 := Qed hb4 T2.old (fun i h => by omega)
      have hn2 : n2 ≤ 600 := by have := T2.num; have := HMT.out; omega
      have HX2 : Hid (∀ i, X2 i → w.heap.size ≤ i) := by
        intro i hi
        rcases T2.fresh i hi with h | h
        · rcases HT1'.out.fresh i h with h | h
          · exact h.elim
          · omega
        · have := hb4.size
          omega
      have HEQ := Qlu X2 f2 (fun _ => none) (fun _ => 0) K2 w5 b1 b2 rt2 T2.stor.sto (fun i hi _ => T2.roots.1 i hi) (by have := T2.roots.2; have := HMT.out; omega) (T2.grow.sub _ HT1'.out.inX) T2.inX sb 0 T2.stor.sX T2.stor.s1
      have HT2' : Hid (Taken w4 w5 sb mb n1 0 0 (fun ρ => ∀ n ∈ t, n.kind = 61 → ρ n.num = Qbh n) X1 f1 (fun _ => none) (fun _ => 0) K1 U1 mg t b2 n2 X2 f2 K2 U2 D2 rt2) := T2
      clear T2
      go_wp2_with fail
      refine HEQ.mono ?_
      rintro e w6 ⟨hB6, hres⟩
      have hb6 := Qed hb5 hB6 HX2.out
      clear HEQ
      rcases hres with ⟨rfl, f', lk', d', hS6, _, hE⟩ | ⟨⟨v, rfl⟩, _, hno⟩
      · obtain ⟨θ, hs⟩ := Qvp (X := X2) (g := gcv K2 f') hS6.acyc
        obtain ⟨ρ, h1, h2, h3⟩ := Qwx HT1'.out HT2'.out hE hs
        have HRR : Hid (∀ x b, U2 1 x = some b → Ev Qbh (ρ x) (θ b) ∧ (ρ x).length ≤ 300) := fun x b e => ⟨h1 x b e, by have := Qxq h2 ((h3 x).1 ⟨b, e⟩); have := HMT.out; omega⟩
        have HF := Qpe X2 f' lk' d' K2 θ w6 sb mb n2 (by omega) U2 D2 hS6 hs ((hB6.cellB (Qaa HT2'.out.stor.s0) HT2'.out.stor.sX).trans HT2'.out.stor.s0) (Qbm HT2'.out.stor.map hB6 HT2'.out.stor.mX) HT2'.out.stor.ud HT2'.out.stor.inX ρ HRR
        have HOK : Hid (∀ bs, Qkp (fun x => if (Lit.int .i64 x).wf = true then (U2 1 x).map (fun _ => ρ x) else none) bs → Qcd g t bs true) := fun bs hIB => ⟨fun _ => ⟨HTY.out.1, HTY.out.2, Jak h2 h3 HWG.out (fun x b e => (h1 x b e).one) hIB⟩, fun h => by cases h⟩
        clear hB6 hS6 hE hs h1 h2 h3 HRR HT1' HT2' HS3 hb3 hb4 hb5
        go_wp2_with fail
        refine HF.mono ?_
        rintro e w7 ⟨tb, k, hk, rfl, hRw, hB7⟩
        have hb7 := Qed hb6 hB7 HX2.out
        have HBO := Qkl _ w6.heap.size tb k (by omega) w7 hRw hB7.size
        have hz6 := hb6.size
        clear HF hRw hB7
        go_wp2_with fail
        refine HBO.mono ?_
        rintro e w8 ⟨ag, cg, bs, rfl, hIB, hBA, hb8⟩
        have HR : Hid (Qcd g t bs true) := HOK.out bs hIB
        have hbf := Below.step hb7 hb8
        have hBA2 := Qkm hBA hz6
        clear HBO hIB hBA hb8 hb7 hb6
        go_wp2
        go_ret2
        exact ⟨_, _, bs, true, rfl, HR.out, hBA2, hbf⟩
      · have HR : Hid (Qcd g t [] false) := ⟨(fun h => by cases h), fun _ => ⟨rfl, .inr (.inr (Jal HT1'.out HT2'.out (fun _ => trivial) ⟨fun x => Qbh (Jbe x), fun n hn h61 => congrArg Qbh (Qds (List.all_eq_true.1 HPT.out n hn) h61).symm⟩ hno))⟩⟩
        clear hB6 hno HT1' HT2' HS3 hb3 hb4 hb5
        go_wp2
        go_ret2
        exact ⟨_, _, [], false, rfl, HR.out, .inl rfl, hb6.alloc hb6.size _⟩
/-! impl.Solve. -/
theorem Qqj {ps : List (List Nd × List Nd)} {X : Nat → Prop} {f : Nat → CC} {lk : Nat → Option Nat} {K : (Option Addr × Nat × Nat) → List Nat} {U : Int → Int → Option Nat} {σ : Int → List Nd} {θ : Nat → DT} (hv : Qbf ps) (hF : SolF ps X f lk K U σ θ) (hwf : ∀ x b, U 1 x = some b → (Lit.int .i64 x).wf = true) (hlen : ∀ x b, U 1 x = some b → (σ x).length ≤ 300) {bs : List (Int × List Nd)}
    (h : Qkp (fun x => if (Lit.int .i64 x).wf = true then (U 1 x).map (fun _ => σ x) else none) bs) : SolveRes ps true 0 bs := by
  obtain ⟨h1, h2, h3⟩ := h
  have hB : ∀ p ∈ bs, (∃ b, U 1 p.1 = some b) ∧ p.2 = σ p.1 := by
    intro p hp
    have h9 := h2 p hp
    simp only at h9
    by_cases hw : (Lit.int .i64 p.1).wf = true
    · rw [if_pos hw] at h9
      cases hu : U 1 p.1 with
      | none => rw [hu] at h9; cases h9
      | some b =>
        rw [hu] at h9
        simp only [Option.map_some, Option.some.injEq] at h9
        exact ⟨⟨b, rfl⟩, h9.symm⟩
    · rw [if_neg hw] at h9
      cases h9
  refine .ok σ bs hv hF.ok h1 (fun x => ⟨fun hx => ?_, fun hx => ?_⟩) (fun p hp => ⟨(hB p hp).2, ?_⟩)
  · obtain ⟨p, hp, rfl⟩ := List.mem_map.1 hx
    exact (hF.occ p.1).1 (hB p hp).1
  · obtain ⟨b, hb⟩ := (hF.occ x).2 hx
    exact h3 x (by simp only; rw [if_pos (hwf x b hb), hb]; rfl)
  · obtain ⟨⟨b, hb⟩, e⟩ := hB p hp
    rw [e]
    exact hlen _ b hb
theorem Qmt (ps : List (List Nd × List Nd)) (m : Nat) (HM : Hid (ps.length = m)) (hm : m ≤ 1048576) (HPL : Hid (∀ p ∈ ps, p.1.length ≤ 1048576 ∧ p.2.length ≤ 1048576)) (HWF : Hid (∀ p ∈ ps, (∀ x ∈ p.1, (Lit.int .i64 x.num).wf = true) ∧ ∀ x ∈ p.2, (Lit.int .i64 x.num).wf = true)) (gp : Value) (ao : Option Addr) (cap : Nat) (w : World) (hgv : w.cell? ⟨0, 0, none⟩ = some (.iface 232 gp)) (hgt : ErrT w) (hx : Pairs w ao ps) :
    Calls Tryz.prog 20 #[.slice ao m cap] w fun e w' => ∃ (ok : Bool) (at' : Int) (bo : Option Addr) (l c : Nat) (bs : List (Int × List Nd)), e = .returned (.agg #[.bool ok, .int .i64 at', .slice bo l c]) ∧ bs.length = l ∧ SolveRes ps ok at' bs ∧ BAns w' w.heap.size bo bs ∧ Below w.heap.size w w' := by
  obtain ⟨z, hz⟩ : ∃ z, w.heap.size = z := ⟨_, rfl⟩
  have hz1 : 1 < w.heap.size := Qaa hgt
  have HX : Hid (Pairs w ao ps) := hx
  have HGT : Hid (ErrT w) := hgt
  have HGV : Hid (w.cell? ⟨0, 0, none⟩ = some (.iface 232 gp)) := hgv
  clear hx hgt hgv
  go_enter Tryz.func20, Tryz.ntmps20
  go_wp2_with fail
  have hA : Below w.heap.size w (w.alloc (.cells #[.bool false, .int .i64 0, .slice none 0 0] 46)) := (Below.refl _ w).alloc (Nat.le_refl _) _
  have hzb : (w.alloc (.cells #[.bool false, .int .i64 0, .slice none 0 0] 46)).heap[z]? = some (.cells #[.bool false, .int .i64 0, .slice none 0 0] 46 (0, 0)) := by rw [← hz]; exact heap_alloc_new _ _
  have hzl0 : z < (w.alloc (.cells #[.bool false, .int .i64 0, .slice none 0 0] 46)).heap.size := (Array.getElem?_eq_some_iff.1 hzb).1
  refine (Qpv ps m HM hm HPL ao cap _ (HX.out.below hA)).mono ?_
  rintro e w1 ⟨⟨ok, rfl, hok⟩, hb1⟩
  have hrb1 := (hb1.block z hzl0).trans hzb
  have hbw1 : Below z w w1 := by rw [← hz]; exact Below.step hA hb1
  have hz1' := hbw1.size
  clear hA hzb hb1 hzl0
  cases ok with
  | false =>
    have HRES : Hid (SolveRes ps false (-1) []) := .bad (fun hv => by have := hok.2 hv; cases this)
    obtain ⟨r0, r1, r2, f0, f1, f2, hzl, hrbut⟩ := Qkt (a' := .bool false) (b' := .int .i64 (-1)) (c' := .slice none 0 0) hrb1
    have hfin := hbw1.trans (hrbut.below (by omega) (fun q hq => by omega))
    clear hok hrb1
    go_wp2
    refine bodyPost_ret (v := .agg #[.bool false, .int .i64 (-1), .slice none 0 0]) (by simp [results, Tryz.results20, go_sem, r0, r1, r2]) rfl ?_
    exact ⟨false, -1, none, 0, 0, [], rfl, rfl, HRES.out, .inl rfl, by rw [hz]; exact hfin⟩
  | true =>
    have HV : Hid (Qbf ps) := hok.1 rfl
    have hgv1 := (hbw1.cell (p := ⟨0, 0, none⟩) (by show 0 < z; omega)).trans HGV.out
    have hgt1 : ErrT w1 := HGT.out.below hbw1 (by omega)
    have HSO := Qvi ps m HM HV HWF 232 gp ao cap w1 hgv1 (HX.out.below (by rw [hz]; exact hbw1))
    have hzl1 : z < w1.heap.size := (Array.getElem?_eq_some_iff.1 hrb1).1
    clear hok hgv1
    go_wp2_with fail
    refine HSO.mono ?_
    rintro e w2 ⟨hres, hb2⟩
    have hbw2 : Below z w w2 := by rw [← hz] at hbw1 ⊢; exact Below.step hbw1 hb2
    have hz2 := hb2.size
    have hrb2 := (hb2.block z hzl1).trans hrb1
    have hgt2 : ErrT w2 := hgt1.below hb2 (by omega)
    clear HSO hbw1 hrb1 hgt1
    rcases hres with ⟨ub, r, v, rfl, hub, hcl, hsr⟩ | ⟨ub, r, rfl, hub, hcl, hsr⟩ | ⟨sb, mb, n, X, f, lk, d, K, U, D, σ, θ, rfl, hn, hXz, hS, s0, hO, hud, hUX, hwu, hF, hlen⟩
    · have HRES : Hid (SolveRes ps false (r : Int) []) := hsr
      have hB : Below w2.heap.size w2 (w2.alloc (.cells #[.pointer none] 91)) := (Below.refl _ w2).alloc (Nat.le_refl _) _
      have HAS := Jbi ⟨ub, 0, none⟩ w2.heap.size _ (hgt2.below hB (by omega)) (heap_alloc_new w2 (.cells #[.pointer none] 91))
      have hubl : ub < w2.heap.size := (Array.getElem?_eq_some_iff.1 hcl).1
      have HST : Hid (∀ w3, But (fun k => k = w2.heap.size) (w2.alloc (.cells #[.pointer none] 91)) w3 → Below z w w3 ∧ ErrT w3 ∧ w3.heap[z]? = some (.cells #[.bool false, .int .i64 0, .slice none 0 0] 46 (0, 0)) ∧ w3.heap[ub]? = some (.cells #[.int .i64 (r : Int), .iface 143 (.pointer (some v))] 96 (0, 0)) ∧ w2.heap.size < w3.heap.size) := by
        intro w3 hb3
        have hb23 : Below w2.heap.size w2 w3 := ⟨hb3.os.trans hB.os, hb3.tape.trans hB.tape, hb3.output.trans hB.output, Nat.le_trans hB.size hb3.size, fun k hk => (hb3.block k (by simp; omega) (by omega)).trans (hB.block k hk)⟩
        refine ⟨hbw2.trans (hb23.mono (by omega)), hgt2.below hb23 (by omega), (hb23.block z (by omega)).trans hrb2, (hb23.block ub hubl).trans hcl, ?_⟩
        have := hb3.size
        simp at this
        omega
      clear hsr hB
      go_wp2_with fail
      refine HAS.mono ?_
      rintro e w3 ⟨rfl, hft, hb3⟩
      obtain ⟨hbw3, hgt3, hrb3, hcl3, hl3⟩ := HST.out w3 hb3
      have HIC := Qrf ub v w3 hgt3 (by rw [cell_of_row _ _ _ _ 96 (0, 0) hcl3]; rfl)
      clear HAS HST hb3 hgt3 hgt2 hcl hrb2 hbw2
      go_wp2_with fail
      refine HIC.mono ?_
      rintro e w4 ⟨rfl, hb4⟩
      have hs3 := hbw3.size
      have hzl3 : z < w3.heap.size := (Array.getElem?_eq_some_iff.1 hrb3).1
      have hbw4 : Below z w w4 := hbw3.trans (hb4.mono (by omega))
      have hrb4 := (hb4.block z hzl3).trans hrb3
      have hft4 := (hb4.cell (p := ⟨w2.heap.size, 0, none⟩) hl3).trans hft
      have hcl4 := (hb4.block ub (by omega)).trans hcl3
      have hp4 : w4.cell? ⟨ub, 0, none⟩ = some (.int .i64 (r : Int)) := by rw [cell_of_row _ _ _ _ 96 (0, 0) hcl4]; rfl
      have hs4 := hb4.size
      have hl4 : w2.heap.size < w4.heap.size := by omega
      have hul4 : ub < w4.heap.size := by omega
      obtain ⟨r0, r1, r2, f0, f1, f2, hzl, hrbut⟩ := Qkt (a' := .bool false) (b' := .int .i64 (r : Int)) (c' := .slice none 0 0) hrb4
      have hfin := hbw4.trans (hrbut.below (by omega) (fun q hq => by omega))
      clear HIC hb4 hrb3 hcl3 hft hrb4 hcl4 hbw3
      go_wp2
      refine bodyPost_ret (v := .agg #[.bool false, .int .i64 (r : Int), .slice none 0 0]) (by simp [results, Tryz.results20, go_sem, r0, r1, r2]) rfl ?_
      exact ⟨false, (r : Int), none, 0, 0, [], rfl, rfl, HRES.out, .inl rfl, by rw [hz]; exact hfin⟩
    · have HRES : Hid (SolveRes ps false (-1) []) := hsr
      have hB : Below w2.heap.size w2 (w2.alloc (.cells #[.pointer none] 91)) := (Below.refl _ w2).alloc (Nat.le_refl _) _
      have HAS := Jbi ⟨ub, 0, none⟩ w2.heap.size _ (hgt2.below hB (by omega)) (heap_alloc_new w2 (.cells #[.pointer none] 91))
      have hubl : ub < w2.heap.size := (Array.getElem?_eq_some_iff.1 hcl).1
      have HST : Hid (∀ w3, But (fun k => k = w2.heap.size) (w2.alloc (.cells #[.pointer none] 91)) w3 → Below z w w3 ∧ ErrT w3 ∧ w3.heap[z]? = some (.cells #[.bool false, .int .i64 0, .slice none 0 0] 46 (0, 0)) ∧ w3.heap[ub]? = some (.cells #[.int .i64 (r : Int), .iface 232 gp] 96 (0, 0)) ∧ w2.heap.size < w3.heap.size) := by
        intro w3 hb3
        have hb23 : Below w2.heap.size w2 w3 := ⟨hb3.os.trans hB.os, hb3.tape.trans hB.tape, hb3.output.trans hB.output, Nat.le_trans hB.size hb3.size, fun k hk => (hb3.block k (by simp; omega) (by omega)).trans (hB.block k hk)⟩
        refine ⟨hbw2.trans (hb23.mono (by omega)), hgt2.below hb23 (by omega), (hb23.block z (by omega)).trans hrb2, (hb23.block ub hubl).trans hcl, ?_⟩
        have := hb3.size
        simp at this
        omega
      clear hsr hB
      go_wp2_with fail
      refine HAS.mono ?_
      rintro e w3 ⟨rfl, hft, hb3⟩
      obtain ⟨hbw3, hgt3, hrb3, hcl3, hl3⟩ := HST.out w3 hb3
      have HIC := Qtt ub gp w3 hgt3 (by rw [cell_of_row _ _ _ _ 96 (0, 0) hcl3]; rfl)
      clear HAS HST hb3 hgt3 hgt2 hcl hrb2 hbw2
      go_wp2_with fail
      refine HIC.mono ?_
      rintro e w4 ⟨rfl, hb4⟩
      have hs3 := hbw3.size
      have hzl3 : z < w3.heap.size := (Array.getElem?_eq_some_iff.1 hrb3).1
      have hbw4 : Below z w w4 := hbw3.trans (hb4.mono (by omega))
      have hrb4 := (hb4.block z hzl3).trans hrb3
      obtain ⟨r0, r1, r2, f0, f1, f2, hzl, hrbut⟩ := Qkt (a' := .bool false) (b' := .int .i64 (-1)) (c' := .slice none 0 0) hrb4
      have hfin := hbw4.trans (hrbut.below (by omega) (fun q hq => by omega))
      clear HIC hb4 hrb3 hcl3 hft hrb4 hbw3
      go_wp2
      refine bodyPost_ret (v := .agg #[.bool false, .int .i64 (-1), .slice none 0 0]) (by simp [results, Tryz.results20, go_sem, r0, r1, r2]) rfl ?_
      exact ⟨false, -1, none, 0, 0, [], rfl, rfl, HRES.out, .inl rfl, by rw [hz]; exact hfin⟩
    · have hB : Below w2.heap.size w2 (w2.alloc (.cells #[.pointer none] 91)) := (Below.refl _ w2).alloc (Nat.le_refl _) _
      have HSB : Hid (∀ bs, Qkp (fun x => if (Lit.int .i64 x).wf = true then (U 1 x).map (fun _ => σ x) else none) bs → SolveRes ps true 0 bs) := fun bs h => Qqj HV.out hF hwu hlen h
      have hSB : CSto (w2.alloc (.cells #[.pointer none] 91)) X f lk d K := hS.still (But.ofBelow hB)
      have HFO := Qpe X f lk d K θ (w2.alloc (.cells #[.pointer none] 91)) sb mb n (by omega) U D hSB hF.sat ((hB.cell (p := ⟨sb, 0, none⟩) (Qaa s0)).trans s0) (Qbm hO (But.ofBelow (S := fun _ => False) hB) (fun h => h)) hud hUX σ (fun x b e => ⟨hF.read x b e, hlen x b e⟩)
      have hbwB : Below z w (w2.alloc (.cells #[.pointer none] 91)) := hbw2.trans (hB.mono (by omega))
      have hrbB := (hB.block z (by omega)).trans hrb2
      have hzB : z < (w2.alloc (.cells #[.pointer none] 91)).heap.size := (Array.getElem?_eq_some_iff.1 hrbB).1
      have HXW : Hid (∀ i, X i → w1.heap.size ≤ i) := hXz
      clear hgt2 hS s0 hO hud hUX hF hlen hSB hwu hrb2 hbw2 hB hXz
      go_wp2_with fail
      refine (Jdk _ _).mono ?_
      rintro e w3 ⟨rfl, rfl⟩
      go_wp2_with fail
      refine HFO.mono ?_
      rintro e w4 ⟨tb, k, hk, rfl, hRw, hB4⟩
      have hbw4 : Below z w w4 := Qcp hbwB hB4 (by omega) (fun i hi => by have := HXW.out i hi; omega)
      have hrb4 := (hB4.block z hzB (fun hx => by have := HXW.out z hx; omega)).trans hrbB
      have hzB4 := hB4.size
      have HBO := Qkl _ _ tb k (by omega) w4 hRw hB4.size
      have hz4 := hbw4.size
      have hzl4 : z < w4.heap.size := (Array.getElem?_eq_some_iff.1 hrb4).1
      clear HFO hRw hB4 hrbB
      go_wp2_with fail
      refine HBO.mono ?_
      rintro e w5 ⟨ag, cg, bs, rfl, hIB, hBA, hb5⟩
      have HRES : Hid (SolveRes ps true 0 bs) := HSB.out bs hIB
      have hbw5 : Below z w w5 := hbw4.trans (hb5.mono (by omega))
      have hrb5 := (hb5.block z hzl4).trans hrb4
      have hBA2 : BAns w5 (z + 1) ag bs := Qkm hBA (by omega)
      obtain ⟨r0, r1, r2, f0, f1, f2, hzl, hrbut⟩ := Qkt (a' := .bool true) (b' := .int .i64 0) (c' := .slice ag bs.length cg) hrb5
      have hfin := hbw5.trans (hrbut.below (by omega) (fun q hq => by omega))
      have hans2 := Qkm (hBA2.but hrbut (fun q hq e => by omega)) (B' := z) (by omega)
      clear HBO hIB hBA hb5 hrb4 hrb5 hbw4 hBA2
      go_wp2
      refine bodyPost_ret (v := .agg #[.bool true, .int .i64 0, .slice ag bs.length cg]) (by simp [results, Tryz.results20, go_sem, r0, r1, r2]) rfl ?_
      exact ⟨true, 0, ag, bs.length, cg, bs, rfl, rfl, HRES.out, by rw [hz]; exact hans2, by rw [hz]; exact hfin⟩
end Go.Proofs.YtoiiibplkhedcaaGreatDoor

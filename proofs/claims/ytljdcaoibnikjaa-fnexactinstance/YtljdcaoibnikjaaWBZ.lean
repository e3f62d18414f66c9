import Derived.Test.YtljdcaoibnikjaaProg
import Derived.Test.YtljdcaoibnikjaaWAA
import Derived.ProofKit
import Derived.Deep.Slices
import Derived.Test.YtljdcaoibnikjaaNZ
import Derived.Test.YtljdcaoibnikjaaNQ
import Derived.Test.YtljdcaoibnikjaaWBF
import Derived.Test.YtljdcaoibnikjaaIType
namespace Go.Proofs.Ytljdcaoibnikjaa

open Go.ChangeShapes Go.WideShapes Go.ChangeAt Go.RowKit Go.Deep

theorem Try.cells46 : Try.prog.cellsOf 46 = 5 := by kernel_rfl
theorem Try.cells3 : Try.prog.cellsOf 3 = 1 := by kernel_rfl
theorem Try.cells2 : Try.prog.cellsOf 2 = 1 := by kernel_rfl
theorem Try.cells9 : Try.prog.cellsOf 9 = 1 := by kernel_rfl

end Go.Proofs.Ytljdcaoibnikjaa

namespace Go.Proofs.Ytljdcaoibnikjaa

open Go.RowKit Go.Maps

theorem sat_heads {X : Nat → Prop} {g : Nat → GC} {lk : Nat → Option Nat} {d : Nat → Nat} (ha : Acyc lk d) : ∃ θ, SatC X g lk θ := by
  have hk : ∀ i, ∃ r, Hd lk i r := fun i => ha.head _ i (Nat.lt_succ_self _)
  obtain ⟨hd, hhd⟩ := Classical.axiomOfChoice hk
  exact ⟨_, sat_val (hd := hd) (fun i j e => (hhd i).fun (Hd.step e (hhd j))) (fun i e => (hhd i).fun (Hd.root e))⟩

theorem fill_lenP {ρ : Int → List Nd} {g t : List Nd} (h : fill ρ g = t) {x : Int} (hx : x ∈ metas g) : (ρ x).length ≤ t.length := by
  obtain ⟨y, hy, rfl⟩ := List.mem_map.1 hx
  obtain ⟨h1, h2⟩ := List.mem_filter.1 hy
  rw [← h]
  have e : fillN ρ y = ρ y.num := by unfold fillN; simp at h2; simp [h2]
  have h3 : fillN ρ y ∈ g.map (fillN ρ) := List.mem_map.2 ⟨y, h1, rfl⟩
  rw [← e, fill, List.flatMap_def]
  exact (List.sublist_flatten_of_mem h3).length_le

theorem type_oneI {t : List Nd} (h : typeb t = true) : One t := by
  obtain ⟨S, ys, s, hS, h0, hs, hf, hsp, _⟩ := type_side rfl h
  have h9 := sub_one hS.run (i := t.length - 1) (by omega) hs
  rw [hsp] at h9
  exact h9

theorem inst_okI {g t : List Nd} {U : Int → Option Nat} {ρ : Int → List Nd} {bs : List (Int × List Nd)} (hfill : fill ρ g = t) (hmem : ∀ x, (∃ b, U x = some b) ↔ x ∈ metas g) (hwf : ∀ x ∈ g, (Lit.int .i64 x.num).wf = true) (hone : ∀ x b, U x = some b → One (ρ x))
    (h : IsBinds (fun x => if (Lit.int .i64 x).wf = true then (U x).map (fun _ => ρ x) else none) bs) : InstOk g t bs := by
  obtain ⟨h1, h2, h3⟩ := h
  have hE : ∀ x, x ∈ metas g → (if (Lit.int .i64 x).wf = true then (U x).map (fun _ => ρ x) else none) = some (ρ x) := by
    intro x hx
    obtain ⟨b, hb⟩ := (hmem x).2 hx
    obtain ⟨y, hy, rfl⟩ := List.mem_map.1 hx
    rw [if_pos (hwf y (List.mem_filter.1 hy).1), hb]
    rfl
  have hB : ∀ p ∈ bs, p.1 ∈ metas g ∧ p.2 = ρ p.1 := by
    intro p hp
    have h9 := h2 p hp
    simp only at h9
    by_cases hw : (Lit.int .i64 p.1).wf = true
    · rw [if_pos hw] at h9
      cases hu : U p.1 with
      | none => rw [hu] at h9; cases h9
      | some b =>
        rw [hu] at h9
        simp only [Option.map_some, Option.some.injEq] at h9
        exact ⟨(hmem p.1).1 ⟨b, hu⟩, h9.symm⟩
    · rw [if_neg hw] at h9
      cases h9
  refine ⟨h1, fun x => ⟨fun hx => ?_, fun hx => ?_⟩, fun p hp => ?_, fun θ hθ => ?_⟩
  · obtain ⟨p, hp, rfl⟩ := List.mem_map.1 hx
    exact (hB p hp).1
  · exact h3 x (by simp only; rw [hE x hx]; rfl)
  · obtain ⟨h4, h5⟩ := hB p hp
    obtain ⟨b, hb⟩ := (hmem p.1).2 h4
    rw [h5]
    exact hone _ b hb
  · rw [← hfill]
    refine fill_congr (fun x hx => ?_)
    obtain ⟨p, hp, rfl⟩ := List.mem_map.1 (h3 x (by simp only; rw [hE x hx]; rfl))
    rw [hθ p hp, (hB p hp).2]

theorem below_of_but {S : Nat → Prop} {w0 w w' : World} (h0 : Below w0.heap.size w0 w) (h : But S w w') (hS : ∀ i, S i → w0.heap.size ≤ i) : Below w0.heap.size w0 w' := by
  refine ⟨h.os.trans h0.os, h.tape.trans h0.tape, h.output.trans h0.output, Nat.le_trans h0.size h.size, fun i hi => ?_⟩
  have hz := h0.size
  exact (h.block i (by omega) (fun h9 => by have := hS i h9; omega)).trans (h0.block i hi)

theorem bans_mono {w : World} {B B' : Nat} {ao : Option Addr} {bs : List (Int × List Nd)} (h : BAns w B ao bs) (hB : B' ≤ B) : BAns w B' ao bs := by
  rcases h with h | ⟨g, rs, e, h1, h2, hr⟩
  · exact Or.inl h
  · exact Or.inr ⟨g, rs, e, Nat.le_trans hB h1, fun r hm => Nat.le_trans hB (h2 r hm), hr⟩

set_option maxRecDepth 20000 in
set_option maxHeartbeats 2000000 in
theorem newStore_any (w : World) : Calls Try.prog 27 #[] w fun e w' => ∃ sb mb, e = .returned (.pointer (some ⟨sb, 0, none⟩)) ∧ w.heap.size ≤ sb ∧ w.heap.size ≤ mb ∧ Stor w' sb mb 0 0 (fun _ => False) (fun _ => leafC Nd.zero 0) (fun _ => none) (fun _ => 0) (fun _ => []) (fun _ _ => none) (.map []) ∧ Below w.heap.size w w' := by
  have hmm := @run_makeMap Try.prog
  go_enter Try.func27, Try.ntmps27
  go_wp2
  go_ret
  have hb : Below w.heap.size w ((w.alloc (.map #[] 0)).alloc (.cells #[.map (some w.heap.size), .int .i64 0, .int .i64 0, .int .i64 0, .int .i64 0, .slice none 0 0] 80)) := ((Below.refl _ w).alloc (Nat.le_refl _) _).alloc (by simp) _
  have k1 : ((w.alloc (.map #[] 0)).alloc (.cells #[.map (some w.heap.size), .int .i64 0, .int .i64 0, .int .i64 0, .int .i64 0, .slice none 0 0] 80)).heap[w.heap.size + 1]? = some (.cells #[.map (some w.heap.size), .int .i64 0, .int .i64 0, .int .i64 0, .int .i64 0, .slice none 0 0] 80 (0, 0)) := by
    have h9 := heap_alloc_new (w.alloc (.map #[] 0)) (.cells #[.map (some w.heap.size), .int .i64 0, .int .i64 0, .int .i64 0, .int .i64 0, .slice none 0 0] 80)
    simpa using h9
  refine ⟨w.heap.size + 1, w.heap.size, rfl, by omega, Nat.le_refl _, ⟨⟨⟨fun b h => h.elim, fun _ _ e => (by cases e)⟩, fun _ _ e => (by cases e), fun b h => h.elim, fun b h => h.elim, fun b h => h.elim, fun b h => h.elim, fun b h => h.elim⟩, ?_, ?_, fun h => h, (World.ownsMap_made w Try.prog 101 heldP).alloc _, UD.start, fun _ _ _ e => (by cases e), rfl⟩, hb⟩
  · rw [cell_of_row _ _ _ _ 80 (0, 0) k1]; rfl
  · rw [cell_of_row _ _ _ _ 80 (0, 0) k1]; rfl

theorem uniq_meta {t : List Nd} (h : t.all Nd.plainb = true) : ∀ a ∈ t, ∀ b ∈ t, a.kind = 61 → b.kind = 61 → a.num = b.num → a = b := by
  intro a ha b hb h1 h2 e
  have h9 := List.all_eq_true.1 h
  rw [plain_metaQ (h9 a ha) h1, plain_metaQ (h9 b hb) h2, e]

set_option maxRecDepth 20000 in
set_option maxHeartbeats 8000000 in
theorem implInst_any (g t : List Nd) (mg mt : Nat) (HMG : Hid (g.length = mg)) (HMT : Hid (t.length = mt)) (hmg : mg ≤ 1048576) (hmt : mt ≤ 1048576) (HWG : Hid (∀ x ∈ g, (Lit.int .i64 x.num).wf = true)) (HWT : Hid (∀ x ∈ t, (Lit.int .i64 x.num).wf = true)) (ga ta : Option Addr) (ca cb : Nat) (w : World) (hG : Nodes w ga g) (hT : Nodes w ta t) :
    Calls Try.prog 8 #[.slice ga mg ca, .slice ta mt cb] w fun e w' => ∃ ag cg bs b, e = .returned (.tuple #[.slice ag bs.length cg, .bool b]) ∧ InstRes g t bs b ∧ BAns w' w.heap.size ag bs ∧ Below w.heap.size w w' := by
  go_enter Try.func8, Try.ntmps8
  go_wp2_with fail
  refine (iIsType_any g mg HMG hmg _ _ _ hG).mono ?_
  rintro e w1 ⟨rfl, hb1⟩
  cases htg : typeb g
  · have HR : Hid (InstRes g t [] false) := ⟨(fun h => by cases h), fun _ => ⟨rfl, .inl htg⟩⟩
    clear hG hT
    go_wp2
    go_ret2
    exact ⟨_, _, [], false, rfl, HR.out, .inl rfl, hb1.alloc hb1.size _⟩
  · go_wp2_with fail
    refine (iIsType_any t mt HMT hmt _ _ _ (hT.below hb1)).mono ?_
    rintro e w2 ⟨rfl, hb2⟩
    have hb2 := Below.step hb1 hb2
    clear hb1
    cases htt : typeb t
    · have HR : Hid (InstRes g t [] false) := ⟨(fun h => by cases h), fun _ => ⟨rfl, .inr (.inl htt)⟩⟩
      clear hG hT
      go_wp2
      go_ret2
      exact ⟨_, _, [], false, rfl, HR.out, .inl rfl, hb2.alloc hb2.size _⟩
    · obtain ⟨Sg, yg, xg, hSg, h0g, _⟩ := type_side HMG.out htg
      obtain ⟨St, yt, xt, hSt, h0t, _⟩ := type_side HMT.out htt
      have hg3 := hSg.m300
      have ht3 := hSt.m300
      have HG1 : Hid (Sg.length = 1) := by
        have h1 := after_wt hSg.run
        rw [List.take_of_length_le (by have := HMG.out; omega), (type_oneI htg).wt] at h1
        rw [Hid]
        omega
      have HT1 : Hid (St.length = 1) := by
        have h1 := after_wt hSt.run
        rw [List.take_of_length_le (by have := HMT.out; omega), (type_oneI htt).wt] at h1
        rw [Hid]
        omega
      have HGR : Hid (after g mg = some (Sg, yg)) := hSg.run
      have HTR : Hid (after t mt = some (St, yt)) := hSt.run
      have HLG : Hid (Leafy g) := plain_leafy hSg.plain
      have HLT : Hid (Leafy t) := plain_leafy hSt.plain
      have HUG : Hid (∀ a ∈ g, ∀ b ∈ g, a.kind = 61 → b.kind = 61 → a.num = b.num → a = b) := uniq_meta hSg.plain
      have HUT : Hid (∀ a ∈ t, ∀ b ∈ t, a.kind = 61 → b.kind = 61 → a.num = b.num → a = b) := uniq_meta hSt.plain
      have HPT : Hid (t.all Nd.plainb = true) := hSt.plain
      have HTY : Hid (typeb g = true ∧ typeb t = true) := ⟨htg, htt⟩
      have HG : Hid (Nodes w ga g) := hG
      have HT : Hid (Nodes w ta t) := hT
      clear hSg hSt htg htt hG hT
      go_wp2_with fail
      refine (newStore_any w2).mono ?_
      rintro e w3 ⟨sb, mb, rfl, hsb, hmb, hst3, hb3⟩
      have hz2 := hb2.size
      have hb3 := Below.step hb2 hb3
      have hz3 := hb3.size
      have HS3 : Hid (Stor w3 sb mb 0 0 (fun _ => False) (fun _ => leafC Nd.zero 0) (fun _ => none) (fun _ => 0) (fun _ => []) (fun _ _ => none) (.map [])) := hst3
      clear hst3 hb2
      go_wp2_with fail
      refine (take_any w3 sb mb 0 (by omega) 0 1 (fun _ => True) (fun _ => False) (fun _ => leafC Nd.zero 0) (fun _ => none) (fun _ => 0) (fun _ => []) (fun _ _ => none) (.map []) HS3.out (by decide) (.inr rfl) g mg HMG hg3 h0g HWG HLG HUG Sg yg HGR HG1.out (fun _ _ h => by omega) 0 [] ⟨fun _ h => h.elim, Nat.le_refl _⟩ ga ca (HG.out.below hb3)).mono ?_
      rintro e w4 ⟨b1, n1, X1, f1, K1, U1, D1, rt1, rfl, T1⟩
      have hb4 : Below w.heap.size w w4 := below_of_but hb3 T1.old (fun i h => by omega)
      have hn1 : n1 ≤ 300 := by have := T1.num; have := HMG.out; omega
      have HT1' : Hid (Taken w3 w4 sb mb 0 0 1 (fun _ => True) (fun _ => False) (fun _ => leafC Nd.zero 0) (fun _ => none) (fun _ => 0) (fun _ => []) (fun _ _ => none) 0 g b1 n1 X1 f1 K1 U1 D1 rt1) := T1
      clear T1
      go_wp2_with fail
      refine (take_any w4 sb mb n1 (by omega) 0 0 (fun ρ => ∀ n ∈ t, n.kind = 61 → ρ n.num = selfT n) X1 f1 (fun _ => none) (fun _ => 0) K1 U1 D1 HT1'.out.stor (by decide) (.inl rfl) t mt HMT ht3 h0t HWT HLT HUT St yt HTR HT1.out (fun ρ h _ => h) mg rt1 ⟨HT1'.out.roots.1, by have := HT1'.out.roots.2; have := HMG.out; omega⟩ ta cb (HT.out.below hb4)).mono ?_
      rintro e w5 ⟨b2, n2, X2, f2, K2, U2, D2, rt2, rfl, T2⟩
      have hb5 : Below w.heap.size w w5 := below_of_but hb4 T2.old (fun i h => by omega)
      have hn2 : n2 ≤ 600 := by have := T2.num; have := HMT.out; omega
      have HX2 : Hid (∀ i, X2 i → w.heap.size ≤ i) := by
        intro i hi
        rcases T2.fresh i hi with h | h
        · rcases HT1'.out.fresh i h with h | h
          · exact h.elim
          · omega
        · have := hb4.size
          omega
      have HEQ := equate_any X2 f2 (fun _ => none) (fun _ => 0) K2 w5 b1 b2 rt2 T2.stor.sto (fun i hi _ => T2.roots.1 i hi) (by have := T2.roots.2; have := HMT.out; omega) (T2.grow.sub _ HT1'.out.inX) T2.inX sb 0 T2.stor.sX T2.stor.s1
      have HT2' : Hid (Taken w4 w5 sb mb n1 0 0 (fun ρ => ∀ n ∈ t, n.kind = 61 → ρ n.num = selfT n) X1 f1 (fun _ => none) (fun _ => 0) K1 U1 mg t b2 n2 X2 f2 K2 U2 D2 rt2) := T2
      clear T2
      go_wp2_with fail
      refine HEQ.mono ?_
      rintro e w6 ⟨hB6, hres⟩
      have hb6 := below_of_but hb5 hB6 HX2.out
      clear HEQ
      rcases hres with ⟨rfl, f', lk', d', hS6, _, hE⟩ | ⟨⟨v, rfl⟩, _, hno⟩
      · obtain ⟨θ, hs⟩ := sat_heads (X := X2) (g := gcv K2 f') hS6.acyc
        obtain ⟨ρ, h1, h2, h3⟩ := inst_good HT1'.out HT2'.out hE hs
        have HRR : Hid (∀ x b, U2 1 x = some b → Ev selfT (ρ x) (θ b) ∧ (ρ x).length ≤ 300) := fun x b e => ⟨h1 x b e, by have := fill_lenP h2 ((h3 x).1 ⟨b, e⟩); have := HMT.out; omega⟩
        have HF := found_any X2 f' lk' d' K2 θ w6 sb mb n2 (by omega) U2 D2 hS6 hs ((hB6.cellB (lt_of_cell HT2'.out.stor.s0) HT2'.out.stor.sX).trans HT2'.out.stor.s0) (ownsMap_but HT2'.out.stor.map hB6 HT2'.out.stor.mX) HT2'.out.stor.ud HT2'.out.stor.inX ρ HRR
        have HOK : Hid (∀ bs, IsBinds (fun x => if (Lit.int .i64 x).wf = true then (U2 1 x).map (fun _ => ρ x) else none) bs → InstRes g t bs true) := fun bs hIB => ⟨fun _ => ⟨HTY.out.1, HTY.out.2, inst_okI h2 h3 HWG.out (fun x b e => (h1 x b e).one) hIB⟩, fun h => by cases h⟩
        clear hB6 hS6 hE hs h1 h2 h3 HRR HT1' HT2' HS3 hb3 hb4 hb5
        go_wp2_with fail
        refine HF.mono ?_
        rintro e w7 ⟨tb, k, hk, rfl, hRw, hB7⟩
        have hb7 := below_of_but hb6 hB7 HX2.out
        have HBO := bindsOf_any _ w6.heap.size tb k (by omega) w7 hRw hB7.size
        have hz6 := hb6.size
        clear HF hRw hB7
        go_wp2_with fail
        refine HBO.mono ?_
        rintro e w8 ⟨ag, cg, bs, rfl, hIB, hBA, hb8⟩
        have HR : Hid (InstRes g t bs true) := HOK.out bs hIB
        have hbf := Below.step hb7 hb8
        have hBA2 := bans_mono hBA hz6
        clear HBO hIB hBA hb8 hb7 hb6
        go_wp2
        go_ret2
        exact ⟨_, _, bs, true, rfl, HR.out, hBA2, hbf⟩
      · have HR : Hid (InstRes g t [] false) := ⟨(fun h => by cases h), fun _ => ⟨rfl, .inr (.inr (inst_bad HT1'.out HT2'.out (fun _ => trivial) ⟨fun x => selfT (metaNd x), fun n hn h61 => congrArg selfT (plain_metaQ (List.all_eq_true.1 HPT.out n hn) h61).symm⟩ hno))⟩⟩
        clear hB6 hno HT1' HT2' HS3 hb3 hb4 hb5
        go_wp2
        go_ret2
        exact ⟨_, _, [], false, rfl, HR.out, .inl rfl, hb6.alloc hb6.size _⟩

end Go.Proofs.Ytljdcaoibnikjaa

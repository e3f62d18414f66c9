import Derived.Test.YtoiiibplkhedcaaGreatDoorWAT
set_option maxRecDepth 20000
set_option maxHeartbeats 4000000
namespace Go.Proofs.YtoiiibplkhedcaaGreatDoor
open Go.RowKit Go.Maps
theorem Tryz.infoCP : (Tryz.prog.info? 64).map (fun i => (i.zero, i.size, i.bytes)) = some (some (.pointer none), 1, 8) := by kernel_rfl
def ptrs (bs : List Nat) : List Value := bs.map fun b => .pointer (some ⟨b, 0, none⟩)
theorem Qry (bs : List Nat) : ∀ u ∈ ptrs bs, u.oneCell' = true := by
  intro u hu
  obtain ⟨b, _, rfl⟩ := List.mem_map.1 hu
  rfl
theorem Quf (bs : List Nat) (m : Nat) (HM : Hid (bs.length = m)) (hm : m ≤ 1048576) (ad : Addr) (cap : Nat) (w : World) (hx : ∀ j u, (ptrs bs)[j]? = some u → w.cell? (ad.add j) = some u) :
    Calls Tryz.prog 64 #[.slice (some ad) m cap] w fun e w' => ∃ g c cur, e = .returned (.slice (some ⟨g, 0, none⟩) m c) ∧ w.heap.size ≤ g ∧ w'.heap[g]? = some (.cells cur 64 (0, 0)) ∧ (∀ i (h : i < bs.length), cur[i]? = some (.pointer (some ⟨bs[i], 0, none⟩))) ∧ Below w.heap.size w w' ∧ m ≤ c := by
  obtain ⟨i0, hi, hz0, hz1, hz2⟩ := info_parts Tryz.infoCP
  have hO : (w.alloc (.cells #[] 64)).ownsRow w.heap.size 64 1 (.slice (some ⟨w.heap.size, 0, none⟩) 0 0) 0 [] := ⟨rfl, Or.inr ⟨_, 0, #[], rfl, Nat.le_refl _, heap_alloc_new _ _, Nat.le_refl _, by simp [maxLen], rfl, rfl⟩⟩
  have hnil : ∀ (w : World), (binOp .eql 116 (.slice (some ad) m cap) (.slice none 0 0)).run Tryz.prog w = .ok (.bool false) w := fun w => Lib.run_eql_slice_nil w _ _ (some ad) m cap 0 0 Tryz.underlying116
  have hn : ∀ j u, (ptrs bs)[j]? = some u → (w.alloc (.cells #[] 64)).cell? (ad.add j) = some u := by
    intro j u hj
    have h9 := hx j u hj
    have hl : (ad.add j).block < w.heap.size := by
      rcases h8 : ad.add j with ⟨b, o, sp⟩
      rw [h8] at h9
      have hsp : sp = none := World.cell?_spot h9
      subst hsp
      exact Qaa h9
    rw [← h9]
    exact ((Below.refl w.heap.size w).alloc (Nat.le_refl _) _).cell hl
  go_enter Tryz.func64, Tryz.ntmps64
  clear hx
  go_wp2_with (at_builtin; refine Qac _ rfl (.tmp 5) (.tmp 6) 116 rfl w.heap.size 64 i0 _ 1 8 Tryz.underlying116 hi hz0 hz1 hz2 rfl (by decide) w.heap.size 0 0 _ rfl hO ad m cap (ptrs bs) rfl ?a1 hn (Qry bs) ?a3 ?a4 ?a5 ?_)
  case a1 => rw [ptrs, List.length_map, HM.out]; omega
  case a3 => unfold maxLen; omega
  case a4 => omega
  case a5 => simp
  intro g2 c2 w2 hown2 hgrow2 hwh
  have hbb : Below w.heap.size w w2 := ((Below.refl _ w).alloc (Nat.le_refl _) _).grown hgrow2 (by simp) (fun q hq => by cases hq; exact Nat.le_refl _)
  have hfin : w.heap.size ≤ g2 ∧ ∃ cur, w2.heap[g2]? = some (.cells cur 64 (0, 0)) ∧ ∀ i (h : i < bs.length), cur[i]? = some (.pointer (some ⟨bs[i], 0, none⟩)) := by
    rcases hown2.2 with ⟨h', _⟩ | ⟨g3, cap3, cur, he, hb, hh, hnc, _, _, htake⟩
    · cases h'
    · simp only [Value.slice.injEq, Option.some.injEq, Addr.mk.injEq, and_true, true_and] at he
      obtain ⟨rfl, rfl⟩ := he
      refine ⟨hb, cur, hh, fun i hi => ?_⟩
      have e9 : (cur.toList.take (m * 1))[i]? = some (.pointer (some ⟨bs[i], 0, none⟩)) := by
        rw [htake]
        simp [ptrs, hi]
      rw [List.getElem?_take_of_lt (by have := HM.out; omega)] at e9
      simpa using e9
  have hcc : m ≤ c2 := by
    rcases hown2.2 with ⟨h', _⟩ | ⟨g3, cap3, cur, he, _, _, hnc, _⟩
    · cases h'
    · simp only [Value.slice.injEq, Option.some.injEq, Addr.mk.injEq, and_true, true_and] at he
      omega
  clear hown2 hgrow2 hwh hO hn
  obtain ⟨hg, cur, hcur, hall⟩ := hfin
  have hmc : m ≤ c2 := hcc
  have HC : Hid (∀ i (h : i < bs.length), cur[i]? = some (.pointer (some ⟨bs[i], 0, none⟩))) := hall
  clear hall
  go_wp2
  go_ret
  exact ⟨_, _, cur, rfl, hg, hcur, HC.out, hbb, hmc⟩
def Qhc (nd : Nd) (ks : Option Addr × Nat × Nat) : CC := ⟨0, nd, ks, 0, 0, 0, none, 0, 0⟩
structure TBox (w : World) (sx lx sb : Nat) (lv : Int) : Prop where
  s : w.heap[sx]? = some (.cells #[.pointer (some ⟨sb, 0, none⟩)] 59 (0, 0))
  l : w.heap[lx]? = some (.cells #[.int .i64 lv] 3 (0, 0))
def TRes (w : World) (sb mb n : Nat) (t lv : Int) (ok : (Int → DT) → Prop) (X : Nat → Prop) (f : Nat → CC) (lk : Nat → Option Nat) (d : Nat → Nat) (K : (Option Addr × Nat × Nat) → List Nat) (U : Int → Int → Option Nat) (nd : Nd) (bs : List Nat) (e : Ending) (w' : World) : Prop :=
  ∃ (b n' : Nat) (X' : Nat → Prop) (f' : Nat → CC) (K' : (Option Addr × Nat × Nat) → List Nat) (U' : Int → Int → Option Nat) (D' : DataW Value), e = .returned (.pointer (some ⟨b, 0, none⟩)) ∧ n' ≤ n + 1 ∧ Stor w' sb mb n' t X' f' lk d K' U' D' ∧ Grow lv ok X f lk K U X' f' lk K' U' ∧ X' b ∧ (∀ i, X' i → X i ∨ i = b) ∧ But (· = mb) w w' ∧
    (nd.kind = 61 → U' lv nd.num = some b) ∧ (nd.kind ≠ 61 → gc K' f' b = ⟨nd, bs, false⟩ ∧ lk b = none) ∧ (∀ i, X i → (f' i).ks = (f i).ks) ∧ (X b ∨ ∀ g, g < w.heap.size → K' (f' b).ks = [] ∨ (f' b).ks.1 ≠ some ⟨g, 0, none⟩) ∧
    (nd.kind = 61 → U lv nd.num = none → gc K' f' b = ⟨nd, [], decide (1 ≤ lv)⟩ ∧ lk b = none) ∧ (∀ x c, U' lv x = some c → U lv x = some c ∨ (nd.kind = 61 ∧ x = nd.num)) ∧ (X b ∨ w.heap.size ≤ b)
theorem Qss (w : World) (sb mb n : Nat) (hn : n ≤ 1000000) (t lv : Int) (ok : (Int → DT) → Prop) (X : Nat → Prop) (f : Nat → CC) (lk : Nat → Option Nat) (d : Nat → Nat) (K : (Option Addr × Nat × Nat) → List Nat) (U : Int → Int → Option Nat) (D : DataW Value) (hS : Stor w sb mb n t X f lk d K U D) (sx lx : Nat) (hT : TBox w sx lx sb lv) (nd : Nd) (w1 : (Lit.int .i64 lv).wf = true) (hlv : lv ≤ 1) (w2 : (Lit.int .i64 nd.num).wf = true) (h61 : nd.kind = 61) (h0 : nd.kids = 0) (hok : ∀ ρ, ok ρ → lv = 0 → ρ nd.num = Qbh nd) (hlv0 : lv = 0 ∨ lv = 1) (bs : List Nat) (so : Option Addr) (m c : Nat) :
    Calls Tryz.prog 62 #[.agg #[.int .i64 nd.kind, .int .i64 nd.num, .string nd.text, .int .i64 nd.kids, .int .i64 nd.place], .slice so m c, .pointer (some ⟨sx, 0, none⟩), .pointer (some ⟨lx, 0, none⟩)] w fun e w' => TRes w sb mb n t lv ok X f lk d K U nd bs e w' := by
  have q0 : w.cell? ⟨sx, 0, none⟩ = some (.pointer (some ⟨sb, 0, none⟩)) := by rw [cell_of_row _ _ _ _ 59 (0, 0) hT.s]; rfl
  have q1 : w.cell? ⟨lx, 0, none⟩ = some (.int .i64 lv) := by rw [cell_of_row _ _ _ _ 3 (0, 0) hT.l]; rfl
  have l0 := Qaa q0
  have l1 := Qaa q1
  have hbA : Below w.heap.size w (w.alloc (.cells #[.int .i64 nd.kind, .int .i64 nd.num, .string nd.text, .int .i64 nd.kids, .int .i64 nd.place] 43)) := (Below.refl _ w).alloc (Nat.le_refl _) _
  have hSA := hS.below hbA
  have HU : Hid (∀ W, W = (w.alloc (.cells #[.int .i64 nd.kind, .int .i64 nd.num, .string nd.text, .int .i64 nd.kids, .int .i64 nd.place] 43)) → Calls Tryz.prog 63 #[.pointer (some ⟨sb, 0, none⟩), .agg #[.int .i64 nd.kind, .int .i64 nd.num, .string nd.text, .int .i64 nd.kids, .int .i64 nd.place], .int .i64 lv] W fun e w' => TRes w sb mb n t lv ok X f lk d K U nd bs e w') := by
    rintro W rfl
    cases hU : U lv nd.num with
    | some b =>
      refine (Qpz _ sb mb n t X f lk d K U D hSA nd lv w1 w2 b hU).mono ?_
      rintro e w' ⟨rfl, hb⟩
      exact ⟨b, n, X, f, K, U, D, rfl, by omega, hSA.below hb, Grow.refl hS.sto.cells.link, hS.inX lv nd.num b hU, fun i hi => .inl hi, (But.ofBelow hbA).trans (But.ofBelow hb), fun _ => hU, fun h => absurd h61 h, fun _ _ => rfl, .inl (hS.inX lv nd.num b hU), fun _ h => (by rw [hU] at h; cases h), fun _ _ h => .inl h, .inl (hS.inX lv nd.num b hU)⟩
    | none =>
      refine (Qqa _ sb mb n hn t X f lk d K U D hSA nd lv w1 w2 hU).mono ?_
      rintro e w' ⟨b, hbz, rfl, hat, hown, hBm⟩
      have hbX : ¬ X b := fun h => by have h9 := (hSA.sto.cells.at' b h).lt; omega
      have hmX := hS.mX
      have hlkb : lk b = none := by
        cases e : lk b with
        | none => rfl
        | some j => exact absurd (hS.sto.cells.link b j e).1 hbX
      have hsb : sb < w.heap.size := Qaa hS.s0
      have hzA : w.heap.size ≤ (w.alloc (.cells #[.int .i64 nd.kind, .int .i64 nd.num, .string nd.text, .int .i64 nd.kids, .int .i64 nd.place] 43)).heap.size := hbA.size
      have hsm : sb ≠ mb := by
        rintro rfl
        obtain ⟨es, clock, h1, _⟩ := hS.map
        have s0 := hS.s0
        rw [World.cell?] at s0
        simp [h1] at s0
      have hC := hSA.sto.cells.but hBm (fun i hi e => hmX (e ▸ hi))
      have hKb : K (none, 0, 0) = [] := hS.nil
      have hf : ∀ i, X i → (if i = b then Qdd nd lv else f i) = f i := fun i hi => if_neg (fun e : i = b => hbX (e ▸ hi))
      have hgc : ∀ i, X i → gc K (fun i => if i = b then Qdd nd lv else f i) i = gc K f i := fun i hi => by simp only [gc, hf i hi]
      have hkm : ∀ cur, (w.alloc (.cells #[.int .i64 nd.kind, .int .i64 nd.num, .string nd.text, .int .i64 nd.kids, .int .i64 nd.place] 43)).heap[mb]? ≠ some (.cells cur 64 (0, 0)) := by
        obtain ⟨es, clock, h1, _⟩ := hSA.map
        intro cur h9
        rw [h1] at h9
        cases h9
      have hS2 := hSA.sto.aside hBm hmX hkm
      have hgb : gc K (fun i => if i = b then Qdd nd lv else f i) b = ⟨nd, [], (Qdd nd lv).open?⟩ := by
        simp only [gc, if_true, Qdd]
        rw [hKb]
      have hU2 : ∀ l y, (fun l y => if l = lv ∧ y = nd.num then some b else U l y) l y = if l = lv ∧ y = nd.num then some b else U l y := fun _ _ => rfl
      refine ⟨b, n + 1, (fun i => X i ∨ i = b), (fun i => if i = b then Qdd nd lv else f i), K, (fun l y => if l = lv ∧ y = nd.num then some b else U l y), _, rfl, Nat.le_refl _, ⟨⟨⟨fun i hi => ?_, fun i j e => ⟨.inl (hC.link i j e).1, .inl (hC.link i j e).2⟩⟩, hS2.acyc, fun i hi => ?_, fun i hi => ?_, fun i hi => ?_, fun i hi => ?_, fun i hi => ?_⟩, ?_, ?_, ?_, hown, hSA.ud.put w1 w2 hU2, ?_, hKb⟩, ?_, .inr rfl, fun i hi => hi, (But.ofBelow hbA).trans hBm, fun _ => by simp, fun h => absurd h61 h, fun i hi => congrArg CC.ks (hf i hi), .inr (fun g _ => .inl (by simp [Qdd, hKb])), fun _ _ => ⟨by rw [hgb]; simp only [Qdd, CC.open?, h61, GC.mk.injEq, true_and, beq_self_eq_true, Bool.true_and]; exact decide_eq_decide.2 Iff.rfl, hlkb⟩, fun x c h => ?_, .inr (by omega)⟩
      · rcases hi with hi | rfl
        · rw [hf i hi]; exact hC.at' i hi
        · rw [if_pos rfl, hlkb]; exact hat
      · rcases hi with hi | rfl
        · rw [hf i hi]
          obtain ⟨r1, r2⟩ := hS2.rows i hi
          refine ⟨r1, ?_⟩
          rcases r2 with e | ⟨g, cur, a1, a2, a3, a4, a5⟩
          · exact .inl e
          · refine .inr ⟨g, cur, a1, ?_, a3, a4, a5⟩
            rintro (h9 | rfl)
            · exact a2 h9
            · unfold CellAt at hat
              rw [hat] at a4
              simp at a4
        · rw [if_pos rfl]
          refine ⟨⟨?_, ?_, ?_⟩, .inl ?_⟩
          · simp only [Qdd]; rw [hKb]; rfl
          · simp only [Qdd]; rw [hKb]; simp
          · simp only [Qdd]; rw [hKb]; simp
          · simp only [Qdd]; exact hKb
      · rcases hi with hi | rfl
        · rw [hf i hi]; exact fun k hk => .inl (hS2.inX i hi k hk)
        · rw [if_pos rfl]; simp only [Qdd]; rw [hKb]; simp
      · rcases hi with hi | rfl
        · rw [hf i hi]; exact hS2.arity i hi
        · rw [if_pos rfl]; simp only [Qdd]; rw [hKb, h0]; rfl
      · rcases hi with hi | rfl
        · rw [hf i hi]; exact hS2.met i hi
        · rw [if_pos rfl]; simp only [Qdd]; exact fun _ => hKb
      · rcases hi with hi | rfl
        · rw [hf i hi]; exact hS2.low i hi
        · rw [if_pos rfl]; exact hlv
      · exact (hBm.cellB (by omega) hsm).trans hSA.s0
      · exact (hBm.cellB (by omega) hsm).trans hSA.s1
      · rintro (h | rfl)
        · exact hS.sX h
        · omega
      · intro l y c e
        by_cases h9 : l = lv ∧ y = nd.num
        · simp only [h9, and_self, if_true, Option.some.injEq] at e
          exact .inr e.symm
        · simp only [h9, if_false] at e
          exact .inl (hS.inX l y c e)
      · refine Qxf hbX hS.sto.cells.link hgc (fun i hi k hk => hS.sto.inX i hi k hk) hU2 hU (by rw [hgb]) (fun ρ hρ ho => ?_) hf (by rw [if_pos rfl]; exact ⟨rfl, rfl, rfl, fun _ => rfl⟩) (by rw [if_pos rfl]; exact ⟨h61, rfl⟩)
        rw [hgb] at ho ⊢
        simp only at ho ⊢
        have hl0 : lv = 0 := by
          rcases hlv0 with h | h
          · exact h
          · simp [Qdd, CC.open?, h61, h] at ho
        exact hok ρ hρ hl0
      · by_cases h9 : x = nd.num
        · exact .inr ⟨h61, h9⟩
        · simp only [h9, and_false, if_false] at h
          exact .inl h
  have HU2 := HU.out _ rfl
  rw [h61, h0] at HU2
  clear hS hSA hT HU hbA
  go_enter Tryz.func62, Tryz.ntmps62
  go_wp2_with fail
  refine HU2.mono ?_
  rintro e w4 hres
  obtain ⟨b, n', X', f', K', U', D', rfl, hres⟩ := hres
  have HR : Hid (TRes w sb mb n t lv ok X f lk d K U nd bs (.returned (.pointer (some ⟨b, 0, none⟩))) w4) := ⟨b, n', X', f', K', U', D', rfl, hres⟩
  clear hres HU2
  go_wp2
  go_ret
  exact HR.out
theorem Quw {w w2 : World} {sb mb n : Nat} {t lv : Int} {ok : (Int → DT) → Prop} {X : Nat → Prop} {f : Nat → CC} {lk : Nat → Option Nat} {d : Nat → Nat} {K : (Option Addr × Nat × Nat) → List Nat} {U : Int → Int → Option Nat} {D : DataW Value} (hS : Stor w sb mb n t X f lk d K U D) {nd : Nd} (h61 : nd.kind ≠ 61) {bs : List Nat} {m c2 g : Nat} {cur : Array Value} (HM : bs.length = m) (hm : m ≤ 20000) (hk : nd.kids = (m : Int)) (hbs : ∀ b ∈ bs, X b) (hb2 : Below w.heap.size w w2) (hg : w.heap.size ≤ g) (hcur : w2.heap[g]? = some (.cells cur 64 (0, 0))) (hall : ∀ i (h : i < bs.length), cur[i]? = some (.pointer (some ⟨bs[i], 0, none⟩))) (hmc : m ≤ c2) :
    TRes w sb mb n t lv ok X f lk d K U nd bs (.returned (.pointer (some ⟨w2.heap.size, 0, none⟩))) (w2.alloc (.cells #[.int .i64 0, .int .i64 nd.kind, .int .i64 nd.num, .string nd.text, .int .i64 nd.kids, .int .i64 nd.place, .slice (some ⟨g, 0, none⟩) m c2, .int .i64 0, .int .i64 0, .pointer none, .int .i64 0, .pointer none, .int .i64 0, .int .i64 0] 120)) := by
  have hbb : Below w.heap.size w (w2.alloc (.cells #[.int .i64 0, .int .i64 nd.kind, .int .i64 nd.num, .string nd.text, .int .i64 nd.kids, .int .i64 nd.place, .slice (some ⟨g, 0, none⟩) m c2, .int .i64 0, .int .i64 0, .pointer none, .int .i64 0, .pointer none, .int .i64 0, .int .i64 0] 120)) := hb2.alloc hb2.size _
  have hS2 := hS.below hbb
  have hat : CellAt (w2.alloc (.cells #[.int .i64 0, .int .i64 nd.kind, .int .i64 nd.num, .string nd.text, .int .i64 nd.kids, .int .i64 nd.place, .slice (some ⟨g, 0, none⟩) m c2, .int .i64 0, .int .i64 0, .pointer none, .int .i64 0, .pointer none, .int .i64 0, .int .i64 0] 120)) w2.heap.size (Qhc nd (some ⟨g, 0, none⟩, m, c2)) none := heap_alloc_new _ _
  have hz : (w2.alloc (.cells #[.int .i64 0, .int .i64 nd.kind, .int .i64 nd.num, .string nd.text, .int .i64 nd.kids, .int .i64 nd.place, .slice (some ⟨g, 0, none⟩) m c2, .int .i64 0, .int .i64 0, .pointer none, .int .i64 0, .pointer none, .int .i64 0, .int .i64 0] 120)).heap.size = w2.heap.size + 1 := World.size_alloc _ _
  have hgl : g < w2.heap.size := (Array.getElem?_eq_some_iff.1 hcur).1
  have hcur2 : (w2.alloc (.cells #[.int .i64 0, .int .i64 nd.kind, .int .i64 nd.num, .string nd.text, .int .i64 nd.kids, .int .i64 nd.place, .slice (some ⟨g, 0, none⟩) m c2, .int .i64 0, .int .i64 0, .pointer none, .int .i64 0, .pointer none, .int .i64 0, .int .i64 0] 120)).heap[g]? = some (.cells cur 64 (0, 0)) := (heap_alloc_old _ _ hgl).trans hcur
  have hlX : ∀ i, X i → i < w.heap.size := fun i hi => (hS.sto.cells.at' i hi).lt
  have hs2 := hb2.size
  obtain ⟨b, hb⟩ : ∃ b, w2.heap.size = b := ⟨_, rfl⟩
  rw [hb] at hat hz hgl hs2 ⊢
  generalize w2.alloc (.cells #[.int .i64 0, .int .i64 nd.kind, .int .i64 nd.num, .string nd.text, .int .i64 nd.kids, .int .i64 nd.place, .slice (some ⟨g, 0, none⟩) m c2, .int .i64 0, .int .i64 0, .pointer none, .int .i64 0, .pointer none, .int .i64 0, .int .i64 0] 120) = w3 at *
  have hbX : ¬ X b := fun h => by have := hlX b h; omega
  have hgX : ¬ X g := fun h => by have := hlX g h; omega
  have hlkb : lk b = none := by
    cases e : lk b with
    | none => rfl
    | some j => exact absurd (hS.sto.cells.link b j e).1 hbX
  obtain ⟨K', hK'⟩ : ∃ K' : (Option Addr × Nat × Nat) → List Nat, K' = fun s => if s = (some ⟨g, 0, none⟩, m, c2) then bs else K s := ⟨_, rfl⟩
  have hf : ∀ i, X i → (if i = b then Qhc nd (some ⟨g, 0, none⟩, m, c2) else f i) = f i := fun i hi => if_neg (fun e : i = b => hbX (e ▸ hi))
  have hKold : ∀ i, X i → K' (f i).ks = K (f i).ks := by
    intro i hi
    rw [hK']
    by_cases e : (f i).ks = (some ⟨g, 0, none⟩, m, c2)
    · simp only [e, if_true]
      obtain ⟨⟨r1, _, r2⟩, r3⟩ := hS.sto.rows i hi
      rw [e] at r1 r3
      rcases r3 with h9 | ⟨g', cur', a1, a2, a3, _⟩
      · rw [h9] at r1 ⊢
        simp only [List.length_nil] at r1
        exact List.eq_nil_of_length_eq_zero (by omega)
      · simp only [Option.some.injEq, Addr.mk.injEq, and_true] at a1
        subst a1
        omega
    · simp only [e, if_false]
  have hKnew : K' (some ⟨g, 0, none⟩, m, c2) = bs := by rw [hK']; simp
  have hgc : ∀ i, X i → gc K' (fun i => if i = b then Qhc nd (some ⟨g, 0, none⟩, m, c2) else f i) i = gc K f i := fun i hi => by simp only [gc, hf i hi, hKold i hi]
  have hgb : gc K' (fun i => if i = b then Qhc nd (some ⟨g, 0, none⟩, m, c2) else f i) b = ⟨nd, bs, false⟩ := by
    have t61 : ((nd.kind : Int) == 61) = false := by simpa using h61
    simp [gc, Qhc, hKnew, CC.open?, t61]
  refine ⟨b, n, (fun i => X i ∨ i = b), (fun i => if i = b then Qhc nd (some ⟨g, 0, none⟩, m, c2) else f i), K', U, D, rfl, by omega, ⟨⟨⟨fun i hi => ?_, fun i j e => ⟨.inl (hS.sto.cells.link i j e).1, .inl (hS.sto.cells.link i j e).2⟩⟩, hS2.sto.acyc, fun i hi => ?_, fun i hi => ?_, fun i hi => ?_, fun i hi => ?_, fun i hi => ?_⟩, hS2.s0, hS2.s1, ?_, hS2.map, hS2.ud, fun l x c e => .inl (hS.inX l x c e), ?_⟩, ?_, .inr rfl, fun i hi => hi, But.ofBelow hbb, fun h => absurd h h61, fun _ => ⟨hgb, hlkb⟩, fun i hi => congrArg CC.ks (hf i hi), .inr (fun g' hg' => .inr (by simp only [Qhc, ne_eq, if_true, Option.some.injEq, Addr.mk.injEq, and_true]; omega)), fun h => absurd h h61, fun _ _ h => .inl h, .inr (by omega)⟩
  · rcases hi with hi | rfl
    · rw [hf i hi]; exact hS2.sto.cells.at' i hi
    · rw [if_pos rfl, hlkb]; exact hat
  · rcases hi with hi | rfl
    · rw [hf i hi, hKold i hi]
      obtain ⟨r1, r2⟩ := hS2.sto.rows i hi
      refine ⟨r1, ?_⟩
      rcases r2 with e | ⟨g', cur', a1, a2, a3, a4, a5⟩
      · exact .inl e
      · refine .inr ⟨g', cur', a1, ?_, a3, a4, a5⟩
        rintro (h9 | rfl)
        · exact a2 h9
        · unfold CellAt at hat
          rw [hat] at a4
          simp at a4
    · rw [if_pos rfl]
      refine ⟨⟨?_, ?_, ?_⟩, .inr ⟨g, cur, rfl, ?_, by omega, hcur2, ?_⟩⟩
      · simp only [Qhc]; rw [hKnew, HM]
      · simp only [Qhc]; rw [hKnew, HM]; exact hm
      · simp only [Qhc]; rw [hKnew, HM]; exact hmc
      · rintro (h | h)
        · exact hgX h
        · omega
      · have e9 : K' (Qhc nd (some ⟨g, 0, none⟩, m, c2)).ks = bs := hKnew
        intro j hj
        have hj2 : j < bs.length := by rw [← e9]; exact hj
        rw [hall j hj2]
        simp only [e9]
  · rcases hi with hi | rfl
    · rw [hf i hi, hKold i hi]; exact fun k hk => .inl (hS.sto.inX i hi k hk)
    · rw [if_pos rfl]; simp only [Qhc]; rw [hKnew]; exact fun k hk => .inl (hbs k hk)
  · rcases hi with hi | rfl
    · rw [hf i hi, hKold i hi]; exact hS.sto.arity i hi
    · rw [if_pos rfl]; simp only [Qhc]; rw [hKnew, HM, hk]
  · rcases hi with hi | rfl
    · rw [hf i hi, hKold i hi]; exact hS.sto.met i hi
    · rw [if_pos rfl]; exact fun h => absurd h h61
  · rcases hi with hi | rfl
    · rw [hf i hi]; exact hS.sto.low i hi
    · rw [if_pos rfl]; simp [Qhc]
  · rintro (h | h)
    · exact hS.sX h
    · have h9 : sb < w.heap.size := Qaa hS.s0
      omega
  · rw [hK']; simp [hS.nil]
  · exact Qxe hbX hS.sto.cells.link hgc (by rw [hgb]; exact hbs) (fun i hi k hk => hS.sto.inX i hi k hk) hf (by rw [if_pos rfl]; exact ⟨rfl, rfl, rfl, fun h => absurd h h61⟩)
theorem Qli (w : World) (sb mb n : Nat) (t lv : Int) (ok : (Int → DT) → Prop) (X : Nat → Prop) (f : Nat → CC) (lk : Nat → Option Nat) (d : Nat → Nat) (K : (Option Addr × Nat × Nat) → List Nat) (U : Int → Int → Option Nat) (D : DataW Value) (hS : Stor w sb mb n t X f lk d K U D) (sx lx : Nat) (nd : Nd) (h61 : nd.kind ≠ 61) (bs : List Nat) (m c : Nat) (HM : Hid (bs.length = m)) (hm : m ≤ 20000) (hk : nd.kids = (m : Int)) (hbs : ∀ b ∈ bs, X b) (ad : Addr) (hx : ∀ j u, (ptrs bs)[j]? = some u → w.cell? (ad.add j) = some u) :
    Calls Tryz.prog 62 #[.agg #[.int .i64 nd.kind, .int .i64 nd.num, .string nd.text, .int .i64 nd.kids, .int .i64 nd.place], .slice (some ad) m c, .pointer (some ⟨sx, 0, none⟩), .pointer (some ⟨lx, 0, none⟩)] w fun e w' => TRes w sb mb n t lv ok X f lk d K U nd bs e w' := by
  have hbA : Below w.heap.size w (w.alloc (.cells #[.int .i64 nd.kind, .int .i64 nd.num, .string nd.text, .int .i64 nd.kids, .int .i64 nd.place] 43)) := (Below.refl _ w).alloc (Nat.le_refl _) _
  have hxA : ∀ j u, (ptrs bs)[j]? = some u → (w.alloc (.cells #[.int .i64 nd.kind, .int .i64 nd.num, .string nd.text, .int .i64 nd.kids, .int .i64 nd.place] 43)).drew.cell? (ad.add j) = some u := by
    intro j u hj
    have h9 := hx j u hj
    have hl : (ad.add j).block < w.heap.size := by
      rcases h8 : ad.add j with ⟨b, o, sp⟩
      rw [h8] at h9
      have hsp : sp = none := World.cell?_spot h9
      subst hsp
      exact Qaa h9
    rw [← h9]
    exact hbA.drew.cell hl
  have HCL := Quf bs m HM (by omega) ad c _ hxA
  have k0 : (w.alloc (.cells #[.int .i64 nd.kind, .int .i64 nd.num, .string nd.text, .int .i64 nd.kids, .int .i64 nd.place] 43)).heap[w.heap.size]? = some (.cells #[.int .i64 nd.kind, .int .i64 nd.num, .string nd.text, .int .i64 nd.kids, .int .i64 nd.place] 43 (0, 0)) := heap_alloc_new _ _
  have hzA : (w.alloc (.cells #[.int .i64 nd.kind, .int .i64 nd.num, .string nd.text, .int .i64 nd.kids, .int .i64 nd.place] 43)).drew.heap.size = w.heap.size + 1 := World.size_alloc _ _
  have t61 : ((nd.kind : Int) == 61) = false := by simpa using h61
  have HL : Hid (∀ W, Below (w.alloc (.cells #[.int .i64 nd.kind, .int .i64 nd.num, .string nd.text, .int .i64 nd.kids, .int .i64 nd.place] 43)).drew.heap.size (w.alloc (.cells #[.int .i64 nd.kind, .int .i64 nd.num, .string nd.text, .int .i64 nd.kids, .int .i64 nd.place] 43)).drew W → W.cell? ⟨w.heap.size, 0, none⟩ = some (.int .i64 nd.kind) ∧ W.cell? ⟨w.heap.size, 1, none⟩ = some (.int .i64 nd.num) ∧ W.cell? ⟨w.heap.size, 2, none⟩ = some (.string nd.text) ∧ W.cell? ⟨w.heap.size, 3, none⟩ = some (.int .i64 nd.kids) ∧ W.cell? ⟨w.heap.size, 4, none⟩ = some (.int .i64 nd.place)) := by
    intro W hb
    have h9 := (hb.block w.heap.size (by omega)).trans k0
    refine ⟨?_, ?_, ?_, ?_, ?_⟩
    all_goals
      rw [cell_of_row _ _ _ _ 43 (0, 0) h9]
      rfl
  have HS : Hid (Stor w sb mb n t X f lk d K U D) := hS
  have HBD : Hid (Below w.heap.size w (w.alloc (.cells #[.int .i64 nd.kind, .int .i64 nd.num, .string nd.text, .int .i64 nd.kids, .int .i64 nd.place] 43)).drew) := hbA.drew
  have HKM : Hid (nd.kids = (m : Int)) := hk
  have HBS : Hid (∀ b ∈ bs, X b) := hbs
  clear hx hxA hS hbA hk hbs
  go_enter Tryz.func62, Tryz.ntmps62
  go_wp2_with fail
  go_region_with (go_at_call 64; refine HCL.mono ?_; rintro e w2 ⟨g, c2, cur, rfl, hg, hcur, hall, hb2, hmc2⟩; obtain ⟨c0, c1, cc2, c3, c4⟩ := HL.out w2 hb2)
  all_goals
    have HT : Hid (TRes w sb mb n t lv ok X f lk d K U nd bs (.returned (.pointer (some ⟨w2.heap.size, 0, none⟩))) (w2.alloc (.cells #[.int .i64 0, .int .i64 nd.kind, .int .i64 nd.num, .string nd.text, .int .i64 nd.kids, .int .i64 nd.place, .slice (some ⟨g, 0, none⟩) m c2, .int .i64 0, .int .i64 0, .pointer none, .int .i64 0, .pointer none, .int .i64 0, .int .i64 0] 120))) := Quw HS.out h61 HM.out hm HKM.out HBS.out (Below.step HBD.out hb2) (by omega) hcur hall hmc2
    clear HS HBD HL HCL hcur hall hb2 c0 c1 cc2 c3 c4 hzA k0
    simp only [Act.put, List.getElem_toArray, List.getElem_cons_succ, List.getElem_cons_zero, List.setIfInBounds_toArray, List.set_cons_zero, List.set_cons_succ]
    go_wp2
    go_ret
    exact HT.out
end Go.Proofs.YtoiiibplkhedcaaGreatDoor


import Derived.Test.YtkmlfpfgiblcdabCompMath
import Derived.Maps.RangeWalk
namespace Go.Proofs.Ytkmlfpfgiblcdab
open Go.RowKit Go.Maps

theorem grown_below {w w' : World} (h : Below w.heap.size w w') : w.grownBy w' none := ⟨h.os, h.tape, h.output, h.size, fun i hi _ => h.block i hi⟩

theorem But.grown' {S : Nat → Prop} {w a b : World} (h : But S w a) (hg : a.grownBy b none) : But S w b :=
  ⟨hg.os.trans h.os, hg.tape.trans h.tape, hg.output.trans h.output, Nat.le_trans h.size hg.size, fun i hi hn => (hg.block i (Nat.lt_of_lt_of_le hi h.size) (by simp)).trans (h.block i hi hn)⟩

theorem iter_kind {P : Program} {k : TypeId} {H : Type} {R : Value → Option (DataW H × List MemPlace)} {w : World} {b r n : Nat} {D : DataW H} {left : Lit → Bool} {cnt : Nat} (h : w.ranges P k R b r n D left cnt) : ∀ cs t f, w.heap[r]? ≠ some (.cells cs t f) := by
  intro cs t f e
  obtain ⟨es, clock, since, seen, c0, _, _, _, _, hr, _⟩ := h
  rw [hr] at e
  cases e

theorem iter_ne {P P' : Program} {k k' : TypeId} {H H' : Type} {R : Value → Option (DataW H × List MemPlace)} {R' : Value → Option (DataW H' × List MemPlace)} {w : World} {b b' r n n' : Nat} {D : DataW H} {D' : DataW H'} {left : Lit → Bool} {cnt : Nat} (h : w.ranges P k R b r n D left cnt) (h' : w.ownsMap P' k' R' b' n' D') : r ≠ b' := by
  intro e
  obtain ⟨es, clock, since, seen, c0, _, _, _, _, hr, _⟩ := h
  obtain ⟨es', clock', hb, _⟩ := h'
  rw [e, hb] at hr
  cases hr

/-- The map of the first of several Binds: what it has. -/
theorem FirstD.has' {ps : List (Int × (Option Addr × Nat × Nat))} {bs : List (Int × List Nd)} {D : DataW Value} (h : FirstD ps D) (hl : ps.length = bs.length) (hn : ps.map Prod.fst = bs.map Prod.fst) (x : Int) : Maps.has D (.int .i64 x) = (fsAt bs x).isSome := by
  rw [(h.2 x).1, hn, hl]
  unfold fsAt
  rw [Option.isSome_map]
  by_cases hp : placeIn (bs.map Prod.fst) x < bs.length
  · rw [List.getElem?_eq_getElem hp, decide_eq_true hp]; rfl
  · rw [List.getElem?_eq_none (by omega), decide_eq_false hp]; rfl

/-- An entry of that map. -/
theorem FirstD.entry {ps : List (Int × (Option Addr × Nat × Nat))} {bs : List (Int × List Nd)} {D : DataW Value} (h : FirstD ps D) (hl : ps.length = bs.length) (hn : ps.map Prod.fst = bs.map Prod.fst) {x : Int} (hx : Maps.has D (.int .i64 x) = true) :
    ∃ i, ∃ hp : i < ps.length, ∃ hb : i < bs.length, fsAt bs x = some bs[i].2 ∧ ∀ z, D.atKey (.int .i64 x) z = .held (sl ps[i].2) := by
  rw [(h.2 x).1] at hx
  have hp : placeIn (ps.map Prod.fst) x < ps.length := of_decide_eq_true hx
  have hb : placeIn (ps.map Prod.fst) x < bs.length := by omega
  refine ⟨_, hp, hb, ?_, (h.2 x).2 hp⟩
  unfold fsAt
  simp only [← hn]
  rw [List.getElem?_eq_getElem hb]
  rfl

theorem BAns.mono {w : World} {B B' : Nat} {ao : Option Addr} {bs : List (Int × List Nd)} (h : BAns w B ao bs) (hB : B' ≤ B) : BAns w B' ao bs := by
  rcases h with rfl | ⟨g, rs, e, h1, h2, hr⟩
  · exact Or.inl rfl
  · exact Or.inr ⟨g, rs, e, by omega, fun r hm => by have := h2 r hm; omega, hr⟩

theorem sameKey_int (x y : Int) : (Lit.int .i64 y).sameKey (.int .i64 x) = decide (y = x) := by
  simp [Lit.sameKey]

theorem left_struck {left : Lit → Bool} (x y : Int) : (left (.int .i64 y) && !(Lit.int .i64 y).sameKey (.int .i64 x)) = if y = x then false else left (.int .i64 y) := by
  rw [sameKey_int]
  by_cases h : y = x
  · simp [h]
  · simp [h]

set_option maxRecDepth 100000 in
set_option maxHeartbeats 4000000 in
theorem implCompose_any (fs ts : List (Int × List Nd)) (n m : Nat) (HN : Hid (fs.length = n)) (hn : n ≤ 1048576) (HM : Hid (ts.length = m)) (hm : m ≤ 1048576) (HKF : Hid (∀ b ∈ fs, b.2.length ≤ 1048576)) (HKT : Hid (∀ b ∈ ts, b.2.length ≤ 1048576))
    (HWF : Hid (∀ b ∈ fs, (Lit.int .i64 b.1).wf = true ∧ ∀ y ∈ b.2, (Lit.int .i64 y.num).wf = true)) (HWT : Hid (∀ b ∈ ts, (Lit.int .i64 b.1).wf = true)) (ao bo : Option Addr) (ca cb : Nat) (w : World) (hfs : Binds w ao fs) (hts : Binds w bo ts) :
    Calls Try.prog 30 #[.slice ao n ca, .slice bo m cb] w fun e w' => ∃ ag cg, e = .returned (.slice ag (compOf fs ts).length cg) ∧ BAns w' w.heap.size ag (compOf fs ts) ∧ Below w.heap.size w w' := by
  by_cases hbig : n + m ≤ 1000
  · have tb : decide ((n : Int) + (m : Int) > 1000) = false := decide_eq_false (by omega)
    have HF := haveTypes_any fs n HN ao ca w hfs hn HKF
    cases hf : typesb fs
    · rw [hf] at HF
      have HV : Hid (compOf fs ts = []) := by
        rw [Hid, compOf, if_neg]
        rintro ⟨_, h2, _⟩
        rw [(typesb_iff fs).2 (fun b hb => h2 b (List.mem_append_left _ hb))] at hf
        cases hf
      clear hfs hts
      go_enter Try.func30, Try.ntmps30
      go_wp2_with fail
      refine HF.mono ?_
      rintro e w1 ⟨rfl, hb1⟩
      clear HF
      go_wp2
      go_ret
      rw [HV.out]
      exact ⟨_, _, rfl, Or.inl rfl, hb1.alloc hb1.size _⟩
    · rw [hf] at HF
      go_enter Try.func30, Try.ntmps30
      go_wp2_with fail
      refine HF.mono ?_
      rintro e w1 ⟨rfl, hb1⟩
      have HT := haveTypes_any ts m HM bo cb w1 (hts.below hb1) hm HKT
      clear HF
      cases ht : typesb ts
      · rw [ht] at HT
        have HV : Hid (compOf fs ts = []) := by
          rw [Hid, compOf, if_neg]
          rintro ⟨_, h2, _⟩
          rw [(typesb_iff ts).2 (fun b hb => h2 b (List.mem_append_right _ hb))] at ht
          cases ht
        clear hfs hts
        go_wp2_with fail
        refine HT.mono ?_
        rintro e w2 ⟨rfl, hb2⟩
        have hb := Below.step hb1 hb2
        clear HT hb1 hb2
        go_wp2
        go_ret
        rw [HV.out]
        exact ⟨_, _, rfl, Or.inl rfl, hb.alloc hb.size _⟩
      · rw [ht] at HT
        have HTF : Hid (typesb fs = true) := hf
        have HTT : Hid (typesb ts = true) := ht
        go_wp2_with fail
        refine HT.mono ?_
        rintro e w2 ⟨rfl, hb2⟩
        have hb := Below.step hb1 hb2
        clear HT hb1 hb2 hf ht
        obtain ⟨qs, hqlen, hqnums, hqprs, hqat⟩ := (hts.below hb).prs
        have hwq : ∀ p ∈ qs, (Lit.int .i64 p.1).wf = true := by
          intro p hp
          have h9 : p.1 ∈ qs.map Prod.fst := List.mem_map_of_mem hp
          rw [hqnums] at h9
          obtain ⟨b, hb9, e9⟩ := List.mem_map.1 h9
          rw [← e9]
          exact HWT.out b hb9
        have HTY := typesOf_any qs m (by rw [Hid, hqlen]; exact HM.out) hm hwq bo cb w2 hqprs
        have hmm := @run_makeMap Try.prog
        go_wp2_with fail
        refine HTY.mono ?_
        rintro e w3 ⟨D2, rfl, hown2, hF2, hb3⟩
        have hb := Below.step hb hb3
        have hqat3 : ∀ i (hp : i < qs.length) (hb : i < ts.length), qs[i].2.2.1 = ts[i].2.length ∧ Nodes w3 qs[i].2.1 ts[i].2 := fun i hp hb' => ⟨(hqat i hp hb').1, (hqat i hp hb').2.below hb3⟩
        have hb2lt := hown2.lt
        have hfs3 := hfs.below hb
        have HQ : Hid (∀ i (hp : i < qs.length) (hb : i < ts.length), qs[i].2.2.1 = ts[i].2.length ∧ Nodes w3 qs[i].2.1 ts[i].2) := hqat3
        have HQL : Hid (qs.length = ts.length ∧ qs.map Prod.fst = ts.map Prod.fst) := ⟨hqlen, hqnums⟩
        have hR0 := Rws.made w3 w3.heap.size
        have HOWN2 : Hid (w3.ownsMap Try.prog 2 heldE w2.heap.size m D2) := hown2
        obtain ⟨b2, hb2⟩ : ∃ b2, w2.heap.size = b2 := ⟨_, rfl⟩
        rw [hb2] at hown2 hb2lt HOWN2
        simp only [hb2]
        clear HTY hts hqat hqprs hqat3 hqlen hqnums hwq hfs hb2 hb3
        go_wp2_with (first
          | (at_range; refine wpList_range_own _ rfl _ 77 rfl 2 25 Try.law2 Try.underlying77 heldE b2 m D2 rfl (hown2.alloc _) ?_; intro w5 hrg0 hg0 hs0)
          | go_in)
        go_frame
        rw [World.size_alloc] at hrg0 hs0 ⊢
        have hR5 := hR0.but (S := fun _ => False) ((But.refl _ _).grown' hg0) (fun _ h => h.elim)
        have hb5 : Below w3.heap.size w3 w5 := ((Below.refl _ w3).alloc (Nat.le_refl _) _).trans ⟨hg0.os, hg0.tape, hg0.output, hg0.size, fun k hk => hg0.block k (by simp; omega) (by simp)⟩
        clear hR0 hg0
        go_loopw [7] (fun _ wr => ∃ left cnt k, wr.ranges Try.prog 2 heldE b2 (w3.heap.size + 1) m D2 left cnt ∧ k + cnt ≤ m ∧ Rws wr w3.heap.size w3.heap.size k (fun x => if left (.int .i64 x) then none else fsAt ts x) ∧ Below w3.heap.size w3 wr) (fun _ wr => wr.rangeLeft b2 (w3.heap.size + 1))
        case atStart =>
          refine ⟨_, _, 0, hrg0, by have := hrg0.owns.size_le; omega, ?_, hb5⟩
          have e9 : (fun x => if Maps.has D2 (.int .i64 x) = true then none else fsAt ts x) = fun _ => none := by
            funext x
            rw [hF2.has' HQL.out.1 HQL.out.2 x]
            cases fsAt ts x <;> rfl
          rw [e9]
          exact hR5
        case round =>
          clear hrg0 hs0 hR5 hb5 hown2
          obtain ⟨left, cnt, k, hrg, hkc, hR, hbw⟩ := hrel
          have hinvK : ∀ key kl, keyOf Try.prog 2 key = some kl → ∃ x, key = Value.int .i64 x := fun key kl hk => by obtain ⟨x, hx, _⟩ := Maps.keyOf_i64 Try.underlying2 hk; exact ⟨x, hx⟩
          have hinvV : ∀ v y, heldE v = some y → ∃ q : Option Addr × Nat × Nat, v = (fun q : Option Addr × Nat × Nat => Value.slice q.1 q.2.1 q.2.2) q := fun v y hv => (heldE_inv hv).1
          go_wp2_with (first
            | (at_next; refine wpList_next_ranges _ rfl _ rfl 2 Try.law2 heldE (Value.int .i64) (fun q : Option Addr × Nat × Nat => Value.slice q.1 q.2.1 q.2.2) hinvK hinvV b2 (w3.heap.size + 1) m D2 left cnt rfl hrg ?_ ?_)
            | go_in)
          · intro hc0 hl0
            have e9 : (fun x => if left (.int .i64 x) = true then none else fsAt ts x) = fsAt ts := by
              funext x
              rw [hl0]
              rfl
            rw [e9] at hR
            obtain ⟨ps, hplen, hpnums, hpprs, hpat⟩ := hfs3.prs
            have hwp : ∀ p ∈ ps, (Lit.int .i64 p.1).wf = true := by
              intro p hp
              have h9 : p.1 ∈ ps.map Prod.fst := List.mem_map_of_mem hp
              rw [hpnums] at h9
              obtain ⟨b, hb9, e9⟩ := List.mem_map.1 h9
              rw [← e9]
              exact (HWF.out b hb9).1
            have hprw : Prs wr ao ps := hpprs.but (S := (w3.heap.size ≤ ·)) (But.ofBelow' hbw) (fun b o e h0 h9 => by
              obtain ⟨b', o', e', c0, _⟩ := hpprs 0 h0
              rw [e] at e'
              simp only [Option.some.injEq, Addr.mk.injEq, and_true] at e'
              have h8 : b' < w3.heap.size := lt_of_cell c0
              omega)
            have HTY := typesOf_any ps n (by rw [Hid, hplen]; exact HN.out) hn hwp ao ca wr hprw
            have HP : Hid (∀ i (hp : i < ps.length) (hb : i < fs.length), ps[i].2.2.1 = fs[i].2.length ∧ Nodes w3 ps[i].2.1 fs[i].2) := hpat
            have HPL : Hid (ps.length = fs.length ∧ ps.map Prod.fst = fs.map Prod.fst) := ⟨hplen, hpnums⟩
            have hwr := hrg.owns.lt
            clear hinvK hinvV hl0 hc0 hpat hplen hpnums hpprs hwp hprw hfs3 e9 hrg
            go_wp2_with fail
            refine HTY.mono ?_
            rintro e w10 ⟨D1, rfl, hown1, hF1, hb10⟩
            have hR10 := hR.below hb10
            have hbw10 : Below w3.heap.size w3 w10 := hbw.trans (hb10.mono hbw.size)
            obtain ⟨b4, hb4⟩ : ∃ b4, wr.heap.size = b4 := ⟨_, rfl⟩
            have hb4w : w3.heap.size < b4 := by have := hR.lt; omega
            rw [hb4] at hown1
            simp only [hb4]
            clear HTY hR hbw hb10 hb4
            go_wp2_with (first
              | (at_range; refine wpList_range_own _ rfl _ 77 rfl 2 25 Try.law2 Try.underlying77 heldE b4 n D1 rfl hown1 ?_; intro w11 hrg0 hg0 hs0)
              | go_in)
            go_frame
            have hR11 := hR10.but (S := fun _ => False) ((But.refl _ _).grown' hg0) (fun _ h => h.elim)
            have hw10 := hbw10.size
            have hb11 : Below w3.heap.size w3 w11 := hbw10.trans ⟨hg0.os, hg0.tape, hg0.output, hg0.size, fun k hk => hg0.block k (by omega) (by simp)⟩
            obtain ⟨r2, hr2⟩ : ∃ r2, w10.heap.size = r2 := ⟨_, rfl⟩
            have hb4r : b4 < r2 := by rw [← hr2]; exact hown1.lt
            rw [hr2] at hrg0 hw10
            simp only [hr2]
            have hb3r : w3.heap.size < r2 := by omega
            clear hR10 hg0 hbw10 hown1 hr2
            go_loopw [9] (fun _ wr => ∃ left cnt k, wr.ranges Try.prog 2 heldE b4 r2 n D1 left cnt ∧ k + cnt ≤ n + m ∧ Rws wr w3.heap.size w3.heap.size k (fun x => if left (.int .i64 x) then fsAt ts x else compE fs ts x) ∧ Below w3.heap.size w3 wr ∧ Hid (∀ x t, left (.int .i64 x) = false → compE fs ts x = some t → t ≠ [])) (fun _ wr => wr.rangeLeft b4 r2)
            case atStart =>
              refine ⟨_, _, k, hrg0, by have := hrg0.owns.size_le; omega, ?_, hb11, ?_⟩
              · have e9 : (fun x => if Maps.has D1 (.int .i64 x) = true then fsAt ts x else compE fs ts x) = fsAt ts := by
                  funext x
                  rw [hF1.has' HPL.out.1 HPL.out.2 x]
                  unfold compE
                  cases fsAt fs x <;> rfl
                rw [e9]
                exact hR11
              · intro x t hx ht
                rw [hF1.has' HPL.out.1 HPL.out.2 x] at hx
                unfold compE at ht
                cases hfx : fsAt fs x with
                | some t' => rw [hfx] at hx; cases hx
                | none =>
                  rw [hfx] at ht
                  obtain ⟨b, hbm, rfl⟩ := fsAt_mem ht
                  have := typeb_pos ((typesb_iff ts).1 HTT.out b hbm)
                  intro e0
                  rw [e0] at this
                  simp at this
            case round =>
              clear hrg0 hs0 hR11 hb11
              obtain ⟨left, cnt, k, hrg, hkc, hR, hbw, HNE⟩ := hrel
              have hinvK : ∀ key kl, keyOf Try.prog 2 key = some kl → ∃ x, key = Value.int .i64 x := fun key kl hk => by obtain ⟨x, hx, _⟩ := Maps.keyOf_i64 Try.underlying2 hk; exact ⟨x, hx⟩
              have hinvV : ∀ v y, heldE v = some y → ∃ q : Option Addr × Nat × Nat, v = (fun q : Option Addr × Nat × Nat => Value.slice q.1 q.2.1 q.2.2) q := fun v y hv => (heldE_inv hv).1
              go_wp2_with (first
                | (at_next; refine wpList_next_ranges _ rfl _ rfl 2 Try.law2 heldE (Value.int .i64) (fun q : Option Addr × Nat × Nat => Value.slice q.1 q.2.1 q.2.2) hinvK hinvV b4 r2 n D1 left cnt rfl hrg ?_ ?_)
                | go_in)
              · intro hc0 hl0
                have e9 : (fun x => if left (.int .i64 x) = true then fsAt ts x else compE fs ts x) = compE fs ts := by
                  funext x
                  rw [hl0]
                  rfl
                rw [e9] at hR
                have HALL : Hid (∀ x t, compE fs ts x = some t → t ≠ []) := fun x t h => HNE.out x t (hl0 _) h
                have HB := bindsOf_any (compE fs ts) w3.heap.size w3.heap.size k (by omega) wr hR hbw.size
                have hbo := Below.step hb hbw
                clear hinvK hinvV hl0 hc0 e9 hrg hR hbw
                go_wp2_with fail
                refine HB.mono ?_
                rintro e w12 ⟨ag, cg, bs, rfl, hIB, hBA, hb12⟩
                have HBS : Hid (bs = compOf fs ts) := comp_same HTF.out HTT.out (by have := HN.out; have := HM.out; omega) HALL.out hIB
                have hbf := Below.step hbo hb12
                have hBA2 := hBA.mono (B' := w.heap.size) hb.size
                clear HB hIB hBA hb12 hbo
                go_wp2
                go_ret
                rw [← HBS.out]
                exact ⟨_, _, rfl, hBA2, hbf⟩
              · intro x sa sn sc kl yd yp w6 cnt6 hkey hlk hv hat hrg6 hlt6 hg6 hs6 hen
                obtain ⟨x', ex, rfl, hxw⟩ := Maps.keyOf_i64 Try.underlying2 hkey
                obtain rfl : x = x' := encZ_inj ex
                have hyd := (heldE_inv hv).2
                simp only [Prod.mk.injEq] at hyd
                obtain ⟨rfl, rfl⟩ := hyd
                have hhas : Maps.has D1 (.int .i64 x) = true := Maps.has_true_of_atKey hat
                obtain ⟨i, hp, hi, hft, hati⟩ := hF1.entry HPL.out.1 HPL.out.2 hhas
                have hcq : (sa, sn, sc) = ps[i].2 := by
                  have h9 := (hat (.lit (.int .i64 0))).symm.trans (hati _)
                  simp only [sl, DataW.held.injEq, Value.slice.injEq] at h9
                  obtain ⟨h1, h2, h3⟩ := h9
                  exact Prod.ext h1 (Prod.ext h2 h3)
                obtain ⟨hql, hqn⟩ := HP.out i hp hi
                rw [← hcq] at hql hqn
                simp only at hql hqn
                have hty := (typesb_iff fs).1 HTF.out _ (List.getElem_mem hi)
                have hwn := (HWF.out _ (List.getElem_mem hi)).2
                obtain ⟨t, ht⟩ : ∃ t, fs[i].2 = t := ⟨_, rfl⟩
                rw [ht] at hql hqn hft hty hwn
                have hbw6 : Below w3.heap.size w3 w6 := hbw.grown hg6 hbw.size (fun j hj => by cases hj; omega)
                have hn6 : Nodes w6 sa t := hqn.below hbw6
                have hown26 : w6.ownsMap Try.prog 2 heldE b2 m D2 := owns_same HOWN2.out (hbw6.block b2 hb2lt)
                have hpt := putI_any ts HTT qs b2 m D2 t sn hql.symm (by have := typeb_len hty; omega) hwn sa sc w6 hn6 hown26 hF2 HQL.out.1 HQL.out.2 (fun i hp hb' => ⟨(HQ.out i hp hb').1, (HQ.out i hp hb').2.below hbw6⟩)
                have hR6 := hR.stepped hg6 (by omega) (iter_kind hrg)
                have HCE : Hid (compE fs ts x = some (fillOf ts t)) := by rw [Hid, compE, hft]
                clear ex hql hn6 hqn hinvK hinvV hkey hv hati hcq hs6 hwn hown26
                go_wp2_with fail
                refine hpt.mono ?_
                rintro e w7 ⟨ag, l, cg, rfl, hl, hAns, hb7⟩
                have hbw7 := hbw6.trans (hb7.mono hbw6.size)
                by_cases hl0 : l = 0
                · subst hl0
                  have HV : Hid (compOf fs ts = []) := by
                    have h9 := HCE.out
                    rw [List.eq_nil_of_length_eq_zero hl] at h9
                    exact comp_none HTF.out HTT.out h9
                  have hbf := Below.step hb hbw7
                  clear hpt hR6 hR hrg hrg6 hAns hbw7 hb7 hbw6
                  go_wp2
                  go_ret
                  rw [HV.out]
                  exact ⟨_, _, rfl, Or.inl rfl, hbf.alloc hbf.size _⟩
                · have hl00 : ((l : Int) == 0) = false := by simpa using hl0
                  have hne9 : fillOf ts t ≠ [] := fun e0 => by rw [e0] at hl; simp at hl; omega
                  obtain ⟨g, hag, hg7, hr7⟩ : ∃ g, ag = some ⟨g, 0, none⟩ ∧ w6.heap.size ≤ g ∧ Row w7 g (fillOf ts t) := by
                    rcases hAns with h9 | h9
                    · exact absurd h9 hne9
                    · exact h9
                  subst hag
                  obtain ⟨w8, hrun, hR8, hg8⟩ := hR6.store (c := cg) hb7 (by unfold maxLen; omega) hxw hr7 hg7 hbw6.size
                  rw [hl] at hrun
                  have hgb7 := grown_below hb7
                  have hrg8 := (hrg6.kept hgb7 (by simp) (by simp)).kept hg8 (by simp; omega) (by simp; omega)
                  have hbw8 : Below w3.heap.size w3 w8 := hbw7.grown hg8 hbw7.size (fun j hj => by cases hj; exact Nat.le_refl _)
                  have HE : Hid ((fun y => if (left (.int .i64 y) && !(Lit.int .i64 y).sameKey (.int .i64 x)) = true then fsAt ts y else compE fs ts y) = upE (fun y => if left (.int .i64 y) = true then fsAt ts y else compE fs ts y) x (fillOf ts t)) := by
                    funext y
                    rw [left_struck]
                    by_cases hy : y = x
                    · subst hy
                      rw [upE_same, if_pos rfl, if_neg (by simp)]
                      exact HCE.out
                    · rw [upE_other _ _ _ _ hy, if_neg hy]
                  have HNE2 : Hid (∀ y t', (left (.int .i64 y) && !(Lit.int .i64 y).sameKey (.int .i64 x)) = false → compE fs ts y = some t' → t' ≠ []) := by
                    intro y t' h1 h2
                    rw [left_struck] at h1
                    by_cases hy : y = x
                    · subst hy
                      rw [HCE.out] at h2
                      simp only [Option.some.injEq] at h2
                      rw [← h2]
                      exact hne9
                    · rw [if_neg hy] at h1
                      exact HNE.out y t' h1 h2
                  clear hpt hR hR6 hgb7 hg8 hrg6 hb7 hr7 hft hbw6 hbw7 hat hAns hne9 hl
                  go_wp2
                  go_roundw
                  case rel => exact ⟨_, cnt6, k + 1, hrg8, by omega, by rw [HE.out]; exact hR8, hbw8, HNE2⟩
                  case measure => rw [hrg8.left_eq, hrg.left_eq]; exact hlt6
          · intro x sa sn sc kl yd yp w6 cnt6 hkey hlk hv hat hrg6 hlt6 hg6 hs6 hen
            obtain ⟨x', ex, rfl, hxw⟩ := Maps.keyOf_i64 Try.underlying2 hkey
            obtain rfl : x = x' := encZ_inj ex
            have hyd := (heldE_inv hv).2
            simp only [Prod.mk.injEq] at hyd
            obtain ⟨rfl, rfl⟩ := hyd
            have hhas : Maps.has D2 (.int .i64 x) = true := Maps.has_true_of_atKey hat
            obtain ⟨i, hp, hi, hft, hati⟩ := hF2.entry HQL.out.1 HQL.out.2 hhas
            have hcq : (sa, sn, sc) = qs[i].2 := by
              have h9 := (hat (.lit (.int .i64 0))).symm.trans (hati _)
              simp only [sl, DataW.held.injEq, Value.slice.injEq] at h9
              obtain ⟨h1, h2, h3⟩ := h9
              exact Prod.ext h1 (Prod.ext h2 h3)
            obtain ⟨hql, hqn⟩ := HQ.out i hp hi
            rw [← hcq] at hql hqn
            simp only at hql hqn
            have hty := (typesb_iff ts).1 HTT.out _ (List.getElem_mem hi)
            obtain ⟨t, ht⟩ : ∃ t, ts[i].2 = t := ⟨_, rfl⟩
            rw [ht] at hql hqn hft hty
            have hbw6 : Below w3.heap.size w3 w6 := hbw.grown hg6 hbw.size (fun j hj => by cases hj; omega)
            have hn6 : Nodes w6 sa t := hqn.below hbw6
            obtain ⟨b9, o9, hc1, _⟩ := hqn 0 (typeb_pos hty)
            have hcl : Calls Try.prog 60 #[.slice sa sn sc] w6 fun e w' => ∃ g c', e = .returned (.slice (some ⟨g, 0, none⟩) sn c') ∧ w6.heap.size ≤ g ∧ Row w' g t ∧ Below w6.heap.size w6 w' := by
              rw [hc1] at hn6 ⊢
              exact clone_any t sn hql.symm (by have := typeb_len hty; omega) _ sc w6 hn6
            have hne6 : w3.heap.size + 1 ≠ w3.heap.size := by omega
            have hR6 := hR.stepped hg6 hne6 (iter_kind hrg)
            have HSN : Hid (sn = t.length) := hql
            clear ex hql hn6 hqn hc1 hinvK hinvV hkey hv hati hcq hs6
            go_wp2_with fail
            refine hcl.mono ?_
            rintro e w7 ⟨g, c', rfl, hg7, hr7, hb7⟩
            obtain ⟨w8, hrun, hR8, hg8⟩ := hR6.store (c := c') hb7 (by unfold maxLen; omega) hxw hr7 hg7 hbw6.size
            rw [← HSN.out] at hrun
            have hgb7 := grown_below hb7
            have hrg8 := (hrg6.kept hgb7 (by simp) (by simp)).kept hg8 (by simp; omega) (by simp)
            have hbw7 := hbw6.trans (hb7.mono hbw6.size)
            have hbw8 : Below w3.heap.size w3 w8 := hbw7.grown hg8 hbw7.size (fun j hj => by cases hj; exact Nat.le_refl _)
            have HE : Hid ((fun y => if (left (.int .i64 y) && !(Lit.int .i64 y).sameKey (.int .i64 x)) = true then none else fsAt ts y) = upE (fun y => if left (.int .i64 y) = true then none else fsAt ts y) x t) := by
              funext y
              rw [left_struck]
              by_cases hy : y = x
              · subst hy
                rw [upE_same, if_pos rfl, if_neg (by simp)]
                exact hft
              · rw [upE_other _ _ _ _ hy, if_neg hy]
            clear hcl hR hR6 hgb7 hg8 hrg6 hb7 hr7 hft hbw6 hbw7 hat
            go_wp2
            go_roundw
            case rel => exact ⟨_, cnt6, k + 1, hrg8, by omega, by rw [HE.out]; exact hR8, hbw8⟩
            case measure => rw [hrg8.left_eq, hrg.left_eq]; exact hlt6
  · have tb : decide ((n : Int) + (m : Int) > 1000) = true := decide_eq_true (by omega)
    have HV : Hid (compOf fs ts = []) := by
      rw [Hid, compOf, if_neg]
      rintro ⟨h1, _⟩
      have := HN.out
      have := HM.out
      omega
    clear hfs hts
    go_enter Try.func30, Try.ntmps30
    go_wp2
    go_ret
    rw [HV.out]
    exact ⟨_, _, rfl, Or.inl rfl, (Below.refl _ _).alloc (Nat.le_refl _) _⟩

end Go.Proofs.Ytkmlfpfgiblcdab

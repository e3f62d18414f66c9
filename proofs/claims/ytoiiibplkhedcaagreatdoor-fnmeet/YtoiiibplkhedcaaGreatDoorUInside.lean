import Derived.Test.YtoiiibplkhedcaaGreatDoorWBK
set_option maxRecDepth 100000
set_option maxHeartbeats 2000000
namespace Go.Proofs.YtoiiibplkhedcaaGreatDoor
open Go.RowKit
def IRes (st : List SK) (ka : Nat → Option Addr × Nat) (lk : Nat → Option Nat) (B g c : Nat) (wk : Int) (mt i : Nat) (mk : Nat → Int) (G : Nat → Prop) (w : World) (b : Bool) (w' : World) : Prop :=
  ∃ mk', Sto w' B g c st ka lk mk' ∧ But (· = g) w w' ∧ (∀ m, mk m = wk → mk' m = wk) ∧ (∀ m, mk' m = mk m ∨ mk' m = wk) ∧ (b = true → Rch st lk i mt) ∧
    (b = false → mk' mt ≠ wk ∧ Qpy st lk (fun m => mk' m = wk) G ∧ ∀ q, Rt lk i q → mk' q = wk)
theorem IRes.back {st : List SK} {ka : Nat → Option Addr × Nat} {lk : Nat → Option Nat} {B g c : Nat} {wk : Int} {mt i : Nat} {mk : Nat → Int} {G : Nat → Prop} {w W w' : World} {b : Bool} (h : IRes st ka lk B g c wk mt i mk G W b w') (hb : Below w.heap.size w W) : IRes st ka lk B g c wk mt i mk G w b w' := by
  obtain ⟨mk', h1, h2, h3⟩ := h
  exact ⟨mk', h1, (But.ofBelow hb).trans h2, h3⟩
theorem Qtu (st : List SK) (n : Nat) (HL : Hid (st.length = n)) (ka : Nat → Option Addr × Nat) (lk : Nat → Option Nat) (rk : Nat → Nat) (HR : Hid (Ranked st lk rk)) (HG : Hid (∀ i j, lk i = some j → i < st.length ∧ j < st.length)) (HK : Hid (Sts st))
    (B g c : Nat) (wk : Int) (mt : Nat) (hmt : mt < n) :
    ∀ (N i : Nat), rk i = N → i < n → ∀ (mk : Nat → Int) (G : Nat → Prop) (w : World), Sto w B g c st ka lk mk → Hid (Qpy st lk (fun m => mk m = wk) G) → Hid (mk mt ≠ wk) →
      Calls Tryz.prog 71 #[.agg #[.slice (some ⟨g, 0, none⟩) n c, .int .i64 wk], .int .i64 (mt : Int), .int .i64 (i : Int)] w fun e w' => ∃ b, e = .returned (.bool b) ∧ IRes st ka lk B g c wk mt i mk G w b w' := by
  intro N
  induction N using Nat.strongRecOn with
  | ind N ih =>
    intro i hN hi mk G w hS HC HM
    obtain ⟨q, hq⟩ := HR.out.rt i
    have hqn : q < n := by
      have key : ∀ {i q}, Rt lk i q → i < n → q < n := by
        intro i q h
        induction h using Rt.elim with
        | root _ => intro h; exact h
        | step h1 _ ih2 => intro _; exact ih2 (by have := (HG.out _ _ h1).2; have := HL.out; omega)
      exact key hq hi
    have hrq : rk q ≤ rk i := by
      have key : ∀ {i q}, Rt lk i q → rk q ≤ rk i := by
        intro i q h
        induction h using Rt.elim with
        | root _ => exact Nat.le_refl _
        | step h1 _ ih2 => have := HR.out.link _ _ h1; omega
      exact key hq
    have hlq : lk q = none := hq.is_root
    have HQ : Hid (Rt lk i q) := hq
    have hgw := hS.block
    have hA : Below w.heap.size w (w.alloc (.cells #[.slice (some ⟨g, 0, none⟩) n c, .int .i64 wk] 78)) := (Below.refl _ w).alloc (Nat.le_refl _) _
    go_enter Tryz.func71, Tryz.ntmps71
    go_wp2_with fail
    refine (Qjd st n HL ka lk mk rk HR HG B g c wk _ (hS.below hA) i q hi hq).mono ?_
    rintro e w1 ⟨rfl, hb1⟩
    have hbb1 := Below.step hA hb1
    have hS1 := hS.below hbb1
    have hz : w.heap.size < w1.heap.size := by have := hb1.size; simp at this; omega
    have hblk : w1.heap[w.heap.size]? = some (.cells #[.slice (some ⟨g, 0, none⟩) n c, .int .i64 wk] 78 (0, 0)) := (hb1.block _ (by simp)).trans (heap_alloc_new _ _)
    obtain ⟨z, hze⟩ : ∃ z, w.heap.size = z := ⟨_, rfl⟩
    have HZ : Hid (w.heap.size = z) := hze
    rw [hze] at hz hblk ⊢
    have hgz : g ≠ z := by omega
    have x0 : w1.cell? ⟨z, 0, none⟩ = some (.slice (some ⟨g, 0, none⟩) n c) := by rw [cell_of_row _ _ _ _ _ _ hblk]; rfl
    have x1 : w1.cell? ⟨z, 1, none⟩ = some (.int .i64 wk) := by rw [cell_of_row _ _ _ _ _ _ hblk]; rfl
    clear hA hb1 hS hq
    by_cases hqm : q = mt
    · subst hqm
      have HRES : Hid (IRes st ka lk B g c wk q i mk G w true w1) := ⟨mk, hS1, But.ofBelow hbb1, fun m h => h, fun m => Or.inl rfl, fun _ => HQ.out.rch, fun h => by cases h⟩
      clear hS1 hbb1
      go_wp2
      go_ret
      exact ⟨_, rfl, HRES.out⟩
    · have tq : ((q : Int) == (mt : Int)) = false := by simp; omega
      have d5 : w1.cell? ⟨g, q * 6 + 5, none⟩ = some (.int .i64 (mk q)) := by
        rw [hS1.cell q 5 (by have := HL.out; omega) (by omega)]
        rfl
      have hg1 : g < w1.heap.size := hS1.block.2
      by_cases hmk : mk q = wk
      · have tm : (mk q == wk) = true := by simpa using hmk
        have HRES : Hid (∀ W, Below w1.heap.size w1 W → IRes st ka lk B g c wk mt i mk G w false W) := by
          intro W hW
          refine ⟨mk, hS1.below hW, But.ofBelow (Below.step hbb1 hW), fun m h => h, fun m => Or.inl rfl, (fun h => by cases h), fun _ => ⟨HM.out, HC.out, ?_⟩⟩
          intro p hp
          rw [← HQ.out.fun hp]
          exact hmk
        clear hS1 hbb1 hblk
        go_wp2_with fail
        go_quiet (fail)
        go_wp2
        go_ret
        exact ⟨_, rfl, HRES.out _ (Qan _ _)⟩
      · have tm : (mk q == wk) = false := by simpa using hmk
        go_wp2_with fail
        go_quiet (fail)
        have hdr := Qan w1 nq
        have hS2 := hS1.below hdr
        have hbb2 := Below.step hbb1 hdr
        have hblk2 := (hdr.block z hz).trans hblk
        have x0' := (hdr.cell (p := ⟨z, 0, none⟩) hz).trans x0
        have x1' := (hdr.cell (p := ⟨z, 1, none⟩) hz).trans x1
        have hz2 : z < (w1.drewN nq).heap.size := hz
        have hg2 : g < (w1.drewN nq).heap.size := hg1
        clear hdr x0 x1 hz hg1 hS1 hbb1 hblk d5
        generalize w1.drewN nq = W2 at *
        have f5 := hS2.frozen (q * 6 + 5)
        have hS3 := hS2.setMark q wk (by have := HL.out; omega)
        have hbu3 : But (· = g) W2 (W2.setCell ⟨g, q * 6 + 5, none⟩ (.int .i64 wk)) := (But.refl (· = g) W2).setCell (p := ⟨g, q * 6 + 5, none⟩) rfl _
        have y0 : (W2.setCell ⟨g, q * 6 + 5, none⟩ (.int .i64 wk)).heap[z]? = some (.cells #[.slice (some ⟨g, 0, none⟩) n c, .int .i64 wk] 78 (0, 0)) := (hbu3.block z hz2 (Ne.symm hgz)).trans hblk2
        have hbw3 : But (· = g) w (W2.setCell ⟨g, q * 6 + 5, none⟩ (.int .i64 wk)) := (But.ofBelow hbb2).trans hbu3
        obtain ⟨d5, hd5⟩ : ∃ d, W2.cell? ⟨g, q * 6 + 5, none⟩ = some d := ⟨_, by rw [hS2.cell q 5 (by have := HL.out; omega) (by omega)]; rfl⟩
        have hmq : (updM mk q wk) mt ≠ wk := by simp [updM, Ne.symm hqm]; exact HM.out
        obtain ⟨kl, hkl⟩ : ∃ kl, (sk st q).kids.length = kl := ⟨_, rfl⟩
        have HKL : Hid ((sk st q).kids.length = kl) := hkl
        have hkl6 : kl ≤ 6000 := by have := HK.out.few q; omega
        have HMK : Hid (∀ m, updM mk q wk m = mk m ∨ updM mk q wk m = wk) := by
          intro m
          unfold updM
          by_cases e : m = q
          · rw [if_pos e]; exact Or.inr rfl
          · rw [if_neg e]; exact Or.inl rfl
        have HMQ : Hid (∀ m, mk m = wk → updM mk q wk m = wk) := by
          intro m h
          show updM mk q wk m = wk
          unfold updM
          split
          · rfl
          · exact h
        have HCQ : Hid (Qpy st lk (fun m => updM mk q wk m = wk) (fun m => G m ∨ m = q)) := by
          intro m hm hG k hk p hp
          have hne : m ≠ q := fun e => hG (Or.inr e)
          have hm2 : mk m = wk := by
            have : updM mk q wk m = wk := hm
            unfold updM at this
            rw [if_neg hne] at this
            exact this
          exact HMQ.out p (HC.out m hm2 (fun h => hG (Or.inl h)) k hk p hp)
        have HQQ : Hid (updM mk q wk q = wk) := by simp [Hid, updM]
        generalize hmk2 : updM mk q wk = mk2 at *
        clear hmk2 HC HM hmk tm hbu3 hblk2 hbb2 hS2
        go_wp2
        go_loopw [7] (fun v wr => ∃ (k : Nat) (mk' : Nat → Int), k ≤ kl ∧ v = .int .i64 (k : Int) ∧ Sto wr B g c st ka lk mk' ∧ But (· = g) w wr ∧ (∀ m, mk m = wk → mk' m = wk) ∧ (∀ m, mk' m = mk m ∨ mk' m = wk) ∧ mk' mt ≠ wk ∧ Qpy st lk (fun m => mk' m = wk) (fun m => G m ∨ m = q) ∧ mk' q = wk ∧
            (∀ m (h : m < (sk st q).kids.length), m < k → ∀ p, Rt lk (sk st q).kids[m] p → mk' p = wk) ∧ wr.heap[z]? = some (.cells #[.slice (some ⟨g, 0, none⟩) n c, .int .i64 wk] 78 (0, 0))) (fun v _ => kl - (intOf v).toNat)
        case atStart => exact ⟨0, mk2, Nat.zero_le _, rfl, hS3, hbw3, HMQ.out, HMK.out, hmq, HCQ.out, HQQ.out, fun m _ h => absurd h (by omega), y0⟩
        case round =>
          clear hS3 hbw3 HMQ HMK hmq HCQ HQQ y0 f5 hd5 x0' x1' hz2 hg2
          obtain ⟨k, mk', hk, rfl, hSr, hbr, hm1, hm2, hm3, hcl, hmq, hks, hbx⟩ := hrel
          have hzl : z < wr.heap.size := (Array.getElem?_eq_some_iff.1 hbx).1
          have b0 : wr.cell? ⟨z, 0, none⟩ = some (.slice (some ⟨g, 0, none⟩) n c) := by rw [cell_of_row _ _ _ _ _ _ hbx]; rfl
          have b1 : wr.cell? ⟨z, 1, none⟩ = some (.int .i64 wk) := by rw [cell_of_row _ _ _ _ _ _ hbx]; rfl
          have hgr : g < wr.heap.size := hSr.block.2
          have d3 : wr.cell? ⟨g, q * 6 + 3, none⟩ = some (.slice (ka q).1 kl (ka q).2) := by
            rw [hSr.cell q 3 (by have := HL.out; omega) (by omega)]
            simp [Qgn, HKL.out]
          by_cases hkk : k < kl
          · have hkx : k < (sk st q).kids.length := by have := HKL.out; omega
            obtain ⟨kb, ko, hka, hkg, hkc⟩ := hSr.kids q k hkx
            obtain ⟨x, hx⟩ : ∃ x, (sk st q).kids[k] = x := ⟨_, rfl⟩
            rw [hx] at hkc
            rw [hka] at d3
            have hxm : x ∈ (sk st q).kids := by rw [← hx]; exact List.getElem_mem hkx
            have hxq : x < q := HK.out.kids q x hxm
            have hkbl : kb < wr.heap.size := Qaa hkc
            obtain ⟨kc, hkc9⟩ : ∃ kc, (ka q).2 = kc := ⟨_, rfl⟩
            rw [hkc9] at d3
            have HCALL : Hid (∀ W, Below wr.heap.size wr W → Calls Tryz.prog 71 #[.agg #[.slice (some ⟨g, 0, none⟩) n c, .int .i64 wk], .int .i64 (mt : Int), .int .i64 (x : Int)] W fun e w' => ∃ b, e = .returned (.bool b) ∧ IRes st ka lk B g c wk mt x mk' (fun m => G m ∨ m = q) wr b w') := by
              intro W hW
              refine (ih (rk x) (by have := HR.out.kid q hlq x hxm; omega) x rfl (by omega) mk' (fun m => G m ∨ m = q) W (hSr.below hW) hcl hm3).mono ?_
              rintro e w' ⟨b, rfl, h⟩
              exact ⟨b, rfl, h.back hW⟩
            have HBR : Hid (But (· = g) w wr) := hbr
            have HM1 : Hid (∀ m, mk m = wk → mk' m = wk) := hm1
            have HM2 : Hid (∀ m, mk' m = mk m ∨ mk' m = wk) := hm2
            have HKS : Hid (∀ m (h : m < (sk st q).kids.length), m < k → ∀ p, Rt lk (sk st q).kids[m] p → mk' p = wk) := hks
            have HMQ : Hid (mk' q = wk) := hmq
            have HX : Hid ((sk st q).kids[k] = x) := hx
            have HBX : Hid (wr.heap[z]? = some (.cells #[.slice (some ⟨g, 0, none⟩) n c, .int .i64 wk] 78 (0, 0))) := hbx
            have hdrew : Below wr.heap.size wr wr.drew := ⟨rfl, rfl, rfl, Nat.le_refl _, fun _ _ => rfl⟩
            clear hSr hbr hm1 hm2 hks hmq hx hbx hcl hm3 ih
            go_wp2_with fail
            go_cut [52] from 30 to 51 (fun v wx => ∃ b : Bool, v = .bool b ∧ IRes st ka lk B g c wk mt x mk' (fun m => G m ∨ m = q) wr b wx)
            case first =>
              go_region_with (go_at_call 71; refine (HCALL.out wr.drew hdrew).mono ?_; rintro e w5 ⟨b5, rfl, hm5⟩)
              all_goals (try go_wp2_with fail)
              all_goals go_meet
              all_goals exact ⟨_, rfl, hm5⟩
            case rest =>
              obtain ⟨b, rfl, hm⟩ := hcut
              obtain ⟨mk3, hS3, hb3, h31, h32, h33, h34⟩ := hm
              have hbw : But (· = g) w wc := HBR.out.trans hb3
              have hbx3 : wc.heap[z]? = some (.cells #[.slice (some ⟨g, 0, none⟩) n c, .int .i64 wk] 78 (0, 0)) := (hb3.block z hzl (Ne.symm hgz)).trans HBX.out
              have H1 : Hid (∀ m, mk m = wk → mk3 m = wk) := fun m h => h31 m (HM1.out m h)
              have H2 : Hid (∀ m, mk3 m = mk m ∨ mk3 m = wk) := by
                intro m
                rcases h32 m with h | h
                · rcases HM2.out m with h5 | h5
                  · exact Or.inl (h.trans h5)
                  · exact Or.inr (h.trans h5)
                · exact Or.inr h
              cases b
              · obtain ⟨h41, h42, h43⟩ := h34 rfl
                have H4 : Hid (∀ m (h : m < (sk st q).kids.length), m < k + 1 → ∀ p, Rt lk (sk st q).kids[m] p → mk3 p = wk) := by
                  intro m hm9 hmk p hp
                  by_cases e : m = k
                  · subst e
                    rw [HX.out] at hp
                    exact h43 p hp
                  · exact h31 p (HKS.out m hm9 (by omega) p hp)
                have H5 : mk3 q = wk := h31 q HMQ.out
                clear h31 h32 h33 h34 h43 d3 hkc b0 b1
                go_wp2
                go_roundw
                case rel => exact ⟨k + 1, mk3, by omega, by go_num, hS3, hbw, H1.out, H2.out, h41, h42, H5, H4.out, hbx3⟩
                case measure => simp [intOf]; omega
              · have HRES : Hid (IRes st ka lk B g c wk mt i mk G w true wc) := ⟨mk3, hS3, hbw, H1.out, H2.out, (fun _ => HQ.out.rch.trans (.kid hlq hxm (h33 rfl))), fun h => by cases h⟩
                clear h31 h32 h33 h34 d3 hkc b0 b1 hS3 hbw hbx3 hb3
                go_wp2
                go_ret
                exact ⟨_, rfl, HRES.out⟩
          · have HRES : Hid (IRes st ka lk B g c wk mt i mk G w false wr) := by
              refine ⟨mk', hSr, hbr, hm1, hm2, (fun h => by cases h), fun _ => ⟨hm3, ?_, ?_⟩⟩
              · intro m hm hGm kx hkx p hp
                by_cases e : m = q
                · subst e
                  obtain ⟨j, hj, rfl⟩ := List.getElem_of_mem hkx
                  exact hks j hj (by have := HKL.out; omega) p hp
                · exact hcl m hm (fun h => h.elim hGm e) kx hkx p hp
              · intro p hp
                rw [← HQ.out.fun hp]
                exact hmq
            clear hSr hbr hm1 hm2 hks hmq hbx hcl hm3 ih
            go_wp2
            go_ret
            exact ⟨_, rfl, HRES.out⟩
end Go.Proofs.YtoiiibplkhedcaaGreatDoor

import Derived.Test.YtahdmflbdmlfhaaGreatDoorUOut
import Derived.Test.YtahdmflbdmlfhaaGreatDoorWBL
import Derived.BigQuiet
import Derived.Deep.Cut
import Derived.Deep.CutRange
namespace Go.Proofs.YtahdmflbdmlfhaaGreatDoor

open Go.RowKit

/-- What a store says of the first unknowns of a list. -/
def bindTo (D : Nat → List Nd) (srt : List (Int × Int)) (j : Nat) : List (Int × List Nd) := (srt.take j).map fun p => (p.1, D p.2.toNat)

theorem bindTo_succ {D : Nat → List Nd} {srt : List (Int × Int)} {j : Nat} (hj : j < srt.length) : bindTo D srt (j + 1) = bindTo D srt j ++ [(srt[j].1, D srt[j].2.toNat)] := by
  unfold bindTo
  rw [List.take_succ_eq_append_getElem hj, List.map_append]
  simp

/-- What l8Binds answers. -/
def BindsRes (D : Nat → List Nd) (srt : List (Int × Int)) (bs : List (Int × List Nd)) (ok : Bool) : Prop :=
  (ok = true → bs = bindTo D srt srt.length ∧ ∀ p ∈ srt, (D p.2.toNat).length ≤ 300) ∧ (ok = false → bs = [] ∧ ∃ p ∈ srt, 300 < (D p.2.toNat).length)

set_option maxRecDepth 100000 in
set_option maxHeartbeats 4000000 in
theorem binds_any (st : List SK) (n : Nat) (HL : Hid (st.length = n)) (hn : n ≤ 1048576) (ka : Nat → Option Addr × Nat) (HK : Hid (Sts st)) (lk : Nat → Option Nat) (mk : Nat → Int) (rk : Nat → Nat) (HR : Hid (Ranked st lk rk)) (HG : Hid (∀ i j, lk i = some j → i < st.length ∧ j < st.length)) (D : Nat → List Nd) (HD : Hid (IsD st lk D)) (Bs g c : Nat) (wk : Int) (ms : List (Int × Nat)) (l : Nat) (HML : Hid (ms.length = l)) (hl : l ≤ 1048576) (HMA : Hid (∀ p ∈ ms, p.2 < n)) (gm cm : Nat) (w : World) (hS : Sto w Bs g c st ka lk mk) (hM : MRow w gm (msI ms)) :
    Calls Tryz.prog 18 #[.agg #[.slice (some ⟨g, 0, none⟩) n c, .int .i64 wk], .slice (some ⟨gm, 0, none⟩) l cm] w fun e w' => ∃ (ao : Option Addr) (l' c' : Nat) (bs : List (Int × List Nd)) (ok : Bool), e = .returned (.tuple #[.slice ao l' c', .bool ok]) ∧ bs.length = l' ∧ BAns w' w.heap.size ao bs ∧ Below w.heap.size w w' ∧ BindsRes D (sortedM (msI ms)) bs ok := by
  obtain ⟨i1, hj1, hy0, hy1, hy2⟩ := info_parts Tryz.infoB
  obtain ⟨z, hz⟩ : ∃ z, w.heap.size = z := ⟨_, rfl⟩
  have HOFF : Hid (∀ q, z ≤ q → g ≠ q ∧ KOff st ka q) := by
    intro q hq
    exact ⟨by have := hS.block.2; omega, hS.toV.klt (by omega)⟩
  have hgw := hS.block
  have HS : Hid (Sto w Bs g c st ka lk mk) := hS
  have HM : Hid (MRow w gm (msI ms)) := hM
  clear hS hM
  go_enter Tryz.func18, Tryz.ntmps18
  have hA1 : Below w.heap.size w (w.alloc (.cells #[.slice (some ⟨g, 0, none⟩) n c, .int .i64 wk] 50)) := (Below.refl _ w).alloc (Nat.le_refl _) _
  have hA2 := hA1.alloc hA1.size (.cells #[] 91)
  have hO0 := OwnBs.empty (w := w.alloc (.cells #[.slice (some ⟨g, 0, none⟩) n c, .int .i64 wk] 50)) (B := z) (by simp; omega)
  have hsz1 : (w.alloc (.cells #[.slice (some ⟨g, 0, none⟩) n c, .int .i64 wk] 50)).heap.size = z + 1 := by simp [hz]
  rw [hsz1] at hO0
  have hzb : ((w.alloc (.cells #[.slice (some ⟨g, 0, none⟩) n c, .int .i64 wk] 50)).alloc (.cells #[] 91)).heap[z]? = some (.cells #[.slice (some ⟨g, 0, none⟩) n c, .int .i64 wk] 50 (0, 0)) := by
    rw [heap_alloc_old _ _ (by omega), ← hz]
    exact heap_alloc_new _ _
  have hsz2 : ((w.alloc (.cells #[.slice (some ⟨g, 0, none⟩) n c, .int .i64 wk] 50)).alloc (.cells #[] 91)).heap.size = z + 2 := by simp [hz]
  go_wp2_with fail
  refine (sorted_any (msI ms) l (by show (msI ms).length = l; rw [msI_length]; exact HML.out) hl gm cm _ (HM.out.below hA2)).mono ?_
  rintro e w2 ⟨gs, cs, rfl, hgs, hrs, hb2⟩
  rw [hsz2] at hgs
  have hbb := Below.step hA2 hb2
  have hO2 := hO0.below hb2
  have hzb2 := (hb2.block z (by omega)).trans hzb
  have hsl : (sortedM (msI ms)).length = l := by rw [sortedM_length, msI_length]; exact HML.out
  have HSM : Hid (∀ p ∈ sortedM (msI ms), ∃ a : Nat, a < n ∧ p.2 = (a : Int)) := by
    intro p hp
    obtain ⟨q, hq, rfl⟩ := List.mem_map.1 (sortedM_mem _ _ hp)
    exact ⟨q.2, HMA.out q hq, rfl⟩
  clear hA1 hA2 hO0 hsz1 hsz2 hzb hb2 HM HMA
  obtain ⟨srt, hsrt⟩ : ∃ srt, sortedM (msI ms) = srt := ⟨_, rfl⟩
  have HSRT : Hid (sortedM (msI ms) = srt) := hsrt
  rw [hsrt] at hrs hsl HSM
  clear hsrt
  rw [hz] at hbb
  go_wp2
  go_loopw [6, 8] (fun v p wq => ∃ (j go co : Nat) (rs : List (Nat × Nat)), j ≤ l ∧ p = .int .i64 j ∧ v = .slice (some ⟨go, 0, none⟩) j co ∧ OwnBs wq z go co j (leadR rs (bindTo D srt j)) ∧ TwoR wq go rs (bindTo D srt j) ∧ (∀ r ∈ rs, z ≤ r.1) ∧ MRow wq gs srt ∧ go ≠ gs ∧ z < go ∧ (∀ p ∈ srt.take j, (D p.2.toNat).length ≤ 300) ∧ Below z w wq ∧ wq.heap[z]? = some (.cells #[.slice (some ⟨g, 0, none⟩) n c, .int .i64 wk] 50 (0, 0))) (fun _ p _ => l - (intOf p).toNat)
  case atStart => exact ⟨0, z + 1, 0, [], Nat.zero_le _, rfl, rfl, by simpa [leadR, bindTo] using hO2, ⟨by simp [bindTo], by simpa [leadR, bindTo] using hO2.row.2, by simp [bindTo], by simp⟩, by simp, hrs, by omega, by omega, by simp, hbb, hzb2⟩
  case round =>
    clear hO2 hrs hbb hzb2
    obtain ⟨j, go, co, rs, hj, rfl, rfl, hown, htw, hrb, hms, hgn, hzg, hall, hb, hbx⟩ := hrel
    obtain ⟨b0, b1, b2, b3, hzr⟩ := box_cells hbx
    clear b2 b3
    by_cases hjl : j < l
    · have hjs : j < srt.length := by omega
      obtain ⟨e0, e1⟩ := hms.at j hjs
      obtain ⟨a, han, ha⟩ := HSM.out srt[j] (List.getElem_mem hjs)
      obtain ⟨x, hx⟩ : ∃ x, srt[j].1 = x := ⟨_, rfl⟩
      rw [hx] at e0
      rw [ha] at e1
      have hgl := hms.lt
      have HBT : Hid (bindTo D srt (j + 1) = bindTo D srt j ++ [(x, D a)]) := by
        show bindTo D srt (j + 1) = _
        rw [bindTo_succ hjs, hx, ha]
        rfl
      have HAJ : Hid (srt[j].2.toNat = a) := by
        show srt[j].2.toNat = a
        rw [ha]
        rfl
      have HMEM : Hid (srt[j] ∈ srt) := List.getElem_mem hjs
      obtain ⟨wqs, hwqs⟩ : ∃ q, wr.heap.size = q := ⟨_, rfl⟩
      have hgl2 : gs < wqs := by omega
      have hzr2 : z < wqs := by omega
      have hal : Below wr.heap.size wr (wr.alloc (.cells #[] 40)) := (Below.refl _ wr).alloc (Nat.le_refl _) _
      have hald : Below wr.heap.size wr (wr.alloc (.cells #[] 40)).drew := Below.step hal ⟨rfl, rfl, rfl, Nat.le_refl _, fun _ _ => rfl⟩
      have HCALL : Hid (Calls Tryz.prog 38 #[.agg #[.slice (some ⟨g, 0, none⟩) n c, .int .i64 wk], .int .i64 (a : Int), .slice (some ⟨wqs, 0, none⟩) 0 0] (wr.alloc (.cells #[] 40)).drew fun e w' => ∃ (g5 l5 c5 : Nat) (zs5 : List Nd), e = .returned (.slice (some ⟨g5, 0, none⟩) l5 c5) ∧ OwnN w' wqs g5 c5 l5 zs5 ∧ OutOk [] (D a) zs5 ∧ Below wqs wr w') := by
        have hO9 := (OwnN.empty (w := wr) (B := wqs) (by omega)).below (w' := (wr.alloc (.cells #[] 40)).drew) ⟨rfl, rfl, rfl, Nat.le_refl _, fun _ _ => rfl⟩
        rw [hwqs] at hO9
        have hbq := hb.size
        have hSr : Sto (wr.alloc (.cells #[] 40)).drew Bs g c st ka lk mk := (HS.out.below (by rw [hz]; exact hb)).below hald
        refine (out_any st n HL hn ka HK lk mk rk HR HG D HD Bs g c wk wqs (fun q hq => HOFF.out q (by omega)) (rk a) a rfl han [] wqs 0 0 _ (by omega) hSr hO9).mono ?_
        rintro e w' ⟨g5, l5, c5, zs5, rfl, h1, h2, h3, h4⟩
        refine ⟨g5, l5, c5, zs5, rfl, h1, h2, ?_⟩
        rw [hwqs] at hald
        have hs9 := hald.size
        exact hald.trans (h3.below (by omega) (fun q hq => by omega))
      clear hx ha hal
      go_wp2_with fail
      go_cut [9] from 19 to 26 (fun v wx => ∃ (g5 l5 c5 : Nat) (zs5 : List Nd), v = .slice (some ⟨g5, 0, none⟩) l5 c5 ∧ OwnN wx wqs g5 c5 l5 zs5 ∧ OutOk [] (D a) zs5 ∧ Below wqs wr wx)
      case first =>
        clear HBT HAJ HMEM HSM HL HK HR HG HD HOFF HS hown htw hrb hms hall hb hbx hald
        go_region_with (go_at_call 38; refine HCALL.out.mono ?_; rintro e w5 ⟨g5, l5, c5, zs5, rfl, hm1, hm2, hm3⟩)
        all_goals (try go_wp2_with fail)
        all_goals go_meet
        all_goals exact ⟨g5, l5, c5, zs5, rfl, hm1, hm2, hm3⟩
      case rest =>
        obtain ⟨g5, l5, c5, zs5, rfl, hO5, hok5, hb5⟩ := hcut
        have hb5' : Below wr.heap.size wr wc := by rw [hwqs]; exact hb5
        have hl5 := hO5.1
        have h301 := hok5.2.2
        have hbc : Below z w wc := hb.trans (hb5.mono (by have := hb.size; omega))
        obtain ⟨hg5, hrow5⟩ := hO5.row
        clear HCALL hald b0 b1
        by_cases h5 : l5 > 300
        · have HRES : Hid (BindsRes D srt [] false) := by
            refine ⟨(fun h => by cases h), fun _ => ⟨rfl, srt[j], HMEM.out, ?_⟩⟩
            rw [HAJ.out]
            have h8 := hok5.large (by omega)
            simpa using h8
          have hfin := hbc.alloc (by have := hbc.size; omega) (.cells #[] 91)
          clear hown htw hrb hms hall hb hbx hO5 hrow5 hok5 e0 e1
          go_wp2
          go_ret2
          exact ⟨_, 0, 0, [], false, rfl, rfl, .inl rfl, by rw [hz]; exact hfin, by rw [HSRT.out]; exact HRES.out⟩
        · have HE : Hid (zs5 = D a) := by
            have h8 := hok5.small (by omega)
            show zs5 = D a
            simpa using h8
          have hown5 := hown.below hb5'
          have htw5 := htw.below hb5'
          have hms5 := hms.below hb5'
          have e0' := (hb5'.cell (p := ⟨gs, j * 2, none⟩) hgl).trans e0
          have hgl5 := hms5.lt
          have hob5 := owns_block hown5.2
          have hmm := htw.mem_lt
          have HRB : Hid (∀ r ∈ rs, z ≤ r.1) := hrb
          have HMM : Hid (∀ r ∈ rs, r.1 < wr.heap.size ∧ r.1 ≠ go) := hmm
          have hgo : go < wr.heap.size := (owns_block hown.2).2
          have hrl := hrow5.lt
          have hbx5 := (hb5'.block z hzr).trans hbx
          have HALL : Hid (∀ p ∈ srt.take (j + 1), (D p.2.toNat).length ≤ 300) := by
            intro p hp
            rw [List.take_succ_eq_append_getElem hjs] at hp
            rcases List.mem_append.1 hp with h9 | h9
            · exact hall p h9
            · simp only [List.mem_singleton] at h9
              subst h9
              rw [HAJ.out, ← HE.out]
              omega
          clear hown htw hrb hms hall hb hbx hO5 hok5 e0 e1 hmm
          go_wp2_with (at_builtin; refine wpList_append2 _ rfl (.tmp 31) (.tmp 39) 25 rfl z 91 i1 _ 2 32 Tryz.underlying25 hj1 hy0 hy1 hy2 rfl (by decide) go j co _ rfl (hown5.alloc _).2 ⟨_, 0, none⟩ 1 1 [.int .i64 x, .slice (some ⟨g5, 0, none⟩) l5 c5] rfl rfl (bind_cells _ x _) (bind_one _ _ _ _) ?a3 ?a4 ?a5 ?_)
          case a3 => unfold maxLen; omega
          case a4 => omega
          case a5 => simp; omega
          intro go2 co2 w7 hown7 hgrow7 hwh7
          have hO := OwnBs.push (x := (.int .i64 x, .slice (some ⟨g5, 0, none⟩) l5 c5)) hown7 hown5.1 rfl
          have hb7 : Below z w w7 := (hbc.alloc (by have := hbc.size; omega) _).grown hgrow7 (by simp; omega) (fun q hq => by cases hq; exact hob5.1)
          have hal : Below wc.heap.size wc (wc.alloc (.cells #[.int .i64 x, .slice (some ⟨g5, 0, none⟩) l5 c5] 91)) := (Below.refl _ wc).alloc (Nat.le_refl _) _
          have hms7 := (hms5.below hal).kept hgrow7 (Ne.symm hgn)
          have hgo2 : go2 ≠ gs ∧ z < go2 := by rcases hwh7 with h | h <;> (try simp at h) <;> omega
          have hrow7 := (hrow5.below hal).kept hgrow7 (show g5 ≠ go by omega)
          have hbx7 := (hgrow7.block z (by simp; omega) (by simp; omega)).trans ((hal.block z (by omega)).trans hbx5)
          have htw7 : TwoR w7 go2 (rs ++ [(g5, c5)]) (bindTo D srt (j + 1)) := by
            rw [HBT.out, ← HE.out]
            refine TwoR.snoc htw5 (by rw [hl5]; exact hO.row.2) (fun i h1 h2 => ?_) hrow7 (fun r hr => ?_)
            · have h9 := (htw5.below hal).rows i h1 h2
              exact h9.kept hgrow7 (HMM.out _ (List.getElem_mem h1)).2
            · have := (HMM.out r hr).1
              omega
          have hO7 : OwnBs w7 z go2 co2 (j + 1) (leadR (rs ++ [(g5, c5)]) (bindTo D srt (j + 1))) := by
            rw [HBT.out, ← HE.out]
            have e9 : leadR (rs ++ [(g5, c5)]) (bindTo D srt j ++ [(x, zs5)]) = leadR rs (bindTo D srt j) ++ [(.int .i64 x, .slice (some ⟨g5, 0, none⟩) l5 c5)] := by
              unfold leadR
              rw [List.zipWith_append htw5.len, ← hl5]
              rfl
            rw [e9]
            exact hO
          have HRB2 : Hid (∀ r ∈ rs ++ [(g5, c5)], z ≤ r.1) := by
            intro r hr
            rcases List.mem_append.1 hr with h9 | h9
            · exact HRB.out r h9
            · simp only [List.mem_singleton] at h9
              subst h9
              have := hbc.size
              simp only
              omega
          clear hown7 hgrow7 hwh7 hO htw5 hown5 hms5 hrow5 hrow7 hbx5 e0' hal
          go_wp2
          go_roundw
          case rel => exact ⟨j + 1, go2, co2, rs ++ [(g5, c5)], by omega, by go_num, rfl, hO7, htw7, HRB2.out, hms7, hgo2.1, hgo2.2, HALL.out, hb7, hbx7⟩
          case measure => simp [intOf]; omega
    · have hje : j = l := by omega
      subst hje
      rw [List.take_of_length_le (by omega)] at hall
      have HRES : Hid (BindsRes D srt (bindTo D srt j) true) := ⟨fun _ => ⟨by rw [hsl], hall⟩, fun h => by cases h⟩
      have HANS : Hid (BAns wr z (some ⟨go, 0, none⟩) (bindTo D srt j)) := .inr ⟨go, rs, rfl, by omega, hrb, htw⟩
      have HLEN : Hid ((bindTo D srt j).length = j) := by
        show (bindTo D srt j).length = j
        simp [bindTo, hsl]
      clear hown htw hrb hms hall hbx
      go_wp2
      go_ret2
      exact ⟨_, j, _, bindTo D srt j, true, rfl, HLEN.out, by rw [hz]; exact HANS.out, by rw [hz]; exact hb, by rw [HSRT.out]; exact HRES.out⟩

/-- What l8Inside leaves. -/
def IRes (st : List SK) (ka : Nat → Option Addr × Nat) (lk : Nat → Option Nat) (B g c : Nat) (wk : Int) (mt i : Nat) (mk : Nat → Int) (G : Nat → Prop) (w : World) (b : Bool) (w' : World) : Prop :=
  ∃ mk', Sto w' B g c st ka lk mk' ∧ But (· = g) w w' ∧ (∀ m, mk m = wk → mk' m = wk) ∧ (∀ m, mk' m = mk m ∨ mk' m = wk) ∧ (b = true → Rch st lk i mt) ∧
    (b = false → mk' mt ≠ wk ∧ Closed st lk (fun m => mk' m = wk) G ∧ ∀ q, Rt lk i q → mk' q = wk)

theorem IRes.back {st : List SK} {ka : Nat → Option Addr × Nat} {lk : Nat → Option Nat} {B g c : Nat} {wk : Int} {mt i : Nat} {mk : Nat → Int} {G : Nat → Prop} {w W w' : World} {b : Bool} (h : IRes st ka lk B g c wk mt i mk G W b w') (hb : Below w.heap.size w W) : IRes st ka lk B g c wk mt i mk G w b w' := by
  obtain ⟨mk', h1, h2, h3⟩ := h
  exact ⟨mk', h1, (But.ofBelow hb).trans h2, h3⟩

set_option maxRecDepth 100000 in
set_option maxHeartbeats 2000000 in
theorem inside_any (st : List SK) (n : Nat) (HL : Hid (st.length = n)) (ka : Nat → Option Addr × Nat) (lk : Nat → Option Nat) (rk : Nat → Nat) (HR : Hid (Ranked st lk rk)) (HG : Hid (∀ i j, lk i = some j → i < st.length ∧ j < st.length)) (HK : Hid (Sts st))
    (B g c : Nat) (wk : Int) (mt : Nat) (hmt : mt < n) :
    ∀ (N i : Nat), rk i = N → i < n → ∀ (mk : Nat → Int) (G : Nat → Prop) (w : World), Sto w B g c st ka lk mk → Hid (Closed st lk (fun m => mk m = wk) G) → Hid (mk mt ≠ wk) →
      Calls Tryz.prog 36 #[.agg #[.slice (some ⟨g, 0, none⟩) n c, .int .i64 wk], .int .i64 (mt : Int), .int .i64 (i : Int)] w fun e w' => ∃ b, e = .returned (.bool b) ∧ IRes st ka lk B g c wk mt i mk G w b w' := by
  intro N
  induction N using Nat.strongRecOn with
  | ind N ih =>
    intro i hN hi mk G w hS HC HM
    obtain ⟨q, hq⟩ := HR.out.rt i
    have hqn : q < n := by
      have key : ∀ {i q}, Rt lk i q → i < n → q < n := by
        intro i q h
        induction h using Rt.elim with
        | root _ => intro h; exact h
        | step h1 _ ih2 => intro _; exact ih2 (by have := (HG.out _ _ h1).2; have := HL.out; omega)
      exact key hq hi
    have hrq : rk q ≤ rk i := by
      have key : ∀ {i q}, Rt lk i q → rk q ≤ rk i := by
        intro i q h
        induction h using Rt.elim with
        | root _ => exact Nat.le_refl _
        | step h1 _ ih2 => have := HR.out.link _ _ h1; omega
      exact key hq
    have hlq : lk q = none := hq.is_root
    have HQ : Hid (Rt lk i q) := hq
    have hgw := hS.block
    have hA : Below w.heap.size w (w.alloc (.cells #[.slice (some ⟨g, 0, none⟩) n c, .int .i64 wk] 50)) := (Below.refl _ w).alloc (Nat.le_refl _) _
    go_enter Tryz.func36, Tryz.ntmps36
    go_wp2_with fail
    refine (find_any st n HL ka lk mk rk HR HG B g c wk _ (hS.below hA) i q hi hq).mono ?_
    rintro e w1 ⟨rfl, hb1⟩
    have hbb1 := Below.step hA hb1
    have hS1 := hS.below hbb1
    have hz : w.heap.size < w1.heap.size := by have := hb1.size; simp at this; omega
    have hblk : w1.heap[w.heap.size]? = some (.cells #[.slice (some ⟨g, 0, none⟩) n c, .int .i64 wk] 50 (0, 0)) := (hb1.block _ (by simp)).trans (heap_alloc_new _ _)
    obtain ⟨z, hze⟩ : ∃ z, w.heap.size = z := ⟨_, rfl⟩
    have HZ : Hid (w.heap.size = z) := hze
    rw [hze] at hz hblk ⊢
    have hgz : g ≠ z := by omega
    have x0 : w1.cell? ⟨z, 0, none⟩ = some (.slice (some ⟨g, 0, none⟩) n c) := by rw [cell_of_row _ _ _ _ _ _ hblk]; rfl
    have x1 : w1.cell? ⟨z, 1, none⟩ = some (.int .i64 wk) := by rw [cell_of_row _ _ _ _ _ _ hblk]; rfl
    clear hA hb1 hS hq
    by_cases hqm : q = mt
    · subst hqm
      have HRES : Hid (IRes st ka lk B g c wk q i mk G w true w1) := ⟨mk, hS1, But.ofBelow hbb1, fun m h => h, fun m => Or.inl rfl, fun _ => HQ.out.rch, fun h => by cases h⟩
      clear hS1 hbb1
      go_wp2
      go_ret
      exact ⟨_, rfl, HRES.out⟩
    · have tq : ((q : Int) == (mt : Int)) = false := by simp; omega
      have d5 : w1.cell? ⟨g, q * 6 + 5, none⟩ = some (.int .i64 (mk q)) := by
        rw [hS1.cell q 5 (by have := HL.out; omega) (by omega)]
        rfl
      have hg1 : g < w1.heap.size := hS1.block.2
      by_cases hmk : mk q = wk
      · have tm : (mk q == wk) = true := by simpa using hmk
        have HRES : Hid (∀ W, Below w1.heap.size w1 W → IRes st ka lk B g c wk mt i mk G w false W) := by
          intro W hW
          refine ⟨mk, hS1.below hW, But.ofBelow (Below.step hbb1 hW), fun m h => h, fun m => Or.inl rfl, (fun h => by cases h), fun _ => ⟨HM.out, HC.out, ?_⟩⟩
          intro p hp
          rw [← HQ.out.fun hp]
          exact hmk
        clear hS1 hbb1 hblk
        go_wp2_with fail
        go_quiet (fail)
        go_wp2
        go_ret
        exact ⟨_, rfl, HRES.out _ (below_drewN _ _)⟩
      · have tm : (mk q == wk) = false := by simpa using hmk
        go_wp2_with fail
        go_quiet (fail)
        have hdr := below_drewN w1 nq
        have hS2 := hS1.below hdr
        have hbb2 := Below.step hbb1 hdr
        have hblk2 := (hdr.block z hz).trans hblk
        have x0' := (hdr.cell (p := ⟨z, 0, none⟩) hz).trans x0
        have x1' := (hdr.cell (p := ⟨z, 1, none⟩) hz).trans x1
        have hz2 : z < (w1.drewN nq).heap.size := hz
        have hg2 : g < (w1.drewN nq).heap.size := hg1
        clear hdr x0 x1 hz hg1 hS1 hbb1 hblk d5
        generalize w1.drewN nq = W2 at *
        have f5 := hS2.frozen (q * 6 + 5)
        have hS3 := hS2.setMark q wk (by have := HL.out; omega)
        have hbu3 : But (· = g) W2 (W2.setCell ⟨g, q * 6 + 5, none⟩ (.int .i64 wk)) := (But.refl (· = g) W2).setCell (p := ⟨g, q * 6 + 5, none⟩) rfl _
        have y0 : (W2.setCell ⟨g, q * 6 + 5, none⟩ (.int .i64 wk)).heap[z]? = some (.cells #[.slice (some ⟨g, 0, none⟩) n c, .int .i64 wk] 50 (0, 0)) := (hbu3.block z hz2 (Ne.symm hgz)).trans hblk2
        have hbw3 : But (· = g) w (W2.setCell ⟨g, q * 6 + 5, none⟩ (.int .i64 wk)) := (But.ofBelow hbb2).trans hbu3
        obtain ⟨d5, hd5⟩ : ∃ d, W2.cell? ⟨g, q * 6 + 5, none⟩ = some d := ⟨_, by rw [hS2.cell q 5 (by have := HL.out; omega) (by omega)]; rfl⟩
        have hmq : (updM mk q wk) mt ≠ wk := by simp [updM, Ne.symm hqm]; exact HM.out
        obtain ⟨kl, hkl⟩ : ∃ kl, (sk st q).kids.length = kl := ⟨_, rfl⟩
        have HKL : Hid ((sk st q).kids.length = kl) := hkl
        have hkl6 : kl ≤ 6000 := by have := HK.out.few q; omega
        have HMK : Hid (∀ m, updM mk q wk m = mk m ∨ updM mk q wk m = wk) := by
          intro m
          unfold updM
          by_cases e : m = q
          · rw [if_pos e]; exact Or.inr rfl
          · rw [if_neg e]; exact Or.inl rfl
        have HMQ : Hid (∀ m, mk m = wk → updM mk q wk m = wk) := by
          intro m h
          show updM mk q wk m = wk
          unfold updM
          split
          · rfl
          · exact h
        have HCQ : Hid (Closed st lk (fun m => updM mk q wk m = wk) (fun m => G m ∨ m = q)) := by
          intro m hm hG k hk p hp
          have hne : m ≠ q := fun e => hG (Or.inr e)
          have hm2 : mk m = wk := by
            have : updM mk q wk m = wk := hm
            unfold updM at this
            rw [if_neg hne] at this
            exact this
          exact HMQ.out p (HC.out m hm2 (fun h => hG (Or.inl h)) k hk p hp)
        have HQQ : Hid (updM mk q wk q = wk) := by simp [Hid, updM]
        generalize hmk2 : updM mk q wk = mk2 at *
        clear hmk2 HC HM hmk tm hbu3 hblk2 hbb2 hS2
        go_wp2
        go_loopw [7] (fun v wr => ∃ (k : Nat) (mk' : Nat → Int), k ≤ kl ∧ v = .int .i64 (k : Int) ∧ Sto wr B g c st ka lk mk' ∧ But (· = g) w wr ∧ (∀ m, mk m = wk → mk' m = wk) ∧ (∀ m, mk' m = mk m ∨ mk' m = wk) ∧ mk' mt ≠ wk ∧ Closed st lk (fun m => mk' m = wk) (fun m => G m ∨ m = q) ∧ mk' q = wk ∧
            (∀ m (h : m < (sk st q).kids.length), m < k → ∀ p, Rt lk (sk st q).kids[m] p → mk' p = wk) ∧ wr.heap[z]? = some (.cells #[.slice (some ⟨g, 0, none⟩) n c, .int .i64 wk] 50 (0, 0))) (fun v _ => kl - (intOf v).toNat)
        case atStart => exact ⟨0, mk2, Nat.zero_le _, rfl, hS3, hbw3, HMQ.out, HMK.out, hmq, HCQ.out, HQQ.out, fun m _ h => absurd h (by omega), y0⟩
        case round =>
          clear hS3 hbw3 HMQ HMK hmq HCQ HQQ y0 f5 hd5 x0' x1' hz2 hg2
          obtain ⟨k, mk', hk, rfl, hSr, hbr, hm1, hm2, hm3, hcl, hmq, hks, hbx⟩ := hrel
          have hzl : z < wr.heap.size := (Array.getElem?_eq_some_iff.1 hbx).1
          have b0 : wr.cell? ⟨z, 0, none⟩ = some (.slice (some ⟨g, 0, none⟩) n c) := by rw [cell_of_row _ _ _ _ _ _ hbx]; rfl
          have b1 : wr.cell? ⟨z, 1, none⟩ = some (.int .i64 wk) := by rw [cell_of_row _ _ _ _ _ _ hbx]; rfl
          have hgr : g < wr.heap.size := hSr.block.2
          have d3 : wr.cell? ⟨g, q * 6 + 3, none⟩ = some (.slice (ka q).1 kl (ka q).2) := by
            rw [hSr.cell q 3 (by have := HL.out; omega) (by omega)]
            simp [snode, HKL.out]
          by_cases hkk : k < kl
          · have hkx : k < (sk st q).kids.length := by have := HKL.out; omega
            obtain ⟨kb, ko, hka, hkg, hkc⟩ := hSr.kids q k hkx
            obtain ⟨x, hx⟩ : ∃ x, (sk st q).kids[k] = x := ⟨_, rfl⟩
            rw [hx] at hkc
            rw [hka] at d3
            have hxm : x ∈ (sk st q).kids := by rw [← hx]; exact List.getElem_mem hkx
            have hxq : x < q := HK.out.kids q x hxm
            have hkbl : kb < wr.heap.size := lt_of_cell hkc
            obtain ⟨kc, hkc9⟩ : ∃ kc, (ka q).2 = kc := ⟨_, rfl⟩
            rw [hkc9] at d3
            have HCALL : Hid (∀ W, Below wr.heap.size wr W → Calls Tryz.prog 36 #[.agg #[.slice (some ⟨g, 0, none⟩) n c, .int .i64 wk], .int .i64 (mt : Int), .int .i64 (x : Int)] W fun e w' => ∃ b, e = .returned (.bool b) ∧ IRes st ka lk B g c wk mt x mk' (fun m => G m ∨ m = q) wr b w') := by
              intro W hW
              refine (ih (rk x) (by have := HR.out.kid q hlq x hxm; omega) x rfl (by omega) mk' (fun m => G m ∨ m = q) W (hSr.below hW) hcl hm3).mono ?_
              rintro e w' ⟨b, rfl, h⟩
              exact ⟨b, rfl, h.back hW⟩
            have HBR : Hid (But (· = g) w wr) := hbr
            have HM1 : Hid (∀ m, mk m = wk → mk' m = wk) := hm1
            have HM2 : Hid (∀ m, mk' m = mk m ∨ mk' m = wk) := hm2
            have HKS : Hid (∀ m (h : m < (sk st q).kids.length), m < k → ∀ p, Rt lk (sk st q).kids[m] p → mk' p = wk) := hks
            have HMQ : Hid (mk' q = wk) := hmq
            have HX : Hid ((sk st q).kids[k] = x) := hx
            have HBX : Hid (wr.heap[z]? = some (.cells #[.slice (some ⟨g, 0, none⟩) n c, .int .i64 wk] 50 (0, 0))) := hbx
            have hdrew : Below wr.heap.size wr wr.drew := ⟨rfl, rfl, rfl, Nat.le_refl _, fun _ _ => rfl⟩
            clear hSr hbr hm1 hm2 hks hmq hx hbx hcl hm3 ih
            go_wp2_with fail
            go_cut [52] from 30 to 51 (fun v wx => ∃ b : Bool, v = .bool b ∧ IRes st ka lk B g c wk mt x mk' (fun m => G m ∨ m = q) wr b wx)
            case first =>
              go_region_with (go_at_call 36; refine (HCALL.out wr.drew hdrew).mono ?_; rintro e w5 ⟨b5, rfl, hm5⟩)
              all_goals (try go_wp2_with fail)
              all_goals go_meet
              all_goals exact ⟨_, rfl, hm5⟩
            case rest =>
              obtain ⟨b, rfl, hm⟩ := hcut
              obtain ⟨mk3, hS3, hb3, h31, h32, h33, h34⟩ := hm
              have hbw : But (· = g) w wc := HBR.out.trans hb3
              have hbx3 : wc.heap[z]? = some (.cells #[.slice (some ⟨g, 0, none⟩) n c, .int .i64 wk] 50 (0, 0)) := (hb3.block z hzl (Ne.symm hgz)).trans HBX.out
              have H1 : Hid (∀ m, mk m = wk → mk3 m = wk) := fun m h => h31 m (HM1.out m h)
              have H2 : Hid (∀ m, mk3 m = mk m ∨ mk3 m = wk) := by
                intro m
                rcases h32 m with h | h
                · rcases HM2.out m with h5 | h5
                  · exact Or.inl (h.trans h5)
                  · exact Or.inr (h.trans h5)
                · exact Or.inr h
              cases b
              · obtain ⟨h41, h42, h43⟩ := h34 rfl
                have H4 : Hid (∀ m (h : m < (sk st q).kids.length), m < k + 1 → ∀ p, Rt lk (sk st q).kids[m] p → mk3 p = wk) := by
                  intro m hm9 hmk p hp
                  by_cases e : m = k
                  · subst e
                    rw [HX.out] at hp
                    exact h43 p hp
                  · exact h31 p (HKS.out m hm9 (by omega) p hp)
                have H5 : mk3 q = wk := h31 q HMQ.out
                clear h31 h32 h33 h34 h43 d3 hkc b0 b1
                go_wp2
                go_roundw
                case rel => exact ⟨k + 1, mk3, by omega, by go_num, hS3, hbw, H1.out, H2.out, h41, h42, H5, H4.out, hbx3⟩
                case measure => simp [intOf]; omega
              · have HRES : Hid (IRes st ka lk B g c wk mt i mk G w true wc) := ⟨mk3, hS3, hbw, H1.out, H2.out, (fun _ => HQ.out.rch.trans (.kid hlq hxm (h33 rfl))), fun h => by cases h⟩
                clear h31 h32 h33 h34 d3 hkc b0 b1 hS3 hbw hbx3 hb3
                go_wp2
                go_ret
                exact ⟨_, rfl, HRES.out⟩
          · have HRES : Hid (IRes st ka lk B g c wk mt i mk G w false wr) := by
              refine ⟨mk', hSr, hbr, hm1, hm2, (fun h => by cases h), fun _ => ⟨hm3, ?_, ?_⟩⟩
              · intro m hm hGm kx hkx p hp
                by_cases e : m = q
                · subst e
                  obtain ⟨j, hj, rfl⟩ := List.getElem_of_mem hkx
                  exact hks j hj (by have := HKL.out; omega) p hp
                · exact hcl m hm (fun h => h.elim hGm e) kx hkx p hp
              · intro p hp
                rw [← HQ.out.fun hp]
                exact hmq
            clear hSr hbr hm1 hm2 hks hmq hbx hcl hm3 ih
            go_wp2
            go_ret
            exact ⟨_, rfl, HRES.out⟩

end Go.Proofs.YtahdmflbdmlfhaaGreatDoor

import Derived.Test.YtoiiibplkhedcaaGreatDoorUOut
namespace Go.Proofs.YtoiiibplkhedcaaGreatDoor
open Go.RowKit
def bindTo (D : Nat → List Nd) (srt : List (Int × Int)) (j : Nat) : List (Int × List Nd) := (srt.take j).map fun p => (p.1, D p.2.toNat)
theorem bindTo_succ {D : Nat → List Nd} {srt : List (Int × Int)} {j : Nat} (hj : j < srt.length) : bindTo D srt (j + 1) = bindTo D srt j ++ [(srt[j].1, D srt[j].2.toNat)] := by
  unfold bindTo
  rw [List.take_succ_eq_append_getElem hj, List.map_append]
  simp
def BindsRes (D : Nat → List Nd) (srt : List (Int × Int)) (bs : List (Int × List Nd)) (ok : Bool) : Prop :=
  (ok = true → bs = bindTo D srt srt.length ∧ ∀ p ∈ srt, (D p.2.toNat).length ≤ 300) ∧ (ok = false → bs = [] ∧ ∃ p ∈ srt, 300 < (D p.2.toNat).length)
set_option maxRecDepth 100000 in
set_option maxHeartbeats 4000000 in
theorem binds_any (st : List SK) (n : Nat) (HL : Hid (st.length = n)) (hn : n ≤ 1048576) (ka : Nat → Option Addr × Nat) (HK : Hid (Sts st)) (lk : Nat → Option Nat) (mk : Nat → Int) (rk : Nat → Nat) (HR : Hid (Ranked st lk rk)) (HG : Hid (∀ i j, lk i = some j → i < st.length ∧ j < st.length)) (D : Nat → List Nd) (HD : Hid (IsD st lk D)) (Bs g c : Nat) (wk : Int) (ms : List (Int × Nat)) (l : Nat) (HML : Hid (ms.length = l)) (hl : l ≤ 1048576) (HMA : Hid (∀ p ∈ ms, p.2 < n)) (gm cm : Nat) (w : World) (hS : Sto w Bs g c st ka lk mk) (hM : MRow w gm (msI ms)) :
    Calls Tryz.prog 39 #[.agg #[.slice (some ⟨g, 0, none⟩) n c, .int .i64 wk], .slice (some ⟨gm, 0, none⟩) l cm] w fun e w' => ∃ (ao : Option Addr) (l' c' : Nat) (bs : List (Int × List Nd)) (ok : Bool), e = .returned (.tuple #[.slice ao l' c', .bool ok]) ∧ bs.length = l' ∧ BAns w' w.heap.size ao bs ∧ Below w.heap.size w w' ∧ BindsRes D (sortedM (msI ms)) bs ok := by
  obtain ⟨i1, hj1, hy0, hy1, hy2⟩ := info_parts Tryz.infoB
  obtain ⟨z, hz⟩ : ∃ z, w.heap.size = z := ⟨_, rfl⟩
  have HOFF : Hid (∀ q, z ≤ q → g ≠ q ∧ KOff st ka q) := by
    intro q hq
    exact ⟨by have := hS.block.2; omega, hS.toV.klt (by omega)⟩
  have hgw := hS.block
  have HS : Hid (Sto w Bs g c st ka lk mk) := hS
  have HM : Hid (MRow w gm (msI ms)) := hM
  clear hS hM
  go_enter Tryz.func39, Tryz.ntmps39
  have hA1 : Below w.heap.size w (w.alloc (.cells #[.slice (some ⟨g, 0, none⟩) n c, .int .i64 wk] 78)) := (Below.refl _ w).alloc (Nat.le_refl _) _
  have hA2 := hA1.alloc hA1.size (.cells #[] 54)
  have hO0 := OwnBs.empty (w := w.alloc (.cells #[.slice (some ⟨g, 0, none⟩) n c, .int .i64 wk] 78)) (B := z) (by simp; omega)
  have hsz1 : (w.alloc (.cells #[.slice (some ⟨g, 0, none⟩) n c, .int .i64 wk] 78)).heap.size = z + 1 := by simp [hz]
  rw [hsz1] at hO0
  have hzb : ((w.alloc (.cells #[.slice (some ⟨g, 0, none⟩) n c, .int .i64 wk] 78)).alloc (.cells #[] 54)).heap[z]? = some (.cells #[.slice (some ⟨g, 0, none⟩) n c, .int .i64 wk] 78 (0, 0)) := by
    rw [heap_alloc_old _ _ (by omega), ← hz]
    exact heap_alloc_new _ _
  have hsz2 : ((w.alloc (.cells #[.slice (some ⟨g, 0, none⟩) n c, .int .i64 wk] 78)).alloc (.cells #[] 54)).heap.size = z + 2 := by simp [hz]
  go_wp2_with fail
  refine (sorted_any (msI ms) l (by show (msI ms).length = l; rw [msI_length]; exact HML.out) hl gm cm _ (HM.out.below hA2)).mono ?_
  rintro e w2 ⟨gs, cs, rfl, hgs, hrs, hb2⟩
  rw [hsz2] at hgs
  have hbb := Below.step hA2 hb2
  have hO2 := hO0.below hb2
  have hzb2 := (hb2.block z (by omega)).trans hzb
  have hsl : (sortedM (msI ms)).length = l := by rw [sortedM_length, msI_length]; exact HML.out
  have HSM : Hid (∀ p ∈ sortedM (msI ms), ∃ a : Nat, a < n ∧ p.2 = (a : Int)) := by
    intro p hp
    obtain ⟨q, hq, rfl⟩ := List.mem_map.1 (sortedM_mem _ _ hp)
    exact ⟨q.2, HMA.out q hq, rfl⟩
  clear hA1 hA2 hO0 hsz1 hsz2 hzb hb2 HM HMA
  obtain ⟨srt, hsrt⟩ : ∃ srt, sortedM (msI ms) = srt := ⟨_, rfl⟩
  have HSRT : Hid (sortedM (msI ms) = srt) := hsrt
  rw [hsrt] at hrs hsl HSM
  clear hsrt
  rw [hz] at hbb
  go_wp2
  go_loopw [6, 8] (fun v p wq => ∃ (j go co : Nat) (rs : List (Nat × Nat)), j ≤ l ∧ p = .int .i64 j ∧ v = .slice (some ⟨go, 0, none⟩) j co ∧ OwnBs wq z go co j (leadR rs (bindTo D srt j)) ∧ TwoR wq go rs (bindTo D srt j) ∧ (∀ r ∈ rs, z ≤ r.1) ∧ MRow wq gs srt ∧ go ≠ gs ∧ z < go ∧ (∀ p ∈ srt.take j, (D p.2.toNat).length ≤ 300) ∧ Below z w wq ∧ wq.heap[z]? = some (.cells #[.slice (some ⟨g, 0, none⟩) n c, .int .i64 wk] 78 (0, 0))) (fun _ p _ => l - (intOf p).toNat)
  case atStart => exact ⟨0, z + 1, 0, [], Nat.zero_le _, rfl, rfl, by simpa [leadR, bindTo] using hO2, ⟨by simp [bindTo], by simpa [leadR, bindTo] using hO2.row.2, by simp [bindTo], by simp⟩, by simp, hrs, by omega, by omega, by simp, hbb, hzb2⟩
  case round =>
    clear hO2 hrs hbb hzb2
    obtain ⟨j, go, co, rs, hj, rfl, rfl, hown, htw, hrb, hms, hgn, hzg, hall, hb, hbx⟩ := hrel
    obtain ⟨b0, b1, b2, b3, hzr⟩ := box_cells hbx
    clear b2 b3
    by_cases hjl : j < l
    · have hjs : j < srt.length := by omega
      obtain ⟨e0, e1⟩ := hms.at j hjs
      obtain ⟨a, han, ha⟩ := HSM.out srt[j] (List.getElem_mem hjs)
      obtain ⟨x, hx⟩ : ∃ x, srt[j].1 = x := ⟨_, rfl⟩
      rw [hx] at e0
      rw [ha] at e1
      have hgl := hms.lt
      have HBT : Hid (bindTo D srt (j + 1) = bindTo D srt j ++ [(x, D a)]) := by
        show bindTo D srt (j + 1) = _
        rw [bindTo_succ hjs, hx, ha]
        rfl
      have HAJ : Hid (srt[j].2.toNat = a) := by
        show srt[j].2.toNat = a
        rw [ha]
        rfl
      have HMEM : Hid (srt[j] ∈ srt) := List.getElem_mem hjs
      obtain ⟨wqs, hwqs⟩ : ∃ q, wr.heap.size = q := ⟨_, rfl⟩
      have hgl2 : gs < wqs := by omega
      have hzr2 : z < wqs := by omega
      have hal : Below wr.heap.size wr (wr.alloc (.cells #[] 43)) := (Below.refl _ wr).alloc (Nat.le_refl _) _
      have hald : Below wr.heap.size wr (wr.alloc (.cells #[] 43)).drew := Below.step hal ⟨rfl, rfl, rfl, Nat.le_refl _, fun _ _ => rfl⟩
      have HCALL : Hid (Calls Tryz.prog 73 #[.agg #[.slice (some ⟨g, 0, none⟩) n c, .int .i64 wk], .int .i64 (a : Int), .slice (some ⟨wqs, 0, none⟩) 0 0] (wr.alloc (.cells #[] 43)).drew fun e w' => ∃ (g5 l5 c5 : Nat) (zs5 : List Nd), e = .returned (.slice (some ⟨g5, 0, none⟩) l5 c5) ∧ OwnN w' wqs g5 c5 l5 zs5 ∧ OutOk [] (D a) zs5 ∧ Below wqs wr w') := by
        have hO9 := (OwnN.empty (w := wr) (B := wqs) (by omega)).below (w' := (wr.alloc (.cells #[] 43)).drew) ⟨rfl, rfl, rfl, Nat.le_refl _, fun _ _ => rfl⟩
        rw [hwqs] at hO9
        have hbq := hb.size
        have hSr : Sto (wr.alloc (.cells #[] 43)).drew Bs g c st ka lk mk := (HS.out.below (by rw [hz]; exact hb)).below hald
        refine (out_any st n HL hn ka HK lk mk rk HR HG D HD Bs g c wk wqs (fun q hq => HOFF.out q (by omega)) (rk a) a rfl han [] wqs 0 0 _ (by omega) hSr hO9).mono ?_
        rintro e w' ⟨g5, l5, c5, zs5, rfl, h1, h2, h3, h4⟩
        refine ⟨g5, l5, c5, zs5, rfl, h1, h2, ?_⟩
        rw [hwqs] at hald
        have hs9 := hald.size
        exact hald.trans (h3.below (by omega) (fun q hq => by omega))
      clear hx ha hal
      go_wp2_with fail
      go_cut [9] from 19 to 26 (fun v wx => ∃ (g5 l5 c5 : Nat) (zs5 : List Nd), v = .slice (some ⟨g5, 0, none⟩) l5 c5 ∧ OwnN wx wqs g5 c5 l5 zs5 ∧ OutOk [] (D a) zs5 ∧ Below wqs wr wx)
      case first =>
        clear HBT HAJ HMEM HSM HL HK HR HG HD HOFF HS hown htw hrb hms hall hb hbx hald
        go_region_with (go_at_call 73; refine HCALL.out.mono ?_; rintro e w5 ⟨g5, l5, c5, zs5, rfl, hm1, hm2, hm3⟩)
        all_goals (try go_wp2_with fail)
        all_goals go_meet
        all_goals exact ⟨g5, l5, c5, zs5, rfl, hm1, hm2, hm3⟩
      case rest =>
        obtain ⟨g5, l5, c5, zs5, rfl, hO5, hok5, hb5⟩ := hcut
        have hb5' : Below wr.heap.size wr wc := by rw [hwqs]; exact hb5
        have hl5 := hO5.1
        have h301 := hok5.2.2
        have hbc : Below z w wc := hb.trans (hb5.mono (by have := hb.size; omega))
        obtain ⟨hg5, hrow5⟩ := hO5.row
        clear HCALL hald b0 b1
        by_cases h5 : l5 > 300
        · have HRES : Hid (BindsRes D srt [] false) := by
            refine ⟨(fun h => by cases h), fun _ => ⟨rfl, srt[j], HMEM.out, ?_⟩⟩
            rw [HAJ.out]
            have h8 := hok5.large (by omega)
            simpa using h8
          have hfin := hbc.alloc (by have := hbc.size; omega) (.cells #[] 54)
          clear hown htw hrb hms hall hb hbx hO5 hrow5 hok5 e0 e1
          go_wp2
          go_ret2
          exact ⟨_, 0, 0, [], false, rfl, rfl, .inl rfl, by rw [hz]; exact hfin, by rw [HSRT.out]; exact HRES.out⟩
        · have HE : Hid (zs5 = D a) := by
            have h8 := hok5.small (by omega)
            show zs5 = D a
            simpa using h8
          have hown5 := hown.below hb5'
          have htw5 := htw.below hb5'
          have hms5 := hms.below hb5'
          have e0' := (hb5'.cell (p := ⟨gs, j * 2, none⟩) hgl).trans e0
          have hgl5 := hms5.lt
          have hob5 := owns_block hown5.2
          have hmm := htw.mem_lt
          have HRB : Hid (∀ r ∈ rs, z ≤ r.1) := hrb
          have HMM : Hid (∀ r ∈ rs, r.1 < wr.heap.size ∧ r.1 ≠ go) := hmm
          have hgo : go < wr.heap.size := (owns_block hown.2).2
          have hrl := hrow5.lt
          have hbx5 := (hb5'.block z hzr).trans hbx
          have HALL : Hid (∀ p ∈ srt.take (j + 1), (D p.2.toNat).length ≤ 300) := by
            intro p hp
            rw [List.take_succ_eq_append_getElem hjs] at hp
            rcases List.mem_append.1 hp with h9 | h9
            · exact hall p h9
            · simp only [List.mem_singleton] at h9
              subst h9
              rw [HAJ.out, ← HE.out]
              omega
          clear hown htw hrb hms hall hb hbx hO5 hok5 e0 e1 hmm
          go_wp2_with (at_builtin; refine wpList_append2 _ rfl (.tmp 31) (.tmp 39) 30 rfl z 54 i1 _ 2 32 Tryz.underlying30 hj1 hy0 hy1 hy2 rfl (by decide) go j co _ rfl (hown5.alloc _).2 ⟨_, 0, none⟩ 1 1 [.int .i64 x, .slice (some ⟨g5, 0, none⟩) l5 c5] rfl rfl (bind_cells _ x _) (bind_one _ _ _ _) ?a3 ?a4 ?a5 ?_)
          case a3 => unfold maxLen; omega
          case a4 => omega
          case a5 => simp; omega
          intro go2 co2 w7 hown7 hgrow7 hwh7
          have hO := OwnBs.push (x := (.int .i64 x, .slice (some ⟨g5, 0, none⟩) l5 c5)) hown7 hown5.1 rfl
          have hb7 : Below z w w7 := (hbc.alloc (by have := hbc.size; omega) _).grown hgrow7 (by simp; omega) (fun q hq => by cases hq; exact hob5.1)
          have hal : Below wc.heap.size wc (wc.alloc (.cells #[.int .i64 x, .slice (some ⟨g5, 0, none⟩) l5 c5] 54)) := (Below.refl _ wc).alloc (Nat.le_refl _) _
          have hms7 := (hms5.below hal).kept hgrow7 (Ne.symm hgn)
          have hgo2 : go2 ≠ gs ∧ z < go2 := by rcases hwh7 with h | h <;> (try simp at h) <;> omega
          have hrow7 := (hrow5.below hal).kept hgrow7 (show g5 ≠ go by omega)
          have hbx7 := (hgrow7.block z (by simp; omega) (by simp; omega)).trans ((hal.block z (by omega)).trans hbx5)
          have htw7 : TwoR w7 go2 (rs ++ [(g5, c5)]) (bindTo D srt (j + 1)) := by
            rw [HBT.out, ← HE.out]
            refine TwoR.snoc htw5 (by rw [hl5]; exact hO.row.2) (fun i h1 h2 => ?_) hrow7 (fun r hr => ?_)
            · have h9 := (htw5.below hal).rows i h1 h2
              exact h9.kept hgrow7 (HMM.out _ (List.getElem_mem h1)).2
            · have := (HMM.out r hr).1
              omega
          have hO7 : OwnBs w7 z go2 co2 (j + 1) (leadR (rs ++ [(g5, c5)]) (bindTo D srt (j + 1))) := by
            rw [HBT.out, ← HE.out]
            have e9 : leadR (rs ++ [(g5, c5)]) (bindTo D srt j ++ [(x, zs5)]) = leadR rs (bindTo D srt j) ++ [(.int .i64 x, .slice (some ⟨g5, 0, none⟩) l5 c5)] := by
              unfold leadR
              rw [List.zipWith_append htw5.len, ← hl5]
              rfl
            rw [e9]
            exact hO
          have HRB2 : Hid (∀ r ∈ rs ++ [(g5, c5)], z ≤ r.1) := by
            intro r hr
            rcases List.mem_append.1 hr with h9 | h9
            · exact HRB.out r h9
            · simp only [List.mem_singleton] at h9
              subst h9
              have := hbc.size
              simp only
              omega
          clear hown7 hgrow7 hwh7 hO htw5 hown5 hms5 hrow5 hrow7 hbx5 e0' hal
          go_wp2
          go_roundw
          case rel => exact ⟨j + 1, go2, co2, rs ++ [(g5, c5)], by omega, by go_num, rfl, hO7, htw7, HRB2.out, hms7, hgo2.1, hgo2.2, HALL.out, hb7, hbx7⟩
          case measure => simp [intOf]; omega
    · have hje : j = l := by omega
      subst hje
      rw [List.take_of_length_le (by omega)] at hall
      have HRES : Hid (BindsRes D srt (bindTo D srt j) true) := ⟨fun _ => ⟨by rw [hsl], hall⟩, fun h => by cases h⟩
      have HANS : Hid (BAns wr z (some ⟨go, 0, none⟩) (bindTo D srt j)) := .inr ⟨go, rs, rfl, by omega, hrb, htw⟩
      have HLEN : Hid ((bindTo D srt j).length = j) := by
        show (bindTo D srt j).length = j
        simp [bindTo, hsl]
      clear hown htw hrb hms hall hbx
      go_wp2
      go_ret2
      exact ⟨_, j, _, bindTo D srt j, true, rfl, HLEN.out, by rw [hz]; exact HANS.out, by rw [hz]; exact hb, by rw [HSRT.out]; exact HRES.out⟩
end Go.Proofs.YtoiiibplkhedcaaGreatDoor

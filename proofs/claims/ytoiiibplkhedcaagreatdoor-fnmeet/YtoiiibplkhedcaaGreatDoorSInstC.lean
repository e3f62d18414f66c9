import Derived.Test.YtoiiibplkhedcaaGreatDoorKSym3
set_option maxRecDepth 100000
set_option maxHeartbeats 2000000
namespace Go.Proofs.YtoiiibplkhedcaaGreatDoor
open Go.RowKit
theorem Qzb (t : List Nd) (ys S : List Sp) (m i : Nat) (s : Sp) (HM : Hid (t.length = m)) (hm : m ≤ 6000) (HA : Hid (Qag t m = some (S, ys))) (HS : Hid (ys[i]? = some s)) (him : i < m) (cc : Nat) (hcc : m ≤ cc) (g gz cz B : Nat) (w : World) (hx : Row w g t) (hz : Ints w B gz cz m (ys.map szOf)) :
    Calls Tryz.prog 55 #[.slice (some ⟨g, 0, none⟩) m cc, .slice (some ⟨gz, 0, none⟩) m cz, .int .i64 (i : Int)] w fun e w' => ∃ g' c, e = .returned (.slice (some ⟨g', 0, none⟩) (i + 1 - s.fr) c) ∧ w.heap.size ≤ g' ∧ Row w' g' (span t s.fr i) ∧ Below w.heap.size w w' := by
  have hf := Qaf HA.out
  have hyl := hf.len
  obtain ⟨hlt, he⟩ := List.getElem?_eq_some_iff.1 HS.out
  have hr := hf.root i hlt
  rw [he] at hr
  obtain ⟨hrt, hfr, _, _⟩ := hr
  have cz1 : w.cell? ⟨gz, i, none⟩ = some (.int .i64 ((i : Int) - (s.fr : Int) + 1)) := by
    rw [hz.at i (by simp; omega)]
    simp [szOf, he, hrt]
  have hit : i < t.length := by have := HM.out; omega
  have hn := Qsw hx s.fr i hit
  have HL : Hid ((span t s.fr i).length = i + 1 - s.fr) := Qdr t s.fr i hit
  obtain ⟨f, hfe⟩ : ∃ f, s.fr = f := ⟨_, rfl⟩
  rw [hfe] at cz1 hn HL hfr ⊢
  clear hx hz hf he hyl hfe hrt
  go_enter Tryz.func55, Tryz.ntmps55
  go_wp2_with fail
  have e1 : ((i : Int) - ((i : Int) - (f : Int) + 1) + 1).toNat = f := by omega
  rw [e1]
  refine (Jaw (span t f i) (i + 1 - f) HL (by omega) _ _ w hn).mono ?_
  rintro e w1 ⟨g', c, rfl, hg', hr, hb⟩
  clear hn cz1
  go_wp2
  go_ret
  exact ⟨_, _, rfl, hg', hr, hb⟩
theorem Qrb (t : List Nd) (St yt : List Sp) (mg mt i j : Nat) (HT : Hid (Side t mt St yt)) (x : Nd) (sj : Sp) (HS : Hid (yt[j]? = some sj)) (hi : i < mg) (hj : j < mt) (hk : x.kind = 61)
    (cgb ctb : Nat) (hct : mt ≤ ctb) (gb gz cz tb tz ct Bz B q c l : Nat) (rs : List (Nat × Nat)) (bs : List (Int × List Nd)) (w : World) (hx : NodeAt w gb (i * 5) x) (hT : Row w tb t) (hz : Ints w Bz tz ct mt (yt.map szOf))
    (hB : Bst w B q c l rs bs) (HN : Hid ((nums bs).Nodup)) (HO : Hid (∀ p ∈ bs, One p.2)) (HP : Hid (PB bs)) (hl : l ≤ 300) :
    Calls Tryz.prog 27 #[.slice (some ⟨gb, 0, none⟩) mg cgb, .slice (some ⟨gz, 0, none⟩) mg cz, .int .i64 (i : Int), .slice (some ⟨tb, 0, none⟩) mt ctb, .slice (some ⟨tz, 0, none⟩) mt ct, .int .i64 (j : Int), .slice (some ⟨q, 0, none⟩) l c] w
      fun e w' => ∃ v b, e = .returned (.tuple #[v, .bool b]) ∧ MRes B q w bs [x] (span t sj.fr j) v b w' := by
  obtain ⟨i1, hj1, hy0, hy1, hy2⟩ := info_parts Tryz.infoB
  have hmt := HT.out.m300
  have HTO : Hid (One (span t sj.fr j)) := Qjl HT.out.run hj HS.out
  have HTL : Hid ((span t sj.fr j).length = j + 1 - sj.fr) := Qdr t sj.fr j (by have := HT.out.len; omega)
  have HTP : Hid ((span t sj.fr j).all Nd.plainb = true) := Qvz HT.out.plain _ _
  obtain ⟨T, hTT⟩ : ∃ T, span t sj.fr j = T := ⟨_, rfl⟩
  rw [hTT] at HTO HTL HTP ⊢
  obtain ⟨kd, nm, tx, ks, pl⟩ := x
  simp only at hk
  subst hk
  obtain ⟨c0, c1, c2, c3, c4⟩ := hx
  simp only at c0 c1 c2 c3 c4
  have hgl : gb < w.heap.size := Qaa c0
  go_enter Tryz.func27, Tryz.ntmps27
  go_wp2_with fail
  refine (Qzb t yt St mt j sj HT.out.len (by omega) HT.out.run HS hj ctb hct tb tz ct Bz w hT hz).mono ?_
  rintro e w1 ⟨g1, k1, rfl, hg1, hrow1, hb1⟩
  rw [hTT] at hrow1
  obtain ⟨lt, hlt⟩ : ∃ lt, j + 1 - sj.fr = lt := ⟨_, rfl⟩
  rw [hlt] at HTL ⊢
  have hlt3 : lt ≤ 300 := by omega
  have hB1 := hB.below hb1
  have hqw := hB.block
  have HFR0 : Hid (∀ r ∈ rs, r.1 < w.heap.size) := fun r hr => (hB.two.mem_lt r hr).1
  have d1 := (hb1.cell (p := ⟨gb, i * 5 + 1, none⟩) hgl).trans c1
  have hgl1 : gb < w1.heap.size := by have := hb1.size; omega
  clear c0 c1 c2 c3 c4 hT hz hTT hlt hB
  go_wp2_with fail
  refine (Qpu bs l hB1.len (by omega) nm _ c w1 hB1.two.binds).mono ?_
  rintro e w2 ⟨rfl, hb2⟩
  have hB2 := hB1.below hb2
  have hrow2 := hrow1.below hb2
  have d2 := (hb2.cell (p := ⟨gb, i * 5 + 1, none⟩) hgl1).trans d1
  have hbb2 := Below.step hb1 hb2
  have hg1w := hrow1.lt
  clear hB1 hrow1 d1 hb1
  by_cases hp : placeIn (nums bs) nm < bs.length
  · obtain ⟨k, hke⟩ : ∃ k, placeIn (nums bs) nm = k := ⟨_, rfl⟩
    rw [hke] at hp
    have HBI : Hid (Qbs bs nm = (k : Int)) := by
      show Qbs bs nm = _
      unfold Qbs
      rw [show placeIn (bs.map Prod.fst) nm = k from hke, if_pos hp]
    have hkn : k < (nums bs).length := by simpa [nums] using hp
    have hbk : bs[k].1 = nm := by
      have h9 := List.findIdx_getElem (p := (· == nm)) (xs := nums bs) (w := by show placeIn (nums bs) nm < _; omega)
      have h8 : (nums bs)[k] = nm := by
        simp only [beq_iff_eq] at h9
        have e : List.findIdx (· == nm) (nums bs) = k := hke
        simp only [e] at h9
        exact h9
      simpa [nums] using h8
    obtain ⟨U, hU⟩ : ∃ U, bs[k].2 = U := ⟨_, rfl⟩
    have HM : Hid ((nm, U) ∈ bs) := by
      have h9 := List.getElem_mem hp
      have e : bs[k] = (nm, U) := Prod.ext hbk hU
      rw [e] at h9
      exact h9
    have hlr : k < rs.length := by have := hB2.two.len; omega
    obtain ⟨_, hcU, hrU⟩ := hB2.two.get k hp hlr
    rw [hU] at hcU hrU
    obtain ⟨lu, hlu⟩ : ∃ lu, U.length = lu := ⟨_, rfl⟩
    have HLU : Hid (U.length = lu) := hlu
    rw [hlu] at hcU
    have hlu3 : lu ≤ 300 := by have := (HP.out (nm, U) HM.out).1; simp only at this; omega
    obtain ⟨⟨ru, cu⟩, hru⟩ : ∃ r, rs[k] = r := ⟨_, rfl⟩
    rw [hru] at hcU hrU
    simp only at hcU hrU
    have hkl : k < l := by have := hB2.len; omega
    have hqw2 : q < w2.heap.size := hB2.block.2
    rw [HBI.out]
    clear hke hbk hU hlu hru hlr hkn
    go_wp2_with fail
    refine (Qnq U T lu lt HLU HTL _ _ cu k1 w2 hrU.nodes hrow2.nodes (by omega) (by omega)).mono ?_
    rintro e w3 ⟨⟨r, rfl, hr⟩, hb3⟩
    have HR : Hid (r = true ↔ Qyq Nd.sameb U T) := hr
    have hB3 := hB2.below hb3
    have hbb3 := Below.step hbb2 hb3
    clear hr hb3 hrU hrow2 hcU d2 hB2 hbb2
    go_wp2
    go_ret2
    refine ⟨_, _, rfl, But.ofBelow hbb3, ?_, ?_⟩
    · intro h
      have e : U = T := Jax (HR.out.1 h) (HP.out _ HM.out).2 HTP.out
      exact ⟨q, c, l, rs, bs, rfl, hB3, Qwm rfl HN.out HO.out (by rw [← e]; exact HM.out), HP.out, Or.inl rfl⟩
    · intro h
      refine Qra rfl HM.out ?_
      intro e
      subst e
      have := HR.out.2 Quk
      rw [h] at this
      cases this
  · have HBI : Hid (Qbs bs nm = -1) := by
      show Qbs bs nm = _
      unfold Qbs
      rw [show placeIn (bs.map Prod.fst) nm = placeIn (nums bs) nm from rfl, if_neg hp]
    have HNM : Hid (nm ∉ nums bs) := by
      intro h
      have h9 := Qqw h
      rw [show (nums bs).length = bs.length by simp [nums]] at h9
      exact hp h9
    rw [HBI.out]
    have hbl := hB2.block
    have hsz2 := hbb2.size
    go_wp2_with (at_builtin; refine Qac _ rfl (.tmp 49) (.tmp 57) 30 rfl B 54 i1 _ 2 32 Tryz.underlying30 hj1 hy0 hy1 hy2 rfl (by decide) q l c _ rfl (hB2.own.alloc _).2 ⟨_, 0, none⟩ 1 1 [.int .i64 nm, .slice (some ⟨g1, 0, none⟩) lt k1] rfl rfl (Qer _ nm _) (Qho _ _ _ _) ?a3 ?a4 ?a5 ?_)
    case a3 => unfold maxLen; omega
    case a4 => omega
    case a5 => simp; omega
    intro q3 c3 w3 hown3 hgrow3 hwh3
    have hB3 := hB2.snoc hrow2 HTL.out (by omega) (by omega) (fun r hr => by have := HFR0.out r hr; omega) hown3 hgrow3
    have hbut : But (· = q) w w3 := ((But.ofBelow hbb2).alloc _).grown hgrow3 (fun _ => rfl)
    have hq3 : q3 = q ∨ w.heap.size ≤ q3 := by
      rcases hwh3 with h | h
      · exact Or.inl h
      · right; omega
    clear hown3 hgrow3 hwh3 hB2 hrow2 hbb2 d2
    go_wp2
    go_ret2
    refine ⟨_, _, rfl, hbut, ?_, fun h => by cases h⟩
    intro _
    refine ⟨q3, c3, l + 1, _, _, rfl, hB3, Qwo rfl HNM.out HN.out HO.out HTO.out, ?_, hq3⟩
    intro p hp9
    rcases List.mem_append.1 hp9 with h | h
    · exact HP.out p h
    · simp at h
      subst h
      exact ⟨by have := HTL.out; show T.length ≤ 300; omega, HTP.out⟩
theorem Qtq (g t : List Nd) (Sg yg St yt : List Sp) (mg mt : Nat) (HG : Hid (Side g mg Sg yg)) (HT : Hid (Side t mt St yt)) (cgb ctb : Nat) (hct : mt ≤ ctb) :
    ∀ (i j : Nat) (si sj : Sp) (gb gz cz tb tz ct Bz Bt B q c l : Nat) (rs : List (Nat × Nat)) (bs : List (Int × List Nd)) (w : World), i < mg → j < mt → Hid (yg[i]? = some si) → Hid (yt[j]? = some sj) →
      Row w gb g → Ints w Bz gz cz mg (yg.map szOf) → Row w tb t → Ints w Bt tz ct mt (yt.map szOf) → Bst w B q c l rs bs → gb ≠ q ∧ gz ≠ q ∧ tb ≠ q ∧ tz ≠ q → Hid ((nums bs).Nodup) → Hid (∀ p ∈ bs, One p.2) → Hid (PB bs) → Hid (∀ x ∈ nums bs, x ∈ metas g) →
    Calls Tryz.prog 27 #[.slice (some ⟨gb, 0, none⟩) mg cgb, .slice (some ⟨gz, 0, none⟩) mg cz, .int .i64 (i : Int), .slice (some ⟨tb, 0, none⟩) mt ctb, .slice (some ⟨tz, 0, none⟩) mt ct, .int .i64 (j : Int), .slice (some ⟨q, 0, none⟩) l c] w
      fun e w' => ∃ v b, e = .returned (.tuple #[v, .bool b]) ∧ MRes B q w bs (span g si.fr i) (span t sj.fr j) v b w' := by
  intro i
  induction i using Nat.strongRecOn with
  | ind i ih =>
    intro j si sj gb gz cz tb tz ct Bz Bt B q c l rs bs w hi hj HSI HSJ hG hgz hT htz hB hne HN HO HP HM
    have hmg := HG.out.m300
    have hmt := HT.out.m300
    have hlg := HG.out.len
    have hlt := HT.out.len
    have hl : l ≤ 300 := by
      have h1 := Qjt HN.out HM.out
      have h2 := Qhf g
      have h3 := hB.len
      simp only [nums, List.length_map] at h1
      omega
    have hit : i < g.length := by omega
    have hjt : j < t.length := by omega
    obtain ⟨Kg, hKg, hsg, hOg⟩ := Qej HG.out.run hi HSI.out hit
    obtain ⟨Kt, hKt, hst, hOt⟩ := Qej HT.out.run hj HSJ.out hjt
    have hxi := hG.node i hit
    have hxj := hT.node j hjt
    by_cases h61 : g[i].kind = 61
    · have hz := Qaq HG.out.plain g[i] (List.getElem_mem hit) h61
      obtain ⟨_, hn⟩ := hKg.num
      have hK0 : Kg = [] := List.eq_nil_of_length_eq_zero (by omega)
      have e1 : span g si.fr i = [g[i]] := by rw [hsg, hK0]; rfl
      rw [e1]
      exact Qrb t St yt mg mt i j HT g[i] sj HSJ hi hj h61 cgb ctb hct gb gz cz tb tz ct Bt B q c l rs bs w hxi hT htz hB HN HO HP hl
    · have t61 : (g[i].kind == 61) = false := by simpa using h61
      rw [hsg, hst]
      obtain ⟨x, hx⟩ : ∃ x, g[i] = x := ⟨_, rfl⟩
      obtain ⟨y, hy⟩ : ∃ y, t[j] = y := ⟨_, rfl⟩
      obtain ⟨c0, c1, c2, c3, c4⟩ := hxi
      obtain ⟨e0, e1, e2, e3, e4⟩ := hxj
      rw [hx] at c0 c1 c2 c3 c4 h61 t61 ⊢
      rw [hy] at e0 e1 e2 e3 e4 ⊢
      have hgl : gb < w.heap.size := hG.lt
      have htl : tb < w.heap.size := hT.lt
      have hneq := neqF x y
      cases hq : x.eqb y
      · rw [hq] at hneq
        have HNO : Hid (MatchNo bs ((Qae g Kg).flatten ++ [x]) ((Qae t Kt).flatten ++ [y])) := Qrc h61 (fun e => by rw [e, Nd.eqb_refl] at hq; cases hq)
        clear ih hKg hKt hsg hst hOg hOt hG hgz hT htz
        go_enter Tryz.func27, Tryz.ntmps27
        go_wp2_with fail
        go_quiet (fail)
        go_wp2
        go_ret2
        exact ⟨_, _, rfl, But.ofBelow (Qan _ _), (fun h => by cases h), fun _ => HNO.out⟩
      · rw [hq] at hneq
        obtain rfl := Jdj hq
        obtain ⟨n, hn⟩ : ∃ n, Kg.length = n := ⟨_, rfl⟩
        have HQG : Hid (Kg.length = n) := hn
        have HQT : Hid (Kt.length = n) := by
          obtain ⟨_, h1⟩ := hKg.num
          obtain ⟨_, h2⟩ := hKt.num
          rw [hx] at h1
          rw [hy] at h2
          show Kt.length = n
          omega
        have HKG : Hid (KidsAt g yg i Kg) := hKg
        have HKT : Hid (KidsAt t yt j Kt) := hKt
        have HYG : Hid (yg.length = mg) := (Qaf HG.out.run).len
        have HYT : Hid (yt.length = mt) := (Qaf HT.out.run).len
        have HOG : Hid (∀ a ∈ Qae g Kg, One a) := hOg
        have HOT : Hid (∀ a ∈ Qae t Kt, One a) := hOt
        have HIH := ih
        have hqb := hB.block
        have hn6 : n ≤ 300 := by have := hKg.len; omega
        have HK61 : Hid (x.kind ≠ 61) := h61
        have HLF : Hid (∀ a ∈ Qae g Kg, Leafy a) := by
          intro a ha
          obtain ⟨z, _, rfl⟩ := List.mem_map.1 ha
          exact (Qaq HG.out.plain).sub _ _
        clear ih hKg hKt hsg hst hOg hOt hn hq hx hy h61
        go_enter Tryz.func27, Tryz.ntmps27
        go_wp2_with fail
        go_quiet (fail)
        have hd := Qan w nq
        have hG1 := hG.below hd
        have hgz1 := hgz.below hd
        have hT1 := hT.below hd
        have htz1 := htz.below hd
        have hB1 := hB.below hd
        clear hG hgz hT htz hB c0 c1 c2 c3 c4 e0 e1 e2 e3 e4 hneq
        generalize w.drewN nq = W1 at *
        go_wp2_with fail
        refine (Qfn g yg Kg mg i n HG.out.len (by omega) HKG HQG hi HYG _ cgb gz cz Bz W1 hG1.nodes hgz1).mono ?_
        rintro e W2 ⟨Ga, rfl, hia, hb2⟩
        have hG2 := hG1.below hb2
        have hgz2 := hgz1.below hb2
        have hT2 := hT1.below hb2
        have htz2 := htz1.below hb2
        have hB2 := hB1.below hb2
        have hd2 := Below.step hd hb2
        have hs1 := hd.size
        have hga := hia.block
        clear hG1 hgz1 hT1 htz1 hB1 hb2 hd
        go_wp2_with fail
        refine (Qfn t yt Kt mt j n HT.out.len (by omega) HKT HQT hj HYT _ ctb tz ct Bt W2 hT2.nodes htz2).mono ?_
        rintro e W4 ⟨Gb, rfl, hib, hb4⟩
        have hG4 := hG2.below hb4
        have hgz4 := hgz2.below hb4
        have hT4 := hT2.below hb4
        have htz4 := htz2.below hb4
        have hB4 := hB2.below hb4
        have hia4 := hia.below hb4
        have hd4 := Below.step hd2 hb4
        have hs2 := hd2.size
        have hs4 := hd4.size
        have hgb := hib.block
        have hgaw : Ga < W4.heap.size := by have := hia4.block; omega
        have hgbq : Gb ≠ q := by omega
        have hgaq : Ga ≠ q := by omega
        obtain ⟨n1, n2, n3, n4⟩ := hne
        have l1 := hG4.lt
        have l2 := hgz4.block
        have l3 := hT4.lt
        have l4 := htz4.block
        clear hG2 hgz2 hT2 htz2 hB2 hb4 hd2 hia
        go_wp2
        go_loopw [6, 20] (fun v p wr => ∃ (k q' c' l' : Nat) (rs' : List (Nat × Nat)) (bs' : List (Int × List Nd)), k ≤ n ∧ p = .int .i64 k ∧ v = .slice (some ⟨q', 0, none⟩) l' c' ∧ Bst wr B q' c' l' rs' bs' ∧
            MatchOk bs ((Qae g Kg).take k).flatten ((Qae t Kt).take k).flatten bs' ∧ PB bs' ∧ (q' = q ∨ W4.heap.size ≤ q') ∧ But (· = q) W4 wr) (fun _ p _ => n - (intOf p).toNat)
        case atStart => exact ⟨0, q, c, l, rs, bs, Nat.zero_le _, rfl, rfl, hB4, by simpa using Qwn HN.out HO.out, HP.out, Or.inl rfl, But.refl _ _⟩
        case round =>
          obtain ⟨k, q', c', l', rs', bs', hk, rfl, rfl, hBr, hMo, hPr, hq', hbut⟩ := hrel
          clear hB4
          by_cases hkn : k < n
          · have hkg : k < Kg.length := by have := HQG.out; omega
            have hkt : k < Kt.length := by have := HQT.out; omega
            have hia_r := hia4.but hbut hgaq
            have hib_r := hib.but hbut hgbq
            have ca := hia_r.at k (by rw [hia_r.1]; exact hkn)
            have cb := hib_r.at k (by rw [hib_r.1]; exact hkn)
            have ea : (rts Kg)[k]'(by rw [hia_r.1]; exact hkn) = ((Kg[k]).rt : Int) := by simp [rts]
            have eb : (rts Kt)[k]'(by rw [hib_r.1]; exact hkn) = ((Kt[k]).rt : Int) := by simp [rts]
            rw [ea] at ca
            rw [eb] at cb
            have hmg9 := HKG.out.mem k hkg
            have hmt9 := HKT.out.mem k hkt
            have hgar : Ga < wr.heap.size := by have := hia_r.block; omega
            have hgbr : Gb < wr.heap.size := by have := hib_r.block; omega
            have HCALL : Hid (∀ W, Below wr.heap.size wr W → Calls Tryz.prog 27 #[.slice (some ⟨gb, 0, none⟩) mg cgb, .slice (some ⟨gz, 0, none⟩) mg cz, .int .i64 ((Kg[k]).rt : Int), .slice (some ⟨tb, 0, none⟩) mt ctb, .slice (some ⟨tz, 0, none⟩) mt ct, .int .i64 ((Kt[k]).rt : Int), .slice (some ⟨q', 0, none⟩) l' c'] W
                fun e w' => ∃ v b, e = .returned (.tuple #[v, .bool b]) ∧ MRes B q' wr bs' (span g Kg[k].fr Kg[k].rt) (span t Kt[k].fr Kt[k].rt) v b w') := by
              intro W hW
              refine (HIH Kg[k].rt hmg9.2.2 Kt[k].rt Kg[k] Kt[k] gb gz cz tb tz ct Bz Bt B q' c' l' rs' bs' W (by omega) (by omega) hmg9.1 hmt9.1 ((hbut.row hG4 n1).below hW) ((hgz4.but hbut n2).below hW) ((hbut.row hT4 n3).below hW) ((htz4.but hbut n4).below hW) (hBr.below hW) ⟨by omega, by omega, by omega, by omega⟩ hMo.nodup hMo.one hPr ?_).mono ?_
              · intro z hz
                rcases (hMo.mem z).1 hz with h | h
                · exact HM.out z h
                · rw [Qeo] at h
                  obtain ⟨a, ha, hza⟩ := h
                  obtain ⟨s9, _, rfl⟩ := List.mem_map.1 (List.mem_of_mem_take ha)
                  exact Qwj hza
              · rintro e w' ⟨v, b, rfl, hm⟩
                exact ⟨v, b, rfl, hm.back hW⟩
            have HBR : Hid (Bst wr B q' c' l' rs' bs') := hBr
            have HMO : Hid (MatchOk bs ((Qae g Kg).take k).flatten ((Qae t Kt).take k).flatten bs') := hMo
            have HPR : Hid (PB bs') := hPr
            have HBU : Hid (But (· = q) W4 wr) := hbut
            have hwr := hbut.size
            have hqr := hBr.block
            clear hia_r hib_r hBr hMo hPr hbut ea eb hmg9 hmt9 HIH hG4 hgz4 hT4 htz4 hia4 hib
            go_wp2_with fail
            have hdrew : Below wr.heap.size wr wr.drew := ⟨rfl, rfl, rfl, Nat.le_refl _, fun _ _ => rfl⟩
            go_cut [6, 21] from 77 to 102 (fun v o wx => ∃ b : Bool, o = .bool b ∧ MRes B q' wr bs' (span g Kg[k].fr Kg[k].rt) (span t Kt[k].fr Kt[k].rt) v b wx)
            case first =>
              go_region_with (go_at_call 27; refine (HCALL.out wr.drew hdrew).mono ?_; rintro e w5 ⟨v5, b5, rfl, hm5⟩)
              all_goals (try go_wp2_with fail)
              all_goals go_meet
              all_goals exact ⟨_, rfl, hm5⟩
            case rest =>
              obtain ⟨b, rfl, hm⟩ := hcut
              have HBW : Hid (But (· = q) w wc) := by
                refine (But.ofBelow hd4).trans ?_
                refine ⟨hm.1.os.trans HBU.out.os, hm.1.tape.trans HBU.out.tape, hm.1.output.trans HBU.out.output, Nat.le_trans HBU.out.size hm.1.size, ?_⟩
                intro z hz hzq
                exact (hm.1.block z (by omega) (by intro e; omega)).trans (HBU.out.block z hz hzq)
              have HB4 : Hid (But (· = q) W4 wc) := by
                refine ⟨hm.1.os.trans HBU.out.os, hm.1.tape.trans HBU.out.tape, hm.1.output.trans HBU.out.output, Nat.le_trans HBU.out.size hm.1.size, ?_⟩
                intro z hz hzq
                exact (hm.1.block z (by omega) (by intro e; omega)).trans (HBU.out.block z hz hzq)
              have hkg' : k < (Qae g Kg).length := by simpa [Qae] using hkg
              have hkt' : k < (Qae t Kt).length := by simpa [Qae] using hkt
              have eg : (Qae g Kg)[k] = span g Kg[k].fr Kg[k].rt := Qic g Kg k hkg
              have et : (Qae t Kt)[k] = span t Kt[k].fr Kt[k].rt := Qic t Kt k hkt
              cases b
              · have HNO : Hid (MatchNo bs ((Qae g Kg).flatten ++ [x]) ((Qae t Kt).flatten ++ [x])) := by
                  have h9 := hm.2.2 rfl
                  rw [← eg, ← et] at h9
                  exact MatchNo.kid HK61.out HOG.out HLF.out HOT.out hkg' hkt' HMO.out h9
                clear hm ca cb
                go_wp2
                go_ret2
                exact ⟨_, _, rfl, HBW.out, (fun h => by cases h), fun _ => HNO.out⟩
              · obtain ⟨q2, c2, l2, rs2, bs2, rfl, hB2, hM2, hP2, hq2⟩ := hm.2.1 rfl
                have HM2 : Hid (MatchOk bs ((Qae g Kg).take (k + 1)).flatten ((Qae t Kt).take (k + 1)).flatten bs2) := by
                  show MatchOk bs _ _ bs2
                  rw [Qjk _ k hkg', Qjk _ k hkt']
                  rw [← eg, ← et] at hM2
                  exact HMO.out.step hM2 (HOG.out _ (List.getElem_mem hkg')) (HLF.out _ (List.getElem_mem hkg')) (HOT.out _ (List.getElem_mem hkt'))
                clear hm ca cb hM2
                go_wp2
                go_roundw
                case rel => exact ⟨k + 1, q2, c2, l2, rs2, bs2, by omega, by go_num, rfl, hB2, HM2.out, hP2, by omega, HB4.out⟩
                case measure => simp [intOf]; omega
          · have hkn2 : k = n := by omega
            subst hkn2
            rw [List.take_of_length_le (by simp [Qae, HQG.out]), List.take_of_length_le (by simp [Qae, HQT.out])] at hMo
            have HMO : Hid (MatchOk bs ((Qae g Kg).flatten ++ [x]) ((Qae t Kt).flatten ++ [x]) bs') := hMo.over HK61.out
            have hbw : But (· = q) w wr := (But.ofBelow hd4).trans hbut
            clear hMo
            go_wp2
            go_ret2
            exact ⟨_, _, rfl, hbw, (fun _ => ⟨q', c', l', rs', bs', rfl, hBr, HMO.out, hPr, by omega⟩), fun h => by cases h⟩
theorem Qmh (g t : List Nd) (mg mt : Nat) (HMG : Hid (g.length = mg)) (HMT : Hid (t.length = mt)) (hmg : mg ≤ 1048576) (hmt : mt ≤ 1048576) (cgb ctb : Nat) (hct : mt ≤ ctb) (gb tb : Nat) (w : World) (hG : Row w gb g) (hT : Row w tb t) :
    Calls Tryz.prog 10 #[.slice (some ⟨gb, 0, none⟩) mg cgb, .slice (some ⟨tb, 0, none⟩) mt ctb] w fun e w' => ∃ ag c l bs b, e = .returned (.tuple #[.slice ag l c, .bool b]) ∧ bs.length = l ∧ Qcd g t bs b ∧ BAns w' w.heap.size ag bs ∧ PB bs ∧ l ≤ 300 ∧ Below w.heap.size w w' := by
  obtain ⟨i1, hj1, hy0, hy1, hy2⟩ := info_parts Tryz.infoB
  have hA : Below w.heap.size w (w.alloc (.cells #[] 54)) := (Below.refl _ w).alloc (Nat.le_refl _) _
  have hE := OwnBs.empty (w := w) (B := w.heap.size) (Nat.le_refl _)
  go_enter Tryz.func10, Tryz.ntmps10
  go_wp2_with fail
  refine (Qcx g mg HMG hmg _ _ _ (hG.below hA).nodes).mono ?_
  rintro e w1 ⟨rfl, hb1⟩
  have hbb1 := Below.step hA hb1
  have hE1 := hE.below hb1
  clear hb1 hA hE
  cases htg : typeb g
  · have HR : Hid (Qcd g t [] false) := ⟨(fun h => by cases h), fun _ => ⟨rfl, Or.inl htg⟩⟩
    clear hG hT hE1
    go_wp2
    go_ret2
    exact ⟨_, _, _, [], _, rfl, rfl, HR.out, Or.inl rfl, fun p hp => by simp at hp, by omega, hbb1⟩
  · go_wp2_with fail
    refine (Qcx t mt HMT hmt _ _ _ (hT.below hbb1).nodes).mono ?_
    rintro e w2 ⟨rfl, hb2⟩
    have hbb2 := Below.step hbb1 hb2
    have hE2 := hE1.below hb2
    clear hb2 hbb1 hE1
    cases htt : typeb t
    · have HR : Hid (Qcd g t [] false) := ⟨(fun h => by cases h), fun _ => ⟨rfl, Or.inr (Or.inl htt)⟩⟩
      clear hG hT hE2
      go_wp2
      go_ret2
      exact ⟨_, _, _, [], _, rfl, rfl, HR.out, Or.inl rfl, fun p hp => by simp at hp, by omega, hbb2⟩
    · obtain ⟨Sg, yg, sg, hSg, h0g, hsg, hfg, hspg, hszg⟩ := Qbx HMG.out htg
      obtain ⟨St, yt, st, hSt, h0t, hst, hft, hspt, hszt⟩ := Qbx HMT.out htt
      have hm3 := hSg.m300
      have ht3 := hSt.m300
      have hYG := (Qaf hSg.run).len
      have hYT := (Qaf hSt.run).len
      have HSG : Hid (Side g mg Sg yg) := hSg
      have HST : Hid (Side t mt St yt) := hSt
      go_wp2_with fail
      refine (Qfm g mg HMG (by omega) _ _ w2 (hG.below hbb2).nodes).mono ?_
      rintro e w3 ⟨gz, cz, n3, rfl, hz3, hb3⟩
      rw [hszg] at hz3
      have en3 : n3 = mg := by have := hz3.1; simp at this; omega
      rw [en3] at hz3 ⊢
      have hlt2 := (Qad hE2.2).2
      have hbb3 := Below.step hbb2 hb3
      have hE3 := hE2.below hb3
      have hs2 := hbb2.size
      have hzb := hz3.block
      clear hb3 hE2
      go_wp2_with fail
      refine (Qfm t mt HMT (by omega) _ _ w3 (hT.below hbb3).nodes).mono ?_
      rintro e w4 ⟨tz, ct, n4, rfl, hz4, hb4⟩
      rw [hszt] at hz4
      have en4 : n4 = mt := by have := hz4.1; simp at this; omega
      rw [en4] at hz4 ⊢
      have hbb4 := Below.step hbb3 hb4
      have hE4 := hE3.below hb4
      have hz34 := hz3.below hb4
      have hs3 := hbb3.size
      have hs4 := hbb4.size
      have hzb4 := hz4.block
      have hGl := hG.lt
      have hTl := hT.lt
      have hG4 := hG.below hbb4
      have hT4 := hT.below hbb4
      have hB0 : Bst w4 w.heap.size w.heap.size 0 0 [] [] := ⟨hE4, ⟨rfl, hE4.row.2, (fun i h => by simp at h), by simp⟩, fun r hr => by simp at hr⟩
      have hneq : gb ≠ w.heap.size ∧ gz ≠ w.heap.size ∧ tb ≠ w.heap.size ∧ tz ≠ w.heap.size := ⟨by omega, by omega, by omega, by omega⟩
      have eg : ((mg : Int) - 1) = ((mg - 1 : Nat) : Int) := by omega
      have et : ((mt : Int) - 1) = ((mt - 1 : Nat) : Int) := by omega
      have HC := Qtq g t Sg yg St yt mg mt HSG HST cgb ctb hct (mg - 1) (mt - 1) sg st gb gz cz tb tz ct w2.heap.size w3.heap.size w.heap.size w.heap.size 0 0 [] [] w4 (by omega) (by omega) hsg hst hG4 hz34 hT4 hz4 hB0 hneq (by simp [Hid, nums]) (fun p hp => by simp at hp) (fun p hp => by simp at hp) (fun x hx => by simp [nums] at hx)
      rw [hspg, hspt, ← eg, ← et] at HC
      clear hE3 hE4 hz3 hz34 hz4 hG4 hT4 hB0 hneq hsg hst hspg hspt hszg hszt hSg hSt hYG hYT eg et hfg hft
      go_wp2_with fail
      refine HC.mono ?_
      rintro e w5 ⟨v5, b5, rfl, hm5⟩
      have hbb5 : Below w.heap.size w w5 := hbb4.trans (hm5.1.below (by omega) (fun k hk => by omega))
      cases b5
      · have HR : Hid (Qcd g t [] false) := ⟨(fun h => by cases h), fun _ => ⟨rfl, Or.inr (Or.inr (fun θ hθ => hm5.2.2 rfl θ hθ (fun p hp => by simp at hp)))⟩⟩
        clear HC hm5
        go_wp2
        go_ret2
        exact ⟨_, _, _, [], _, rfl, rfl, HR.out, Or.inl rfl, fun p hp => by simp at hp, by omega, hbb5⟩
      · obtain ⟨q, c, l, rs, bs, rfl, hBs, hMo, hPB, hq⟩ := hm5.2.1 rfl
        have hl3 : l ≤ 300 := by
          have h1 := Qjt hMo.nodup (ys := metas g) (fun x hx => by
            rcases (hMo.mem x).1 hx with h | h
            · simp [nums] at h
            · exact h)
          have h2 := Qhf g
          have h3 := hBs.len
          have h4 := HMG.out
          simp only [nums, List.length_map] at h1
          omega
        have HMO : Hid (MatchOk [] g t bs) := hMo
        have HPB : Hid (PB bs) := hPB
        have HTG : Hid (typeb g = true ∧ typeb t = true) := ⟨htg, htt⟩
        clear HC hm5 hMo hPB
        obtain ⟨its, hits⟩ : ∃ its, Qgt rs bs = its := ⟨_, rfl⟩
        have HITS : Hid (Qgt rs bs = its) := hits
        have hle : its.length = l := by
          rw [← hits]
          have h1 := hBs.two.len
          have h2 := hBs.len
          simp [Qgt]
          omega
        have HL : Hid (its.length = l) := hle
        have hOB : OwnB w5 q (its.map It.cells) := by
          rw [← hits, Qts]
          exact hBs.own.row.2
        have hO0 := OwnBs.empty (w := w5) (B := w5.heap.size) (Nat.le_refl _)
        have hA5 : Below w5.heap.size w5 (w5.alloc (.cells #[] 54)) := (Below.refl _ w5).alloc (Nat.le_refl _) _
        go_wp2
        go_loopw [9, 10] (fun v p wr => ∃ (k g9 c9 : Nat), k ≤ l ∧ p = .int .i64 k ∧ v = .slice (some ⟨g9, 0, none⟩) k c9 ∧ OwnBs wr w5.heap.size g9 c9 k ((Qde (its.take k)).map It.cells) ∧ Below w5.heap.size w5 wr) (fun _ p _ => l - (intOf p).toNat)
        case atStart => exact ⟨0, w5.heap.size, 0, Nat.zero_le _, rfl, rfl, hO0, hA5⟩
        case round =>
          clear hO0 hA5
          obtain ⟨k, g9, c9, hk, rfl, rfl, hown, hb⟩ := hrel
          by_cases hlt : k < l
          · have hltx : k < its.length := by have := HL.out; omega
            have hrow := OwnT.below hOB hb
            obtain ⟨c0, c1⟩ := OwnB.at hrow k (by simpa using hltx)
            obtain ⟨⟨xa, ⟨xr, xc⟩, xT⟩, hx⟩ : ∃ x, its[k] = x := ⟨_, rfl⟩
            simp only [List.getElem_map, hx, It.cells] at c0 c1
            obtain ⟨xl, hxl⟩ : ∃ xl, xT.length = xl := ⟨_, rfl⟩
            have HXL : Hid (xT.length = xl) := hxl
            rw [hxl] at c1
            have hqb := hBs.block
            have hsb := hb.size
            have hqr : q < wr.heap.size := by omega
            have hob := Qad hown.2
            have HS : Hid (Qde (its.take (k + 1)) = insB (Qde (its.take k)) (xa, (xr, xc), xT)) := by
              show Qde (its.take (k + 1)) = _
              rw [Qsx its k hltx, hx]
            clear hrow hx hxl
            have hl9 : (Qde (its.take k)).length = k := by have := hown.1; simpa using this
            go_wp2_with (at_builtin; refine Qac _ rfl (.tmp 50) (.tmp 55) 30 rfl w5.heap.size 54 i1 _ 2 32 Tryz.underlying30 hj1 hy0 hy1 hy2 rfl (by decide) g9 k c9 _ rfl (hown.alloc _).2 ⟨_, 0, none⟩ 1 1 [.int .i64 xa, .slice (some ⟨xr, 0, none⟩) xl xc] rfl rfl (Qer _ xa _) (Qho _ _ _ _) ?a3 ?a4 ?a5 ?_)
            case a3 => unfold maxLen; omega
            case a4 => omega
            case a5 => simp; omega
            intro g2 c2 w6 hown2 hgrow2 hwh
            have hO : OwnBs w6 w5.heap.size g2 c2 (k + 1) ((Qde (its.take k) ++ [(xa, (xr, xc), xT)]).map It.cells) := by
              have h9 := OwnBs.push (x := (.int .i64 xa, .slice (some ⟨xr, 0, none⟩) xl xc)) hown2 hown.1 rfl
              rw [List.map_append]
              simp only [List.map_cons, List.map_nil, It.cells]
              rw [HXL.out]
              exact h9
            have hbb : Below w5.heap.size w5 w6 := (hb.alloc hb.size _).grown hgrow2 (by simp; omega) (fun q hq => by cases hq; exact hob.1)
            generalize Qde (its.take k) = out at *
            clear hown2 hgrow2 hwh hown hb c0 c1 hob hqr
            go_wp2
            go_loopw [11] (fun p wq => ∃ (j : Nat) (A B : List It), p = .int .i64 j ∧ A.length = j ∧ j ≤ k ∧ OwnBs wq w5.heap.size g2 c2 (k + 1) ((A ++ (xa, (xr, xc), xT) :: B).map It.cells) ∧ (insA (xa, (xr, xc), xT) A.reverse).reverse ++ B = insB out (xa, (xr, xc), xT) ∧ Below w5.heap.size w5 wq) (fun p _ => (intOf p).toNat)
            case atStart => exact ⟨k, out, [], by go_num, hl9, Nat.le_refl _, hO, by simp [insB], hbb⟩
            case round =>
              clear hO hbb hl9
              obtain ⟨j, A, B, rfl, hA, hjk, hown, hins, hb⟩ := hrel
              have hrow := hown.row.2
              have hob := Qad hown.2
              have hln : A.length + (B.length + 1) = k + 1 := by have h9 := hown.1; simpa using h9
              obtain ⟨d0, d1⟩ := OwnB.at hrow j (by simp; omega)
              have hxe : (A ++ (xa, (xr, xc), xT) :: B)[j]'(by simp; omega) = (xa, (xr, xc), xT) := by simp [← hA]
              simp only [List.getElem_map, hxe, It.cells] at d0 d1
              rw [HXL.out] at d1
              have hfin : OwnBs wr w5.heap.size g2 c2 (k + 1) ((A ++ (xa, (xr, xc), xT) :: B).map It.cells) := hown
              by_cases hj0 : 0 < j
              · obtain ⟨A', y, rfl⟩ : ∃ A' y, A = A' ++ [y] := by
                  rcases List.eq_nil_or_concat A with rfl | ⟨A', y, rfl⟩
                  · simp at hA; omega
                  · exact ⟨A', y, by simp⟩
                obtain ⟨ya, ⟨yr, yc⟩, yT⟩ := y
                obtain ⟨yl, hyl⟩ : ∃ yl, yT.length = yl := ⟨_, rfl⟩
                have HYL : Hid (yT.length = yl) := hyl
                have hA' : A'.length = j - 1 := by simp at hA; omega
                obtain ⟨e0, e1⟩ := OwnB.at hrow (j - 1) (by simp; omega)
                have hye : ((A' ++ [(ya, (yr, yc), yT)]) ++ (xa, (xr, xc), xT) :: B)[j - 1]'(by simp; omega) = (ya, (yr, yc), yT) := by
                  simp [← hA']
                simp only [List.getElem_map, hye, It.cells] at e0 e1
                rw [hyl] at e1
                clear hyl
                by_cases hxy : xa < ya
                · have hst := Qxc A' (ya, (yr, yc), yT) (xa, (xr, xc), xT) B hxy
                  rw [hins] at hst
                  have tlt : decide (xa < ya) = true := decide_eq_true hxy
                  clear hins hrow hfin hxe hye
                  go_wp2_with fail
                  go_quiet (fail)
                  have hdr := Qan wr nq
                  have d0' := (hdr.cell (p := ⟨g2, j * 2, none⟩) hob.2).trans d0
                  have d1' := (hdr.cell (p := ⟨g2, j * 2 + 1, none⟩) hob.2).trans d1
                  have e0' := (hdr.cell (p := ⟨g2, (j - 1) * 2, none⟩) hob.2).trans e0
                  have e1' := (hdr.cell (p := ⟨g2, (j - 1) * 2 + 1, none⟩) hob.2).trans e1
                  have hown' := hown.below hdr
                  have hb' := Below.step hb hdr
                  have hob' := Qad hown'.2
                  clear hdr d0 d1 e0 e1 hown hb hob
                  generalize wr.drewN nq = W2 at *
                  have f0 := OwnT.frozen hown'.row.2 (j * 2)
                  have f1 := OwnT.frozen hown'.row.2 (j * 2 + 1)
                  have f2 := OwnT.frozen hown'.row.2 ((j - 1) * 2)
                  have f3 := OwnT.frozen hown'.row.2 ((j - 1) * 2 + 1)
                  have HO : Hid (OwnBs (((((W2.setCell ⟨g2, j * 2, none⟩ (.int .i64 ya)).setCell ⟨g2, j * 2 + 1, none⟩ (.slice (some ⟨yr, 0, none⟩) yl yc)).setCell ⟨g2, (j - 1) * 2, none⟩ (.int .i64 xa)).setCell ⟨g2, (j - 1) * 2 + 1, none⟩ (.slice (some ⟨xr, 0, none⟩) xl xc)).alloc (.cells #[.int .i64 xa, .slice (some ⟨xr, 0, none⟩) xl xc] 54)) w5.heap.size g2 c2 (k + 1) ((A' ++ (xa, (xr, xc), xT) :: ((ya, (yr, yc), yT) :: B)).map It.cells)) := by
                    have h9 := ((hown'.put j (.int .i64 ya) (.slice (some ⟨yr, 0, none⟩) yl yc)).put (j - 1) (.int .i64 xa) (.slice (some ⟨xr, 0, none⟩) xl xc)).alloc (.cells #[.int .i64 xa, .slice (some ⟨xr, 0, none⟩) xl xc] 54)
                    have ey : ((.int .i64 ya, .slice (some ⟨yr, 0, none⟩) yl yc) : Value × Value) = It.cells (ya, (yr, yc), yT) := by simp only [It.cells]; rw [HYL.out]
                    have ex : ((.int .i64 xa, .slice (some ⟨xr, 0, none⟩) xl xc) : Value × Value) = It.cells (xa, (xr, xc), xT) := by simp only [It.cells]; rw [HXL.out]
                    rw [ex, ey, ← List.map_set, ← List.map_set] at h9
                    have e9 : (((A' ++ [(ya, (yr, yc), yT)]) ++ (xa, (xr, xc), xT) :: B).set j (ya, (yr, yc), yT)).set (j - 1) (xa, (xr, xc), xT) = A' ++ (xa, (xr, xc), xT) :: ((ya, (yr, yc), yT) :: B) := by
                      have ej : j = A'.length + 1 := by omega
                      rw [ej]
                      exact Jds A' B (xa, (xr, xc), xT) (ya, (yr, yc), yT)
                    rw [e9] at h9
                    exact h9
                  have HB : Hid (Below w5.heap.size w5 (((((W2.setCell ⟨g2, j * 2, none⟩ (.int .i64 ya)).setCell ⟨g2, j * 2 + 1, none⟩ (.slice (some ⟨yr, 0, none⟩) yl yc)).setCell ⟨g2, (j - 1) * 2, none⟩ (.int .i64 xa)).setCell ⟨g2, (j - 1) * 2 + 1, none⟩ (.slice (some ⟨xr, 0, none⟩) xl xc)).alloc (.cells #[.int .i64 xa, .slice (some ⟨xr, 0, none⟩) xl xc] 54))) := by
                    have b4 : But (· = g2) W2 ((((W2.setCell ⟨g2, j * 2, none⟩ (.int .i64 ya)).setCell ⟨g2, j * 2 + 1, none⟩ (.slice (some ⟨yr, 0, none⟩) yl yc)).setCell ⟨g2, (j - 1) * 2, none⟩ (.int .i64 xa)).setCell ⟨g2, (j - 1) * 2 + 1, none⟩ (.slice (some ⟨xr, 0, none⟩) xl xc)) := ((((But.refl (· = g2) W2).setCell (p := ⟨g2, j * 2, none⟩) rfl _).setCell (p := ⟨g2, j * 2 + 1, none⟩) rfl _).setCell (p := ⟨g2, (j - 1) * 2, none⟩) rfl _).setCell (p := ⟨g2, (j - 1) * 2 + 1, none⟩) rfl _
                    have h9 := hb'.trans (b4.below hb'.size (fun q hq => by omega))
                    exact h9.alloc h9.size _
                  have HI : Hid ((insA (xa, (xr, xc), xT) A'.reverse).reverse ++ ((ya, (yr, yc), yT) :: B) = insB out (xa, (xr, xc), xT)) := hst.symm
                  clear hst
                  go_wp2
                  go_roundw
                  case rel => exact ⟨j - 1, A', (ya, (yr, yc), yT) :: B, by go_num, hA', by omega, HO.out, HI.out, HB.out⟩
                  case measure => simp [intOf]; omega
                · have tlt : decide (xa < ya) = false := decide_eq_false hxy
                  have HE : Hid (A' ++ [(ya, (yr, yc), yT)] ++ (xa, (xr, xc), xT) :: B = insB out (xa, (xr, xc), xT)) := by
                    show A' ++ [(ya, (yr, yc), yT)] ++ (xa, (xr, xc), xT) :: B = _
                    rw [← hins, Qxb (A' ++ [(ya, (yr, yc), yT)]) (xa, (xr, xc), xT) (by intro y hy; simp at hy; subst hy; exact hxy)]
                    simp
                  clear hins hrow hxe hye hown
                  go_wp2_with fail
                  go_quiet (fail)
                  have hdr := Qan wr nq
                  have hfin' := hfin.below hdr
                  have hb' := Below.step hb hdr
                  rw [HE.out, ← HS.out] at hfin'
                  clear hdr d0 d1 e0 e1 hfin hb
                  generalize wr.drewN nq = W2 at *
                  go_wp2
                  go_roundw
                  case rel => exact ⟨k + 1, g2, c2, by omega, by go_num, rfl, hfin', hb'⟩
                  case measure => simp [intOf]; omega
              · have hA0 : A = [] := List.eq_nil_of_length_eq_zero (by omega)
                subst hA0
                have HE : Hid ([] ++ (xa, (xr, xc), xT) :: B = insB out (xa, (xr, xc), xT)) := by
                  show [] ++ (xa, (xr, xc), xT) :: B = _
                  rw [← hins]
                  rfl
                have tj : decide ((j : Int) > 0) = false := decide_eq_false (by omega)
                clear hins hrow hxe hown
                go_wp2_with fail
                go_quiet (fail)
                have hdr := Qan wr nq
                have hfin' := hfin.below hdr
                have hb' := Below.step hb hdr
                rw [HE.out, ← HS.out] at hfin'
                clear hdr d0 d1 hfin hb
                generalize wr.drewN nq = W2 at *
                go_wp2
                go_roundw
                case rel => exact ⟨k + 1, g2, c2, by omega, by go_num, rfl, hfin', hb'⟩
                case measure => simp [intOf]; omega
          · have hke : k = l := by omega
            subst hke
            rw [List.take_of_length_le (by have := HL.out; omega)] at hown
            have hpm := Qsy its
            have htw : TwoR wr g9 ((Qde its).map (fun p => p.2.1)) ((Qde its).map It.bind) := by
              refine TwoR.perm hBs.two (by rw [HITS.out]; exact hpm) ?_ hown.row.2
              intro r zs hr hrow
              exact hrow.below hb
            have hbs : ((Qde its).map It.bind).Perm bs := by
              have h9 := hpm.map It.bind
              rw [← HITS.out, Qka hBs.two.len] at h9
              rw [← HITS.out]
              exact h9
            have hnum : (nums bs).Nodup := HMO.out.nodup
            have hup : Up (nums ((Qde its).map It.bind)) := by
              have h9 := Qzd its (by
                have h8 : its.map Prod.fst = nums bs := by
                  rw [← HITS.out]
                  have h7 := Qka hBs.two.len
                  have h6 : nums ((Qgt rs bs).map It.bind) = (Qgt rs bs).map Prod.fst := by simp [nums, It.bind]
                  rw [← h6, h7]
                rw [h8]
                exact hnum)
              have e9 : nums ((Qde its).map It.bind) = (Qde its).map Prod.fst := by simp [nums, It.bind]
              rw [e9]
              unfold Up
              rw [List.pairwise_map]
              exact h9
            have HR : Hid (Qcd g t ((Qde its).map It.bind) true) := by
              refine ⟨fun _ => ⟨HTG.out.1, HTG.out.2, ⟨hup, ?_, ?_, ?_⟩⟩, fun h => by cases h⟩
              · intro x
                have h9 := (hbs.map Prod.fst).mem_iff (a := x)
                rw [show nums ((Qde its).map It.bind) = ((Qde its).map It.bind).map Prod.fst from rfl, h9]
                rw [show bs.map Prod.fst = nums bs from rfl, HMO.out.mem]
                simp [nums]
              · intro p hp
                exact HMO.out.one p (hbs.mem_iff.1 hp)
              · intro θ hE
                exact HMO.out.fills θ (fun p hp => hE p (hbs.mem_iff.2 hp))
            have HF : Hid (∀ r ∈ (Qde its).map (fun p => p.2.1), w.heap.size ≤ r.1) := by
              intro r hr
              obtain ⟨p, hp, rfl⟩ := List.mem_map.1 hr
              have h9 := hpm.mem_iff.1 hp
              refine hBs.far _ ?_
              have h8 : p.2.1 ∈ its.map (fun p : It => p.2.1) := List.mem_map.2 ⟨p, h9, rfl⟩
              rw [← HITS.out, Qls hBs.two.len] at h8
              exact h8
            have hln : ((Qde its).map It.bind).length = k := by rw [List.length_map, hpm.length_eq]; exact HL.out
            have hg9 : w.heap.size ≤ g9 := by have := hown.row.1; have := hbb5.size; omega
            have hPB2 : PB ((Qde its).map It.bind) := fun p hp => HPB.out p (hbs.mem_iff.1 hp)
            have hbf := hbb5.trans (hb.mono hbb5.size)
            clear hown hbs hnum hup hBs hOB hpm
            go_wp2
            go_ret2
            exact ⟨_, _, _, _, _, rfl, hln, HR.out, Or.inr ⟨g9, _, rfl, hg9, HF.out, htw⟩, hPB2, hl3, hbf⟩
end Go.Proofs.YtoiiibplkhedcaaGreatDoor

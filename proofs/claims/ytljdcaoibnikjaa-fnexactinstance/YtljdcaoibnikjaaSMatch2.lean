import Derived.Test.YtljdcaoibnikjaaSMatch
namespace Go.Proofs.Ytljdcaoibnikjaa

open Go.RowKit

/-- '!=' of two nodes. -/
theorem neqF (x y : Nd) (w : World) :
    (binOp .neq 53 (.agg #[.int .i64 x.kind, .int .i64 x.num, .string x.text, .int .i64 x.kids, .int .i64 x.place]) (.agg #[.int .i64 y.kind, .int .i64 y.num, .string y.text, .int .i64 y.kids, .int .i64 y.place])).run Try.prog w =
      .ok (.bool (!(x.eqb y))) w := by
  unfold Nd.eqb
  go_simp
  repeat' split
  all_goals simp_all

theorem eqb_eq {x y : Nd} (h : x.eqb y = true) : x = y := by
  obtain ⟨a1, a2, a3, a4, a5⟩ := x
  obtain ⟨b1, b2, b3, b4, b5⟩ := y
  simp only [Nd.eqb, Bool.and_eq_true, beq_iff_eq] at h
  obtain ⟨⟨⟨⟨e1, e2⟩, e3⟩, e4⟩, e5⟩ := h
  have e6 : a3 = b3 := by
    rw [ByteArray.toList_eq, ByteArray.toList_eq] at e3
    cases a3; cases b3
    simp only [ByteArray.mk.injEq]
    exact Array.toList_inj.1 e3
  subst e1 e2 e4 e5 e6
  rfl

theorem nodup_len {xs ys : List Int} (hd : xs.Nodup) (h : ∀ x ∈ xs, x ∈ ys) : xs.length ≤ ys.length := by
  induction xs generalizing ys with
  | nil => simp
  | cons x xs ih =>
    rw [List.nodup_cons] at hd
    have hx := h x (by simp)
    have h1 := ih (ys := ys.erase x) hd.2 (fun z hz => (List.mem_erase_of_ne (fun e => hd.1 (by rw [← e]; exact hz))).2 (h z (by simp [hz])))
    have h2 := List.length_erase_of_mem hx
    have h3 := List.length_pos_of_mem hx
    simp only [List.length_cons]
    omega

theorem metas_len (g : List Nd) : (metas g).length ≤ g.length := by
  unfold metas
  rw [List.length_map]
  exact List.length_filter_le _ _

theorem metas_sub {g : List Nd} {f i : Nat} {x : Int} (h : x ∈ metas (span g f i)) : x ∈ metas g := by
  unfold metas at *
  obtain ⟨n, hn, rfl⟩ := List.mem_map.1 h
  rw [List.mem_filter] at hn
  exact List.mem_map.2 ⟨n, List.mem_filter.2 ⟨List.mem_of_mem_take (List.mem_of_mem_drop hn.1), hn.2⟩, rfl⟩

theorem plain_leafy {t : List Nd} (h : t.all Nd.plainb = true) : Leafy t := by
  intro n hn h61
  have := List.all_eq_true.1 h n hn
  unfold Nd.plainb at this
  simp [h61] at this
  exact this.2.1.1

theorem MRes.back {B q : Nat} {w W w' : World} {bs : List (Int × List Nd)} {G T : List Nd} {v : Value} {b : Bool} (h : MRes B q W bs G T v b w') (hb : Below w.heap.size w W) : MRes B q w bs G T v b w' := by
  obtain ⟨h1, h2, h3⟩ := h
  refine ⟨(But.ofBelow hb).trans h1, ?_, h3⟩
  intro e
  obtain ⟨q', c', l', rs', bs', a1, a2, a3, a4, a5⟩ := h2 e
  exact ⟨q', c', l', rs', bs', a1, a2, a3, a4, by have := hb.size; omega⟩

theorem Ints.but {S : Nat → Prop} {w w' : World} {B g cap n : Nat} {xs : List Int} (h : Ints w B g cap n xs) (hb : But S w w') (hn : ¬ S g) : Ints w' B g cap n xs := ⟨h.1, owns_but h.2 hb hn⟩

theorem kidsIn_get (t : List Nd) (K : List Sp) (k : Nat) (h : k < K.length) : (kidsIn t K)[k]'(by simpa [kidsIn] using h) = span t K[k].fr K[k].rt := by simp [kidsIn]

theorem take_flat (A : List (List Nd)) (k : Nat) (h : k < A.length) : (A.take (k + 1)).flatten = (A.take k).flatten ++ A[k] := by
  rw [List.take_succ_eq_append_getElem h, flatten_snoc]

set_option maxRecDepth 100000 in
set_option maxHeartbeats 2000000 in
theorem match_any (g t : List Nd) (Sg yg St yt : List Sp) (mg mt : Nat) (HG : Hid (Side g mg Sg yg)) (HT : Hid (Side t mt St yt)) :
    ∀ (i j : Nat) (si sj : Sp) (gb gz cz tb tz ct Bz Bt B q c l : Nat) (rs : List (Nat × Nat)) (bs : List (Int × List Nd)) (w : World), i < mg → j < mt → Hid (yg[i]? = some si) → Hid (yt[j]? = some sj) →
      Row w gb g → Ints w Bz gz cz mg (yg.map szOf) → Row w tb t → Ints w Bt tz ct mt (yt.map szOf) → Bst w B q c l rs bs → gb ≠ q ∧ gz ≠ q ∧ tb ≠ q ∧ tz ≠ q → Hid ((nums bs).Nodup) → Hid (∀ p ∈ bs, One p.2) → Hid (PB bs) → Hid (∀ x ∈ nums bs, x ∈ metas g) →
    Calls Try.prog 23 #[.slice (some ⟨gb, 0, none⟩) mg mg, .slice (some ⟨gz, 0, none⟩) mg cz, .int .i64 (i : Int), .slice (some ⟨tb, 0, none⟩) mt mt, .slice (some ⟨tz, 0, none⟩) mt ct, .int .i64 (j : Int), .slice (some ⟨q, 0, none⟩) l c] w
      fun e w' => ∃ v b, e = .returned (.tuple #[v, .bool b]) ∧ MRes B q w bs (span g si.fr i) (span t sj.fr j) v b w' := by
  intro i
  induction i using Nat.strongRecOn with
  | ind i ih =>
    intro j si sj gb gz cz tb tz ct Bz Bt B q c l rs bs w hi hj HSI HSJ hG hgz hT htz hB hne HN HO HP HM
    have hmg := HG.out.m300
    have hmt := HT.out.m300
    have hlg := HG.out.len
    have hlt := HT.out.len
    have hl : l ≤ 300 := by
      have h1 := nodup_len HN.out HM.out
      have h2 := metas_len g
      have h3 := hB.len
      simp only [nums, List.length_map] at h1
      omega
    have hit : i < g.length := by omega
    have hjt : j < t.length := by omega
    obtain ⟨Kg, hKg, hsg, hOg⟩ := span_kids HG.out.run hi HSI.out hit
    obtain ⟨Kt, hKt, hst, hOt⟩ := span_kids HT.out.run hj HSJ.out hjt
    have hxi := hG.node i hit
    have hxj := hT.node j hjt
    by_cases h61 : g[i].kind = 61
    · have hz := plain_leafy HG.out.plain g[i] (List.getElem_mem hit) h61
      obtain ⟨_, hn⟩ := hKg.num
      have hK0 : Kg = [] := List.eq_nil_of_length_eq_zero (by omega)
      have e1 : span g si.fr i = [g[i]] := by rw [hsg, hK0]; rfl
      rw [e1]
      exact match_leaf t St yt mg mt i j HT g[i] sj HSJ hi hj h61 gb gz cz tb tz ct Bt B q c l rs bs w hxi hT htz hB HN HO HP hl
    · have t61 : (g[i].kind == 61) = false := by simpa using h61
      rw [hsg, hst]
      obtain ⟨x, hx⟩ : ∃ x, g[i] = x := ⟨_, rfl⟩
      obtain ⟨y, hy⟩ : ∃ y, t[j] = y := ⟨_, rfl⟩
      obtain ⟨c0, c1, c2, c3, c4⟩ := hxi
      obtain ⟨e0, e1, e2, e3, e4⟩ := hxj
      rw [hx] at c0 c1 c2 c3 c4 h61 t61 ⊢
      rw [hy] at e0 e1 e2 e3 e4 ⊢
      have hgl : gb < w.heap.size := hG.lt
      have htl : tb < w.heap.size := hT.lt
      have hneq := neqF x y
      cases hq : x.eqb y
      · rw [hq] at hneq
        have HNO : Hid (MatchNo bs ((kidsIn g Kg).flatten ++ [x]) ((kidsIn t Kt).flatten ++ [y])) := match_clash h61 (fun e => by rw [e, Nd.eqb_refl] at hq; cases hq)
        clear ih hKg hKt hsg hst hOg hOt hG hgz hT htz
        go_enter Try.func23, Try.ntmps23
        go_wp2_with fail
        go_quiet (fail)
        go_wp2
        go_ret2
        exact ⟨_, _, rfl, But.ofBelow (below_drewN _ _), (fun h => by cases h), fun _ => HNO.out⟩
      · rw [hq] at hneq
        obtain rfl := eqb_eq hq
        obtain ⟨n, hn⟩ : ∃ n, Kg.length = n := ⟨_, rfl⟩
        have HQG : Hid (Kg.length = n) := hn
        have HQT : Hid (Kt.length = n) := by
          obtain ⟨_, h1⟩ := hKg.num
          obtain ⟨_, h2⟩ := hKt.num
          rw [hx] at h1
          rw [hy] at h2
          show Kt.length = n
          omega
        have HKG : Hid (KidsAt g yg i Kg) := hKg
        have HKT : Hid (KidsAt t yt j Kt) := hKt
        have HYG : Hid (yg.length = mg) := (after_fine HG.out.run).len
        have HYT : Hid (yt.length = mt) := (after_fine HT.out.run).len
        have HOG : Hid (∀ a ∈ kidsIn g Kg, One a) := hOg
        have HOT : Hid (∀ a ∈ kidsIn t Kt, One a) := hOt
        have HIH := ih
        have hqb := hB.block
        have hn6 : n ≤ 300 := by have := hKg.len; omega
        have HK61 : Hid (x.kind ≠ 61) := h61
        have HLF : Hid (∀ a ∈ kidsIn g Kg, Leafy a) := by
          intro a ha
          obtain ⟨z, _, rfl⟩ := List.mem_map.1 ha
          exact (plain_leafy HG.out.plain).sub _ _
        clear ih hKg hKt hsg hst hOg hOt hn hq hx hy h61
        go_enter Try.func23, Try.ntmps23
        go_wp2_with fail
        go_quiet (fail)
        have hd := below_drewN w nq
        have hG1 := hG.below hd
        have hgz1 := hgz.below hd
        have hT1 := hT.below hd
        have htz1 := htz.below hd
        have hB1 := hB.below hd
        clear hG hgz hT htz hB c0 c1 c2 c3 c4 e0 e1 e2 e3 e4 hneq
        generalize w.drewN nq = W1 at *
        go_wp2_with fail
        refine (roots_any g yg Kg mg i n HG.out.len (by omega) HKG HQG hi HYG _ mg gz cz Bz W1 hG1.nodes hgz1).mono ?_
        rintro e W2 ⟨Ga, rfl, hia, hb2⟩
        have hG2 := hG1.below hb2
        have hgz2 := hgz1.below hb2
        have hT2 := hT1.below hb2
        have htz2 := htz1.below hb2
        have hB2 := hB1.below hb2
        have hd2 := Below.step hd hb2
        have hs1 := hd.size
        have hga := hia.block
        clear hG1 hgz1 hT1 htz1 hB1 hb2 hd
        go_wp2_with fail
        refine (roots_any t yt Kt mt j n HT.out.len (by omega) HKT HQT hj HYT _ mt tz ct Bt W2 hT2.nodes htz2).mono ?_
        rintro e W4 ⟨Gb, rfl, hib, hb4⟩
        have hG4 := hG2.below hb4
        have hgz4 := hgz2.below hb4
        have hT4 := hT2.below hb4
        have htz4 := htz2.below hb4
        have hB4 := hB2.below hb4
        have hia4 := hia.below hb4
        have hd4 := Below.step hd2 hb4
        have hs2 := hd2.size
        have hs4 := hd4.size
        have hgb := hib.block
        have hgaw : Ga < W4.heap.size := by have := hia4.block; omega
        have hgbq : Gb ≠ q := by omega
        have hgaq : Ga ≠ q := by omega
        obtain ⟨n1, n2, n3, n4⟩ := hne
        have l1 := hG4.lt
        have l2 := hgz4.block
        have l3 := hT4.lt
        have l4 := htz4.block
        clear hG2 hgz2 hT2 htz2 hB2 hb4 hd2 hia
        go_wp2
        go_loopw [6, 20] (fun v p wr => ∃ (k q' c' l' : Nat) (rs' : List (Nat × Nat)) (bs' : List (Int × List Nd)), k ≤ n ∧ p = .int .i64 k ∧ v = .slice (some ⟨q', 0, none⟩) l' c' ∧ Bst wr B q' c' l' rs' bs' ∧
            MatchOk bs ((kidsIn g Kg).take k).flatten ((kidsIn t Kt).take k).flatten bs' ∧ PB bs' ∧ (q' = q ∨ W4.heap.size ≤ q') ∧ But (· = q) W4 wr) (fun _ p _ => n - (intOf p).toNat)
        case atStart => exact ⟨0, q, c, l, rs, bs, Nat.zero_le _, rfl, rfl, hB4, by simpa using match_nil HN.out HO.out, HP.out, Or.inl rfl, But.refl _ _⟩
        case round =>
          obtain ⟨k, q', c', l', rs', bs', hk, rfl, rfl, hBr, hMo, hPr, hq', hbut⟩ := hrel
          clear hB4
          by_cases hkn : k < n
          · have hkg : k < Kg.length := by have := HQG.out; omega
            have hkt : k < Kt.length := by have := HQT.out; omega
            have hia_r := hia4.but hbut hgaq
            have hib_r := hib.but hbut hgbq
            have ca := hia_r.at k (by rw [hia_r.1]; exact hkn)
            have cb := hib_r.at k (by rw [hib_r.1]; exact hkn)
            have ea : (rts Kg)[k]'(by rw [hia_r.1]; exact hkn) = ((Kg[k]).rt : Int) := by simp [rts]
            have eb : (rts Kt)[k]'(by rw [hib_r.1]; exact hkn) = ((Kt[k]).rt : Int) := by simp [rts]
            rw [ea] at ca
            rw [eb] at cb
            have hmg9 := HKG.out.mem k hkg
            have hmt9 := HKT.out.mem k hkt
            have hgar : Ga < wr.heap.size := by have := hia_r.block; omega
            have hgbr : Gb < wr.heap.size := by have := hib_r.block; omega
            have HCALL : Hid (∀ W, Below wr.heap.size wr W → Calls Try.prog 23 #[.slice (some ⟨gb, 0, none⟩) mg mg, .slice (some ⟨gz, 0, none⟩) mg cz, .int .i64 ((Kg[k]).rt : Int), .slice (some ⟨tb, 0, none⟩) mt mt, .slice (some ⟨tz, 0, none⟩) mt ct, .int .i64 ((Kt[k]).rt : Int), .slice (some ⟨q', 0, none⟩) l' c'] W
                fun e w' => ∃ v b, e = .returned (.tuple #[v, .bool b]) ∧ MRes B q' wr bs' (span g Kg[k].fr Kg[k].rt) (span t Kt[k].fr Kt[k].rt) v b w') := by
              intro W hW
              refine (HIH Kg[k].rt hmg9.2.2 Kt[k].rt Kg[k] Kt[k] gb gz cz tb tz ct Bz Bt B q' c' l' rs' bs' W (by omega) (by omega) hmg9.1 hmt9.1 ((hbut.row hG4 n1).below hW) ((hgz4.but hbut n2).below hW) ((hbut.row hT4 n3).below hW) ((htz4.but hbut n4).below hW) (hBr.below hW) ⟨by omega, by omega, by omega, by omega⟩ hMo.nodup hMo.one hPr ?_).mono ?_
              · intro z hz
                rcases (hMo.mem z).1 hz with h | h
                · exact HM.out z h
                · rw [metas_flatten_mem] at h
                  obtain ⟨a, ha, hza⟩ := h
                  obtain ⟨s9, _, rfl⟩ := List.mem_map.1 (List.mem_of_mem_take ha)
                  exact metas_sub hza
              · rintro e w' ⟨v, b, rfl, hm⟩
                exact ⟨v, b, rfl, hm.back hW⟩
            have HBR : Hid (Bst wr B q' c' l' rs' bs') := hBr
            have HMO : Hid (MatchOk bs ((kidsIn g Kg).take k).flatten ((kidsIn t Kt).take k).flatten bs') := hMo
            have HPR : Hid (PB bs') := hPr
            have HBU : Hid (But (· = q) W4 wr) := hbut
            have hwr := hbut.size
            have hqr := hBr.block
            clear hia_r hib_r hBr hMo hPr hbut ea eb hmg9 hmt9 HIH hG4 hgz4 hT4 htz4 hia4 hib
            go_wp2_with fail
            have hdrew : Below wr.heap.size wr wr.drew := ⟨rfl, rfl, rfl, Nat.le_refl _, fun _ _ => rfl⟩
            go_cut [6, 21] from 77 to 102 (fun v o wx => ∃ b : Bool, o = .bool b ∧ MRes B q' wr bs' (span g Kg[k].fr Kg[k].rt) (span t Kt[k].fr Kt[k].rt) v b wx)
            case first =>
              go_region_with (go_at_call 23; refine (HCALL.out wr.drew hdrew).mono ?_; rintro e w5 ⟨v5, b5, rfl, hm5⟩)
              all_goals (try go_wp2_with fail)
              all_goals go_meet
              all_goals exact ⟨_, rfl, hm5⟩
            case rest =>
              obtain ⟨b, rfl, hm⟩ := hcut
              have HBW : Hid (But (· = q) w wc) := by
                refine (But.ofBelow hd4).trans ?_
                refine ⟨hm.1.os.trans HBU.out.os, hm.1.tape.trans HBU.out.tape, hm.1.output.trans HBU.out.output, Nat.le_trans HBU.out.size hm.1.size, ?_⟩
                intro z hz hzq
                exact (hm.1.block z (by omega) (by intro e; omega)).trans (HBU.out.block z hz hzq)
              have HB4 : Hid (But (· = q) W4 wc) := by
                refine ⟨hm.1.os.trans HBU.out.os, hm.1.tape.trans HBU.out.tape, hm.1.output.trans HBU.out.output, Nat.le_trans HBU.out.size hm.1.size, ?_⟩
                intro z hz hzq
                exact (hm.1.block z (by omega) (by intro e; omega)).trans (HBU.out.block z hz hzq)
              have hkg' : k < (kidsIn g Kg).length := by simpa [kidsIn] using hkg
              have hkt' : k < (kidsIn t Kt).length := by simpa [kidsIn] using hkt
              have eg : (kidsIn g Kg)[k] = span g Kg[k].fr Kg[k].rt := kidsIn_get g Kg k hkg
              have et : (kidsIn t Kt)[k] = span t Kt[k].fr Kt[k].rt := kidsIn_get t Kt k hkt
              cases b
              · have HNO : Hid (MatchNo bs ((kidsIn g Kg).flatten ++ [x]) ((kidsIn t Kt).flatten ++ [x])) := by
                  have h9 := hm.2.2 rfl
                  rw [← eg, ← et] at h9
                  exact MatchNo.kid HK61.out HOG.out HLF.out HOT.out hkg' hkt' HMO.out h9
                clear hm ca cb
                go_wp2
                go_ret2
                exact ⟨_, _, rfl, HBW.out, (fun h => by cases h), fun _ => HNO.out⟩
              · obtain ⟨q2, c2, l2, rs2, bs2, rfl, hB2, hM2, hP2, hq2⟩ := hm.2.1 rfl
                have HM2 : Hid (MatchOk bs ((kidsIn g Kg).take (k + 1)).flatten ((kidsIn t Kt).take (k + 1)).flatten bs2) := by
                  show MatchOk bs _ _ bs2
                  rw [take_flat _ k hkg', take_flat _ k hkt']
                  rw [← eg, ← et] at hM2
                  exact HMO.out.step hM2 (HOG.out _ (List.getElem_mem hkg')) (HLF.out _ (List.getElem_mem hkg')) (HOT.out _ (List.getElem_mem hkt'))
                clear hm ca cb hM2
                go_wp2
                go_roundw
                case rel => exact ⟨k + 1, q2, c2, l2, rs2, bs2, by omega, by go_num, rfl, hB2, HM2.out, hP2, by omega, HB4.out⟩
                case measure => simp [intOf]; omega
          · have hkn2 : k = n := by omega
            subst hkn2
            rw [List.take_of_length_le (by simp [kidsIn, HQG.out]), List.take_of_length_le (by simp [kidsIn, HQT.out])] at hMo
            have HMO : Hid (MatchOk bs ((kidsIn g Kg).flatten ++ [x]) ((kidsIn t Kt).flatten ++ [x]) bs') := hMo.over HK61.out
            have hbw : But (· = q) w wr := (But.ofBelow hd4).trans hbut
            clear hMo
            go_wp2
            go_ret2
            exact ⟨_, _, rfl, hbw, (fun _ => ⟨q', c', l', rs', bs', rfl, hBr, HMO.out, hPr, by omega⟩), fun h => by cases h⟩

end Go.Proofs.Ytljdcaoibnikjaa

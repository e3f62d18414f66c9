import Derived.Test.YtoiiibplkhedcaaGreatDoorUMem
set_option maxRecDepth 100000
set_option maxHeartbeats 4000000
namespace Go.Proofs.YtoiiibplkhedcaaGreatDoor
open Go.RowKit
theorem Jbv (ty : List Nd) (m : Nat) (HM : Hid (ty.length = m)) (hm : m ≤ 300) (h0m : 0 < m) (S ys : List Sp) (HA : Hid (Qag ty m = some (S, ys))) (HYL : Hid (ys.length = m)) (HZ : Hid (Qby ty = ys.map szOf)) (HP : Hid (∀ y ∈ ty, y.plainb = true))
    (st0 : List SK) (n0 : Nat) (HN0 : Hid (st0.length = n0)) (hn0 : n0 ≤ 1000000) (ka0 : Nat → Option Addr × Nat) (lk : Nat → Option Nat) (mk0 : Nat → Int) (HLK : Hid (∀ i, n0 ≤ i → lk i = none)) (ms0 : List (Int × Nat)) (l0 : Nat) (HL0 : Hid (ms0.length = l0)) (hl0 : l0 ≤ 1000000) (HST : Hid (Sts st0)) (HMS : Hid (MsOk st0 ms0))
    (B : Nat) (ao : Option Addr) (c : Nat) (wk : Int) (HMK : Hid (∀ i, mk0 i ≤ wk)) (hwk : 0 ≤ wk) (gm cm : Nat) (tao : Option Addr) (tc : Nat) (w : World) (hB : B ≤ w.heap.size) (HTB : Hid (∀ b o, tao = some ⟨b, o, none⟩ → b < B)) (hx : Nodes w tao ty)
    (hS : StoV w B ao c st0 ka0 lk mk0) (hM : OwnM w B gm cm l0 (msI ms0)) (HKO : Hid (KOff st0 ka0 gm)) (HSO : Hid ((Value.slice ao n0 c).ownBlock ≠ some gm)) :
    Calls Tryz.prog 37 #[.agg #[.slice ao n0 c, .int .i64 wk], .slice tao m tc, .slice (some ⟨gm, 0, none⟩) l0 cm] w fun e w' => ∃ (g' n' c' : Nat) (st : List SK) (ka : Nat → Option Addr × Nat) (mk : Nat → Int) (gm' l' cm' : Nat) (ms : List (Int × Nat)) (at' : List Nat) (a : Nat), e = .returned (.tuple #[.agg #[.slice (some ⟨g', 0, none⟩) n' c', .int .i64 wk], .int .i64 (a : Int), .slice (some ⟨gm', 0, none⟩) l' cm']) ∧
      PutS st0 ms0 ty ys m st at' ms ∧ at'[m - 1]? = some a ∧ st.length = n' ∧ ms.length = l' ∧ Sto w' B g' c' st ka lk mk ∧ OwnM w' B gm' cm' l' (msI ms) ∧ KOff st ka gm' ∧ g' ≠ gm' ∧ (∀ i, mk i ≤ wk) ∧ But (fun i => (Value.slice ao n0 c).ownBlock = some i ∨ i = gm) w w' ∧ l' ≤ l0 + m ∧ (∀ X, X < w.heap.size → KOff st0 ka0 X → KOff st ka X) ∧ ((Value.slice ao n0 c).ownBlock = some g' ∨ w.heap.size ≤ g') ∧ (gm' = gm ∨ w.heap.size ≤ gm') := by
  obtain ⟨i0, hi, hz0, hz1, hz2⟩ := info_parts Tryz.infoM
  obtain ⟨i1, hj1, hy0, hy1, hy2⟩ := info_parts Tryz.infoI
  obtain ⟨z, hz⟩ : ∃ z, w.heap.size = z := ⟨_, rfl⟩
  have hA : Below w.heap.size w ((w.alloc (.cells #[.slice ao n0 c, .int .i64 wk] 78)).alloc (.cells #[.slice none 0 0, .int .i64 0] 78)) := ((Below.refl _ w).alloc (Nat.le_refl _) _).alloc (by simp) _
  have HX : Hid (Nodes w tao ty) := hx
  have HOW : Hid (∀ b, (Value.slice ao n0 c).ownBlock = some b → B ≤ b) := by
    intro b e
    have h9 := hS.own
    rw [HN0.out] at h9
    rcases h9.2 with ⟨e2, _⟩ | ⟨g, cap, cur, e2, hb, _⟩
    · rw [e2] at e; cases e
    · rw [e2] at e; simp only [Value.ownBlock, Option.some.injEq] at e; omega
  have hgmB : B ≤ gm := hM.row.1
  go_enter Tryz.func37, Tryz.ntmps37
  go_wp2_with fail
  refine (Qfm ty m HM (by omega) tao tc _ (hx.below hA)).mono ?_
  rintro e w1 ⟨gz, cz, nz, rfl, hsz, hb1⟩
  rw [HZ.out] at hsz
  have hnz : nz = m := by have := hsz.1; have := HYL.out; simp at *; omega
  subst hnz
  have hsz2 : Ints w1 (z + 2) gz cz nz (ys.map szOf) := hsz.base (by simp; omega)
  have hP0 := PW.start hz HN0.out HL0.out hS hM HKO.out HSO.out hb1 hsz2
  clear hA hS hM hb1 hsz hsz2 hx HZ
  obtain ⟨zs, hzs⟩ : ∃ zs, ys.map szOf = zs := ⟨_, rfl⟩
  have HZS : Hid (ys.map szOf = zs) := hzs
  rw [hzs] at hP0
  clear hzs
  go_wp2
  go_loopw [2, 10, 11] (fun vm va vi wr => ∃ (k n cc : Nat) (ao' : Option Addr) (st : List SK) (ka : Nat → Option Addr × Nat) (mk : Nat → Int) (gm' l cm : Nat) (ms : List (Int × Nat)) (ga ca : Nat) (at' : List Nat), k ≤ nz ∧ vi = .int .i64 k ∧ vm = .slice (some ⟨gm', 0, none⟩) l cm ∧ va = .slice (some ⟨ga, 0, none⟩) k ca ∧
      PW (fun X => X < z ∧ KOff st0 ka0 X) w wr (Value.slice ao n0 c).ownBlock gm B z wk ao' n cc st ka lk mk gm' l cm ms ga k ca at' gz cz nz zs ∧ PutS st0 ms0 ty ys k st at' ms ∧ l ≤ l0 + k ∧ (∀ i, mk i ≤ wk)) (fun _ _ vi _ => nz - (intOf vi).toNat)
  case atStart => exact ⟨0, n0, _, ao, st0, ka0, mk0, gm, l0, _, ms0, w1.heap.size, 0, [], Nat.zero_le _, rfl, rfl, rfl, hP0, PutS.start HST.out HMS.out ty ys, by omega, HMK.out⟩
  case round =>
    clear hP0 HMK HST HMS HKO HSO
    obtain ⟨k, n, c1, ao1, st, ka, mk, gm1, l, cm1, ms, ga, ca, at1, hk, rfl, rfl, rfl, hP, hU, hlk, hmk⟩ := hrel
    have hnk : n ≤ n0 + k := by have := hU.few; have := hP.hn; have := HN0.out; omega
    have HU : Hid (PutS st0 ms0 ty ys k st at1 ms) := hU
    have HMK : Hid (∀ i, mk i ≤ wk) := hmk
    have hLn : Hid (lk n = none) := HLK.out n (by have := hU.grown.le; have := hP.hn; have := HN0.out; omega)
    clear hU hmk
    by_cases hlt : k < nz
    · have hltx : k < ty.length := by have := HM.out; omega
      obtain ⟨⟨kd, nm, tx, ks, pl⟩, hxk⟩ : ∃ x, ty[k] = x := ⟨_, rfl⟩
      have HXK : Hid (ty[k] = ⟨kd, nm, tx, ks, pl⟩) := hxk
      have HPK : Hid (Nd.plainb ⟨kd, nm, tx, ks, pl⟩ = true) := by
        show Nd.plainb _ = true
        rw [← hxk]; exact HP.out _ (List.getElem_mem hltx)
      have hxr := hP.nodes HX.out HTB.out HOW.out hgmB
      obtain ⟨b, o, hao, hcx⟩ := hxr k hltx
      subst hao
      rw [hxk] at hcx
      obtain ⟨c0, c1', c2, c3, c4⟩ := hcx
      simp only at c0 c1' c2 c3 c4
      have hlb : b < wr.heap.size := Qaa c0
      obtain ⟨y, hy⟩ : ∃ y, wr.heap.size = y := ⟨_, rfl⟩
      have hyb : (wr.alloc (.cells #[.int .i64 kd, .int .i64 nm, .string tx, .int .i64 ks, .int .i64 pl] 43)).heap[y]? = some (.cells #[.int .i64 kd, .int .i64 nm, .string tx, .int .i64 ks, .int .i64 pl] 43 (0, 0)) := by rw [← hy]; exact heap_alloc_new _ _
      have hPa := hP.below ((Below.refl _ wr).alloc (Nat.le_refl _) (.cells #[.int .i64 kd, .int .i64 nm, .string tx, .int .i64 ks, .int .i64 pl] 43))
      obtain ⟨y0, y1, y2⟩ := Qiz hyb
      have hlts : gm1 < y ∧ ga < y ∧ gz < y ∧ z < y ∧ z + 1 < y := ⟨by have := (Qad hP.mts.2).2; omega, by have := hP.ats.block.2; omega, by have := hP.sz.block.2; omega, by have := hP.zlt; omega, by have := hP.rlt; omega⟩
      have HOY : Hid ((Value.slice ao1 n c1).ownBlock ≠ some y) := by
        have h9 := hP.sto.slt (X := y) (by omega)
        rw [hP.hn] at h9
        exact h9
      have HOYA : Hid (∀ q, y ≤ q → (Value.slice ao1 n c1).ownBlock ≠ some q) := by
        intro q hq
        have h9 := hP.sto.slt (X := q) (by omega)
        rw [hP.hn] at h9
        exact h9
      have HKY : Hid (∀ q, y ≤ q → KOff st ka q) := fun q hq => hP.sto.klt (by omega)
      have hBr : B ≤ wr.heap.size := by have := hP.frame.size; omega
      clear hP hxk
      by_cases h61 : kd = 61
      · subst h61
        have h0s : Hid (ks = 0) := by
          have h9 := Qdk HPK.out rfl
          simp only [Qav, Nd.mk.injEq] at h9
          exact h9.2.2.2.1
        go_wp2_with fail
        refine (Qww (msI ms) l (by show (msI ms).length = l; rw [Qcw]; exact hPa.hl) (by omega) nm gm1 cm1 _ hPa.mts.row.2).mono ?_
        rintro e w2 ⟨rfl, hb2⟩
        have hP2 := hPa.below hb2
        have hyb2 := (hb2.block y (by simp; omega)).trans hyb
        have hsz2 := hb2.size
        simp only [World.size_alloc] at hsz2
        obtain ⟨q, hq⟩ : ∃ q, Qcm (msI ms) nm = q := ⟨_, rfl⟩
        have HQ : Hid (Qcm (msI ms) nm = q) := hq
        rw [hq]
        clear hq hPa hyb hb2 y0 y1 y2 c0 c1' c2 c3 c4
        obtain ⟨y0, y1, y2⟩ := Qiz hyb2
        have hyl : y < w2.heap.size := by omega
        by_cases hq0 : q < 0
        · have tq : decide (q < 0) = true := decide_eq_true hq0
          have HF : Hid (PutS st0 ms0 ty ys (k + 1) (st ++ [⟨61, nm, ByteArray.empty, []⟩]) (at1 ++ [n]) (ms ++ [(nm, n)])) := by
            have h9 := HU.out.fresh HA.out hlt hltx (by rw [HXK.out]; exact HPK.out) (by rw [HXK.out]) (by rw [HXK.out]; exact h0s.out) (by rw [HXK.out]; exact Jaf HQ.out hq0)
            rw [HXK.out, hP2.hn] at h9
            exact h9
          obtain ⟨x0, x1, x2, x3, hzl⟩ := Qay hP2.box
          clear x2 x3
          have HP2 : Hid (PW (fun X => X < z ∧ KOff st0 ka0 X) w w2 (Value.slice ao n0 c).ownBlock gm B z wk ao1 n c1 st ka lk mk gm1 l cm1 ms ga k ca at1 gz cz nz zs) := hP2
          clear hP2
          go_wp2_with fail
          refine (Qwi st n HP2.out.hn (by omega) ka lk mk hLn B ao1 c1 wk w2 HP2.out.sto (by omega) ⟨61, nm, ByteArray.empty, []⟩ none 0 0 rfl 0 (fun k h => by simp at h)).mono ?_
          rintro e w3 ⟨g3, c3, rfl, hS3, hb3, hwh3⟩
          have hP3 := HP2.out.new hS3 hb3 hwh3 (fun b o h => by simp at h)
          obtain ⟨p0, p1, f0, f1, hzl3⟩ := Qay (HP2.out.newBox hb3)
          have hyb3 := (hb3.block y hyl HOY.out).trans hyb2
          have hbz : But (fun i => i = z) w3 ((w3.setCell ⟨z, 0, none⟩ (.slice (some ⟨g3, 0, none⟩) (n + 1) c3)).setCell ⟨z, 1, none⟩ (.int .i64 wk)) := ((But.refl (fun i => i = z) w3).setCell (p := ⟨z, 0, none⟩) rfl _).setCell (p := ⟨z, 1, none⟩) rfl _
          have hyl3 : y < w3.heap.size := by have := hb3.size; omega
          obtain ⟨y30, y31, y32⟩ := Qiz hyb3
          have hc4 : ∀ j u, [Value.int .i64 nm, .int .i64 (n : Int)][j]? = some u → (((w3.setCell ⟨z, 0, none⟩ (.slice (some ⟨g3, 0, none⟩) (n + 1) c3)).setCell ⟨z, 1, none⟩ (.int .i64 wk)).alloc (.cells #[.int .i64 nm, .int .i64 (n : Int)] 134)).cell? (Addr.add ⟨w3.heap.size, 0, none⟩ j) = some u := by
            have h9 := Qnk ((w3.setCell ⟨z, 0, none⟩ (.slice (some ⟨g3, 0, none⟩) (n + 1) c3)).setCell ⟨z, 1, none⟩ (.int .i64 wk)) nm (n : Int)
            rw [Qak, Qak] at h9
            exact h9
          have hyz : y ≠ z := by omega
          have hzy : z ≠ y := by omega
          have hB4 : B ≤ ((w3.setCell ⟨z, 0, none⟩ (.slice (some ⟨g3, 0, none⟩) (n + 1) c3)).setCell ⟨z, 1, none⟩ (.int .i64 wk)).heap.size := by have := hbz.size; have := hb3.size; omega
          clear hS3 hb3 hwh3 HP2 hyb3 hyb2 hbz y0 y1 y2 x0 x1
          go_wp2_with (at_builtin; refine Qac _ rfl (.tmp 51) (.tmp 56) 79 rfl B 134 i0 _ 2 16 Tryz.underlying79 hi hz0 hz1 hz2 rfl (by decide) gm1 l cm1 _ rfl (hP3.mts.alloc _).2 ⟨_, 0, none⟩ 1 1 [.int .i64 nm, .int .i64 (n : Int)] rfl rfl hc4 (Quv _ _) ?a3 ?a4 ?a5 ?_)
          case a3 => unfold maxLen; omega
          case a4 => omega
          case a5 => simp only [World.size_alloc, Qak] at *; omega
          intro g5 c5 w5 hown5 hgrow5 hwh5
          have hP5 := hP3.pushMs (a := n) (x := nm) ((Below.refl _ _).alloc (Nat.le_refl _) _) hown5 hgrow5 (by rcases hwh5 with h | h; exact .inl h.symm; exact .inr (by simp only [World.size_alloc, Qak] at h ⊢; omega))
          have hB5 : B ≤ w5.heap.size := by have := hP5.frame.size; omega
          have e1 : w5.cell? ⟨g5, l * 2 + 1, none⟩ = some (.int .i64 (n : Int)) := by
            have h9 := (hP5.mts.row.2.at l (by rw [Qcw]; simp; have := hP3.hl; omega)).2
            rw [h9]
            have h8 := hP3.hl
            subst h8
            simp [msI]
          have hg5 : g5 < w5.heap.size := Qaa e1
          clear hown5 hgrow5 hwh5 hP3 hc4 p0 p1 f0 f1 y30 y31 y32 hB4 hzl3 hyl3
          go_wp2_with (at_builtin; refine Qac _ rfl (.tmp 61) (.tmp 67) 40 rfl z 3 i1 _ 1 8 Tryz.underlying40 hj1 hy0 hy1 hy2 rfl (by decide) ga k ca _ rfl (hP5.ats.alloc _).2 ⟨_, 0, none⟩ 1 1 [.int .i64 (n : Int)] rfl rfl (Qdg _ _) (Qeh _) ?b3 ?b4 ?b5 ?_)
          case b3 => unfold maxLen; omega
          case b4 => omega
          case b5 => have := hP5.zlt; simp only [World.size_alloc]; omega
          intro g6 c6 w6 hown6 hgrow6 hwh6
          have hP6 := hP5.pushAt (a := n) ((Below.refl _ _).alloc (Nat.le_refl _) _) hown6 hgrow6 (by rcases hwh6 with h | h; exact .inl h.symm; exact .inr (by simp only [World.size_alloc]; omega))
          clear hown6 hgrow6 hwh6 hP5 e1
          have HMK2 : Hid (∀ i, updM mk n 0 i ≤ wk) := by
            intro i
            unfold updM
            split
            · exact hwk
            · exact HMK.out i
          go_wp2
          go_roundw
          case rel => exact ⟨k + 1, n + 1, c3, some ⟨g3, 0, none⟩, _, _, _, g5, l + 1, c5, _, g6, c6, _, by omega, by go_num, rfl, rfl, hP6, HF.out, by omega, HMK2.out⟩
          case measure => simp [intOf]; omega
        · have tq : decide (q < 0) = false := decide_eq_false hq0
          obtain ⟨j, hj, rfl, hjx⟩ := Qwu HQ.out hq0
          obtain ⟨a, ha⟩ : ∃ a, (ms[j]).2 = a := ⟨_, rfl⟩
          have HF : Hid (PutS st0 ms0 ty ys (k + 1) st (at1 ++ [a]) ms) := by
            refine HU.out.known HA.out hlt hltx (by rw [HXK.out]) (by rw [HXK.out]; exact h0s.out) (j := a) ?_
            rw [HXK.out]
            have h9 := List.getElem_mem hj
            have h8 : ms[j] = (nm, a) := Prod.ext hjx ha
            rw [h8] at h9
            exact h9
          have e1 : w2.cell? ⟨gm1, j * 2 + 1, none⟩ = some (.int .i64 (a : Int)) := by
            have h9 := (hP2.mts.row.2.at j (by rw [Qcw]; exact hj)).2
            rw [h9]
            simp [msI, ha]
          have hjl : j < l := by have := hP2.hl; omega
          have hg2 : gm1 < w2.heap.size := Qaa e1
          have HMK2 : Hid (∀ i, mk i ≤ wk) := HMK.out
          clear HQ hjx ha
          go_wp2_with (at_builtin; refine Qac _ rfl (.tmp 61) (.tmp 67) 40 rfl z 3 i1 _ 1 8 Tryz.underlying40 hj1 hy0 hy1 hy2 rfl (by decide) ga k ca _ rfl (hP2.ats.alloc _).2 ⟨_, 0, none⟩ 1 1 [.int .i64 (a : Int)] rfl rfl (Qdg _ _) (Qeh _) ?b3 ?b4 ?b5 ?_)
          case b3 => unfold maxLen; omega
          case b4 => omega
          case b5 => have := hP2.zlt; simp only [World.size_alloc]; omega
          intro g6 c6 w6 hown6 hgrow6 hwh6
          have hP6 := hP2.pushAt (a := a) ((Below.refl _ _).alloc (Nat.le_refl _) _) hown6 hgrow6 (by rcases hwh6 with h | h; exact .inl h.symm; exact .inr (by simp only [World.size_alloc]; omega))
          clear hown6 hgrow6 hwh6 hP2 e1 hyb2 y0 y1 y2
          go_wp2
          go_roundw
          case rel => exact ⟨k + 1, n, c1, ao1, _, _, _, gm1, l, cm1, _, g6, c6, _, by omega, by go_num, rfl, rfl, hP6, HF.out, by omega, HMK2.out⟩
          case measure => simp [intOf]; omega
      · have t61 : ((kd : Int) == 61) = false := by simpa using h61
        have HN61 : Hid (kd ≠ 61) := h61
        obtain ⟨K, hK, hyK⟩ := Qjb HA.out k hlt
        obtain ⟨q, hq⟩ : ∃ q, K.length = q := ⟨_, rfl⟩
        have HK : Hid (KidsAt ty ys k K) := hK
        have HQ : Hid (K.length = q) := hq
        have HYK : Hid (ys[k]? = some (over K k)) := hyK
        have hqk : q ≤ k := by have := hK.len; omega
        have hk1 := hPa.hk
        obtain ⟨kl, hkl⟩ : ∃ kl : List Nat, kl = K.map (fun s => at1[s.rt]?.getD 0) := ⟨_, rfl⟩
        have HKL : Hid (kl.length = q) := by show kl.length = q; rw [hkl]; simp [hq]
        have HAT : Hid (∀ r (h1 : r < K.length) (h2 : r < kl.length), at1[K[r].rt]? = some kl[r]) := by
          intro r h1 h2
          have h9 := (hK.mem r h1).2.2
          simp only [hkl, List.getElem_map]
          rw [List.getElem?_eq_getElem (by omega)]
          rfl
        have hxa := hPa.nodes HX.out HTB.out HOW.out hgmB
        have hsza := hPa.sz
        rw [← HZS.out] at hsza
        have hB9 : (wr.alloc (.cells #[.int .i64 kd, .int .i64 nm, .string tx, .int .i64 ks, .int .i64 pl] 43)).heap.size = y + 1 := by simp only [World.size_alloc]; omega
        clear h61 hK hq hyK hkl hk1
        go_wp2_with fail
        refine (Qfn ty ys K nz k q HM (by omega) HK HQ hlt HYL _ tc gz cz z _ hxa hsza).mono ?_
        rintro e w2 ⟨G, rfl, hroots, hb2⟩
        rw [hB9] at hroots
        have hP2 := hPa.below hb2
        have hyb2 := (hb2.block y (by omega)).trans hyb
        have hsz2 := hb2.size
        rw [hB9] at hsz2
        have hI0 := Ints.empty (w := w2) (B := y + 1) hsz2
        have hA2 : Below w2.heap.size w2 (w2.alloc (.cells #[] 3)) := (Below.refl _ w2).alloc (Nat.le_refl _) _
        have hP2a := hP2.below hA2
        have hr2 := hroots.below hA2
        have hGl := hroots.block
        have hyb2a := (hA2.block y (by omega)).trans hyb2
        clear hPa hyb hb2 y0 y1 y2 c0 c1' c2 c3 c4 hxa hsza hroots hP2 hyb2 hA2 hB9
        go_wp2
        go_loopw [16, 17] (fun vk vj wq => ∃ (j gk ck : Nat), j ≤ q ∧ vj = .int .i64 j ∧ vk = .slice (some ⟨gk, 0, none⟩) j ck ∧ Ints wq (y + 1) gk ck j (natI (kl.take j)) ∧ gk ≠ G ∧ Ints wq (y + 1) G q q (rts K) ∧ PW (fun X => X < z ∧ KOff st0 ka0 X) w wq (Value.slice ao n0 c).ownBlock gm B z wk ao1 n c1 st ka lk mk gm1 l cm1 ms ga k ca at1 gz cz nz zs ∧ wq.heap[y]? = some (.cells #[.int .i64 kd, .int .i64 nm, .string tx, .int .i64 ks, .int .i64 pl] 43 (0, 0))) (fun _ vj _ => q - (intOf vj).toNat)
        case atStart => exact ⟨0, w2.heap.size, 0, Nat.zero_le _, rfl, rfl, by simpa [natI] using hI0, by omega, hr2, hP2a, hyb2a⟩
        case round =>
          clear hI0 hP2a hr2 hyb2a hGl
          obtain ⟨j, gk, ck, hj, rfl, rfl, hIk, hgG, hrt, hP3, hyb3⟩ := hrel
          have hgk := hIk.block
          by_cases hjq : j < q
          · have hjK : j < K.length := by have := HQ.out; omega
            have hjl : j < kl.length := by have := HKL.out; omega
            obtain ⟨a, ha⟩ : ∃ a, kl[j] = a := ⟨_, rfl⟩
            obtain ⟨r, hr⟩ : ∃ r, K[j].rt = r := ⟨_, rfl⟩
            have hrk : r < k := by have := (HK.out.mem j hjK).2.2; omega
            have ea : at1[r]? = some a := by have h9 := HAT.out j hjK hjl; rw [hr, ha] at h9; exact h9
            have cr : wr.cell? ⟨G, j, none⟩ = some (.int .i64 (r : Int)) := by
              rw [hrt.at j (by simp [rts]; exact hjK)]
              simp [rts, hr]
            have ca' : wr.cell? ⟨ga, r, none⟩ = some (.int .i64 (a : Int)) := by
              have hl9 := hP3.hk
              rw [hP3.ats.at r (by rw [Qey]; omega)]
              have h8 := (List.getElem?_eq_some_iff.1 ea).2
              simp [natI, h8]
            have HT : Hid (kl.take (j + 1) = kl.take j ++ [a]) := by
              show kl.take (j + 1) = _
              rw [List.take_succ_eq_append_getElem hjl, ha]
            have hGl := hrt.block.2
            have hgal := hP3.ats.block.2
            have hyl3 : y < wr.heap.size := by omega
            clear ea ha hr
            go_wp2_with (at_builtin; refine Qac _ rfl (.tmp 80) (.tmp 88) 40 rfl (y + 1) 3 i1 _ 1 8 Tryz.underlying40 hj1 hy0 hy1 hy2 rfl (by decide) gk j ck _ rfl (hIk.alloc _).2 ⟨_, 0, none⟩ 1 1 [.int .i64 (a : Int)] rfl rfl (Qdg _ _) (Qeh _) ?d3 ?d4 ?d5 ?_)
            case d3 => unfold maxLen; omega
            case d4 => omega
            case d5 => simp only [World.size_alloc]; omega
            intro g5 c5 w5 hown5 hgrow5 hwh5
            have hbu : But (fun i => i = gk) wr w5 := (But.ofBelow ((Below.refl _ wr).alloc (Nat.le_refl _) _)).trans ((Qhn hgrow5).mono (fun i e => by simp only [Option.some.injEq] at e; exact e.symm))
            have hI5 : Ints w5 (y + 1) g5 c5 (j + 1) (natI (kl.take (j + 1))) := by
              rw [HT.out, Qol]
              exact Ints.push hown5 hIk.1 rfl
            have hne5 : g5 ≠ G := by rcases hwh5 with h | h <;> (try simp only [World.size_alloc] at h) <;> omega
            have hr5 : Ints w5 (y + 1) G q q (rts K) := ⟨hrt.1, Qah hrt.2 hbu (fun e => hgG e.symm)⟩
            have hP5 := hP3.far hbu (y := y) (fun q hq => by omega) hlts HOYA.out HKY.out
            have hyb5 := (hbu.block y hyl3 (by omega)).trans hyb3
            clear hown5 hgrow5 hwh5 hIk hrt hP3 hyb3 hbu cr ca'
            go_wp2
            go_roundw
            case rel => exact ⟨j + 1, g5, c5, by omega, by go_num, rfl, hI5, hne5, hr5, hP5, hyb5⟩
            case measure => simp [intOf]; omega
          · have hje : j = q := by omega
            subst hje
            rw [List.take_of_length_le (by have := HKL.out; omega)] at hIk
            have HF : Hid (PutS st0 ms0 ty ys (k + 1) (st ++ [⟨kd, nm, tx, kl⟩]) (at1 ++ [n]) ms) := by
              have h9 := HU.out.node hltx (by rw [HXK.out]; exact HPK.out) (by rw [HXK.out]; exact HN61.out) (by omega) HK.out HYK.out (by have := HKL.out; have := HQ.out; omega) HAT.out
              rw [HXK.out, hP3.hn] at h9
              exact h9
            have HKC : Hid (∀ r (h : r < kl.length), ∃ b o, some (⟨gk, 0, none⟩ : Addr) = some ⟨b, o, none⟩ ∧ (Value.slice ao1 n c1).ownBlock ≠ some b ∧ wr.cell? ⟨b, o + r, none⟩ = some (.int .i64 (kl[r] : Int))) := by
              intro r hr
              refine ⟨gk, 0, rfl, HOYA.out gk (by omega), ?_⟩
              rw [Nat.zero_add, hIk.at r (by rw [Qey]; exact hr)]
              simp [natI]
            obtain ⟨x0, x1, x2, x3, hzl⟩ := Qay hP3.box
            clear x2 x3
            obtain ⟨y0, y1, y2⟩ := Qiz hyb3
            have hyl : y < wr.heap.size := by omega
            have HP3 : Hid (PW (fun X => X < z ∧ KOff st0 ka0 X) w wr (Value.slice ao n0 c).ownBlock gm B z wk ao1 n c1 st ka lk mk gm1 l cm1 ms ga k ca at1 gz cz nz zs) := hP3
            have hBq : B ≤ wr.heap.size := by have := hP3.frame.size; omega
            clear hP3 hrt hIk
            go_wp2_with fail
            refine (Qwi st n HP3.out.hn (by omega) ka lk mk hLn B ao1 c1 wk wr HP3.out.sto hBq ⟨kd, nm, tx, kl⟩ (some ⟨gk, 0, none⟩) j ck HKL 0 HKC.out).mono ?_
            rintro e w3 ⟨g3, c3, rfl, hS3, hb3, hwh3⟩
            have hP4 := HP3.out.new hS3 hb3 hwh3 (fun b o h e => by simp only [Option.some.injEq, Addr.mk.injEq, and_true] at e; omega)
            obtain ⟨p0, p1, f0, f1, hzl3⟩ := Qay (HP3.out.newBox hb3)
            have hb4s : ((w3.setCell ⟨z, 0, none⟩ (.slice (some ⟨g3, 0, none⟩) (n + 1) c3)).setCell ⟨z, 1, none⟩ (.int .i64 wk)).heap.size = w3.heap.size := by rw [Qak, Qak]
            have hz4 := hP4.zlt
            have hc4 : ∀ jj u, [Value.int .i64 (n : Int)][jj]? = some u → (((w3.setCell ⟨z, 0, none⟩ (.slice (some ⟨g3, 0, none⟩) (n + 1) c3)).setCell ⟨z, 1, none⟩ (.int .i64 wk)).alloc (.cells #[.int .i64 (n : Int)] 3)).cell? (Addr.add ⟨w3.heap.size, 0, none⟩ jj) = some u := by
              have h9 := Qdg ((w3.setCell ⟨z, 0, none⟩ (.slice (some ⟨g3, 0, none⟩) (n + 1) c3)).setCell ⟨z, 1, none⟩ (.int .i64 wk)) (.int .i64 (n : Int))
              rw [Qak, Qak] at h9
              exact h9
            clear hS3 hb3 hwh3 HP3 hyb3 y0 y1 y2 x0 x1
            go_wp2_with (at_builtin; refine Qac _ rfl (.tmp 103) (.tmp 105) 40 rfl z 3 i1 _ 1 8 Tryz.underlying40 hj1 hy0 hy1 hy2 rfl (by decide) ga k ca _ rfl (hP4.ats.alloc _).2 ⟨_, 0, none⟩ 1 1 [.int .i64 (n : Int)] rfl rfl hc4 (Qeh _) ?b3 ?b4 ?b5 ?_)
            case b3 => unfold maxLen; omega
            case b4 => omega
            case b5 => simp only [World.size_alloc, Qak] at *; omega
            intro g6 c6 w6 hown6 hgrow6 hwh6
            have hP6 := hP4.pushAt (a := n) ((Below.refl _ _).alloc (Nat.le_refl _) _) hown6 hgrow6 (by rcases hwh6 with h | h; exact .inl h.symm; exact .inr (by simp only [World.size_alloc, Qak] at h ⊢; omega))
            clear hown6 hgrow6 hwh6 hP4 p0 p1 f0 f1 hc4
            have HMK2 : Hid (∀ i, updM mk n 0 i ≤ wk) := by
              intro i
              unfold updM
              split
              · exact hwk
              · exact HMK.out i
            go_wp2
            go_roundw
            case rel => exact ⟨k + 1, n + 1, c3, some ⟨g3, 0, none⟩, _, _, _, gm1, l, cm1, _, g6, c6, _, by omega, by go_num, rfl, rfl, hP6, HF.out, by omega, HMK2.out⟩
            case measure => simp [intOf]; omega
    · have hke : k = nz := by omega
      subst hke
      have hk1 := hP.hk
      obtain ⟨a, ha⟩ : ∃ a, at1[k - 1]? = some a := ⟨_, List.getElem?_eq_getElem (by omega)⟩
      have hn1 : 0 < n := by
        have h9 := HU.out.mean (k - 1) (ys[k - 1]'(by have := HYL.out; omega)) a (by omega) (List.getElem?_eq_getElem _) ha
        have := h9.1
        have := hP.hn
        omega
      obtain ⟨g, rfl⟩ := hP.hasRow hn1
      have HAA : Hid (at1[k - 1]? = some a) := ha
      have e1 : wr.cell? ⟨ga, k - 1, none⟩ = some (.int .i64 (a : Int)) := by
        rw [hP.ats.at (k - 1) (by rw [Qey]; omega)]
        have h8 := (List.getElem?_eq_some_iff.1 ha).2
        simp [natI, h8]
      have hgal := hP.ats.block.2
      have HRET : Hid (∀ W, But (fun i => i = z + 1) wr W → Sto W B g c1 st ka lk mk ∧ OwnM W B gm1 cm1 l (msI ms) ∧ KOff st ka gm1 ∧ g ≠ gm1 ∧ But (fun i => (Value.slice ao n0 c).ownBlock = some i ∨ i = gm) w W ∧ (∀ X, X < z ∧ KOff st0 ka0 X → KOff st ka X) ∧ ((Value.slice ao n0 c).ownBlock = some g ∨ z ≤ g) ∧ (gm1 = gm ∨ z ≤ gm1)) := fun W hW => hP.ret hW
      have HNL : Hid (st.length = n ∧ ms.length = l) := ⟨hP.hn, hP.hl⟩
      obtain ⟨x0, x1, x2, x3, hzl⟩ := Qay hP.box
      obtain ⟨r0, r1, f0, f1, hrl⟩ := Qay hP.rbox
      have hgz1 : ga ≠ z + 1 := hP.aoff.2.2.2.1
      have hgz2 : z + 1 ≠ ga := fun e => hgz1 e.symm
      have hzz : z ≠ z + 1 := by omega
      have hzz' : z + 1 ≠ z := by omega
      clear hP hk1 ha x2 x3
      go_wp2_with fail
      go_region
      go_wp2
      have HB := HRET.out _ (Qpt (((But.refl (fun i => i = z + 1) wr).setCell (p := ⟨z + 1, 0, none⟩) rfl (.slice (some ⟨g, 0, none⟩) n c1)).setCell (p := ⟨z + 1, 1, none⟩) rfl (.int .i64 wk)))
      refine bodyPost_ret (v := .tuple #[.agg #[.slice (some ⟨g, 0, none⟩) n c1, .int .i64 wk], .int .i64 (a : Int), .slice (some ⟨gm1, 0, none⟩) l cm1]) (by simp [results, Tryz.results37, go_sem, r0, r1]) rfl ?_
      exact ⟨g, n, c1, st, ka, mk, gm1, l, cm1, ms, at1, a, rfl, HU.out, HAA.out, HNL.out.1, HNL.out.2, HB.1, HB.2.1, HB.2.2.1, HB.2.2.2.1, HMK.out, HB.2.2.2.2.1, hlk, fun X h1 h2 => HB.2.2.2.2.2.1 X ⟨by omega, h2⟩, HB.2.2.2.2.2.2.1.imp id (fun h => by omega), HB.2.2.2.2.2.2.2.imp id (fun h => by omega)⟩
theorem Qjd (st : List SK) (n : Nat) (HL : Hid (st.length = n)) (ka : Nat → Option Addr × Nat) (lk : Nat → Option Nat) (mk : Nat → Int) (rk : Nat → Nat) (HR : Hid (Ranked st lk rk)) (HG : Hid (∀ i j, lk i = some j → i < st.length ∧ j < st.length))
    (B g c : Nat) (wk : Int) (w : World) (hS : Sto w B g c st ka lk mk) (i r : Nat) (hi : i < n) (hr : Rt lk i r) :
    Calls Tryz.prog 70 #[.agg #[.slice (some ⟨g, 0, none⟩) n c, .int .i64 wk], .int .i64 (i : Int)] w fun e w' => e = .returned (.int .i64 (r : Int)) ∧ Below w.heap.size w w' := by
  have hgw := hS.block
  have HS : Hid (Sto w B g c st ka lk mk) := hS
  clear hS
  go_enter Tryz.func70, Tryz.ntmps70
  go_wp2
  go_loopw [1] (fun v wr => ∃ k : Nat, k < n ∧ v = .int .i64 (k : Int) ∧ Rt lk k r ∧ wr = w.alloc (.cells #[.slice (some ⟨g, 0, none⟩) n c, .int .i64 wk] 78)) (fun v _ => rk (intOf v).toNat)
  case atStart => exact ⟨i, hi, rfl, hr, rfl⟩
  case round =>
    obtain ⟨k, hk, rfl, hrt, rfl⟩ := hrel
    have hbox : Below w.heap.size w (w.alloc (.cells #[.slice (some ⟨g, 0, none⟩) n c, .int .i64 wk] 78)) := (Below.refl _ w).alloc (Nat.le_refl _) _
    have c4 : w.cell? ⟨g, k * 6 + 4, none⟩ = some (.int .i64 (lkv (lk k))) := by
      rw [HS.out.cell k 4 (by have := HL.out; omega) (by omega)]
      rfl
    cases hl : lk k with
    | none =>
      have e : k = r := by
        cases hrt using Rt.inv with
        | root _ => rfl
        | step h1 _ => rw [hl] at h1; cases h1
      subst e
      rw [hl] at c4
      simp only [lkv] at c4
      clear hrt hl
      go_wp2
      go_ret
      exact ⟨rfl, hbox⟩
    | some j =>
      have hj : j < n := by have := (HG.out k j hl).2; have := HL.out; omega
      have hrj : Rt lk j r := by
        cases hrt using Rt.inv with
        | root h1 => rw [hl] at h1; cases h1
        | step h1 h2 => rw [hl] at h1; cases h1; exact h2
      have hrk := HR.out.link k j hl
      rw [hl] at c4
      simp only [lkv] at c4
      clear hrt hl
      go_wp2
      go_roundw
      case rel => exact ⟨j, hj, rfl, hrj, trivial⟩
      case measure => simpa [intOf] using hrk
end Go.Proofs.YtoiiibplkhedcaaGreatDoor

import Derived.Test.YtljdcaoibnikjaaNV
import Derived.Test.YtljdcaoibnikjaaWAJ
namespace Go.Proofs.Ytljdcaoibnikjaa

open Go.RowKit Go.Maps

/-- What a cell says, read to the end: also an unknown is its node over its kids. -/
def gcv (K : (Option Addr × Nat × Nat) → List Nat) (f : Nat → CC) : Nat → GC := fun i => ⟨(f i).nd, K (f i).ks, false⟩

/-- What write leaves. -/
def WRes (X : Nat → Prop) (f : Nat → CC) (lk : Nat → Option Nat) (d : Nat → Nat) (K : (Option Addr × Nat × Nat) → List Nat) (B g0 k : Nat) (zs xs : List Nd) (w : World) (e : Ending) (w' : World) : Prop :=
  ∃ g c lk', e = .returned (.slice (some ⟨g, 0, none⟩) (k + xs.length) c) ∧ OwnN w' B g c (k + xs.length) (zs ++ xs) ∧ CSto w' X f lk' d K ∧ SameHd lk lk' ∧ But (fun i => X i ∨ i = g0) w w' ∧ (g = g0 ∨ w.heap.size ≤ g)

theorem sat_root {X : Nat → Prop} {f : Nat → CC} {lk : Nat → Option Nat} {d : Nat → Nat} {K : (Option Addr × Nat × Nat) → List Nat} {w : World} (h : CSto w X f lk d K) {θ : Nat → DT} (hs : SatC X (gcv K f) lk θ) {i : Nat} (hi : X i) : ∃ k, θ i [] = some k := by
  obtain ⟨r, hr⟩ := h.acyc.head _ i (Nat.lt_succ_self _)
  have e := hr.sat hs
  have e2 := hs.2 r (hr.inX h.cells hi) hr.is_root rfl
  rw [e, e2]
  exact ⟨_, rfl⟩

theorem OwnN.tag {w : World} {B g c k : Nat} {zs : List Nd} (h : OwnN w B g c k zs) : ∃ cur, w.heap[g]? = some (.cells cur 53 (0, 0)) := (owns_tag h.2).2

theorem but_next {X : Nat → Prop} {g g2 : Nat} {w wr w3 : World} (h : But (fun i => X i ∨ i = g) w wr) (h' : But (fun i => X i ∨ i = g2) wr w3) (hg : g2 = g ∨ w.heap.size ≤ g2) : But (fun i => X i ∨ i = g) w w3 := by
  refine ⟨h'.os.trans h.os, h'.tape.trans h.tape, h'.output.trans h.output, Nat.le_trans h.size h'.size, fun i hi hn => ?_⟩
  refine (h'.block i (Nat.lt_of_lt_of_le hi h.size) ?_).trans (h.block i hi hn)
  rintro (h9 | h9)
  · exact hn (.inl h9)
  · rcases hg with h8 | h8
    · exact hn (.inr (h9.trans h8))
    · omega

set_option maxRecDepth 20000 in
set_option maxHeartbeats 8000000 in
theorem write_any (X : Nat → Prop) (f : Nat → CC) (d : Nat → Nat) (K : (Option Addr × Nat × Nat) → List Nat) (θ : Nat → DT) (B : Nat) (HXB : Hid (∀ i, X i → i < B)) : ∀ (N : Nat) (xs : List Nd) (lk : Nat → Option Nat) (w : World) (b g c k : Nat) (zs : List Nd), xs.length ≤ N → CSto w X f lk d K → SatC X (gcv K f) lk θ → X b → Ev selfT xs (θ b) → OwnN w B g c k zs → k + xs.length ≤ 1000000000 →
    Calls Try.prog 61 #[.pointer (some ⟨b, 0, none⟩), .slice (some ⟨g, 0, none⟩) k c] w fun e w' => WRes X f lk d K B g k zs xs w e w' := by
  intro N
  induction N with
  | zero =>
    intro xs lk w b g c k zs hN _ _ _ hE
    have := List.length_pos_iff.2 hE.one.ne
    omega
  | succ N ih =>
    intro xs lk w b g c k zs hN hS hs hXb hE hO hk
    obtain ⟨i0, hi, hz0, hz1, hz2⟩ := info_parts Try.infoN
    obtain ⟨r, hr⟩ := hS.acyc.head _ b (Nat.lt_succ_self _)
    have hXr : X r := hr.inX hS.cells hXb
    have e1 := hr.sat hs
    have e2 := hs.2 r hXr hr.is_root rfl
    rw [e1, e2] at hE
    have hroot : ∀ dd ∈ (gcv K f r).ks.map θ, ∃ kk, dd [] = some kk := by
      intro dd hd
      obtain ⟨i, hi, rfl⟩ := List.mem_map.1 hd
      exact sat_root hS hs (hS.inX r hXr i hi)
    obtain ⟨xss, hxl, hxe, rfl, hnk⟩ := hE.kids hroot
    have HIH : Hid (∀ (xs : List Nd) (lk : Nat → Option Nat) (w : World) (b g c k : Nat) (zs : List Nd), xs.length ≤ N → CSto w X f lk d K → SatC X (gcv K f) lk θ → X b → Ev selfT xs (θ b) → OwnN w B g c k zs → k + xs.length ≤ 1000000000 →
      Calls Try.prog 61 #[.pointer (some ⟨b, 0, none⟩), .slice (some ⟨g, 0, none⟩) k c] w fun e w' => WRes X f lk d K B g k zs xs w e w') := ih
    clear ih
    have HA : Hid (Acyc lk d) := hS.acyc
    have HS : Hid (CSto w X f lk d K) := hS
    have HSA : Hid (SatC X (gcv K f) lk θ) := hs
    have HC := hS.cells
    have HXE : Hid (∀ i (h1 : i < xss.length) (h2 : i < ((gcv K f r).ks.map θ).length), Ev selfT xss[i] ((gcv K f r).ks.map θ)[i]) := hxe
    have HN : Hid ((xss.flatten ++ [(gcv K f r).nd]).length ≤ N + 1) := hN
    have HO : Hid (OwnN w B g c k zs) := hO
    have HK : Hid (k + (xss.flatten ++ [(gcv K f r).nd]).length ≤ 1000000000) := hk
    obtain ⟨sy, L, cy, hky⟩ : ∃ s l c, (f r).ks = (s, l, c) := ⟨_, _, _, rfl⟩
    obtain ⟨kk, hkk⟩ : ∃ l, K (f r).ks = l := ⟨_, rfl⟩
    have hRR := hS.rows r hXr
    rw [hkk, hky] at hRR
    have hL : L = kk.length := hRR.1.1
    have hL2 : L ≤ 20000 := by rw [hL]; exact hRR.1.2.1
    have HKK : Hid (K (f r).ks = kk) := hkk
    have HKY : Hid ((f r).ks = (sy, L, cy)) := hky
    have hxl2 : xss.length = kk.length := by rw [hxl]; simp [gcv, hkk]
    have HLL : Hid (xss.length = L ∧ kk.length = L) := ⟨by omega, hL.symm⟩
    have HKX : Hid (∀ i ∈ kk, X i) := by
      intro i hi
      exact hS.inX r hXr i (by rw [hkk]; exact hi)
    clear hS hs hE hroot hxe hN hO hk e1 e2 hRR hL hkk hxl hxl2 hnk
    go_enter Try.func61, Try.ntmps61
    go_wp2_with (go_at_call 54; refine (head_any X f lk d HA w HC b r hXb hr).mono ?_; rintro e w1 ⟨rfl, lk1, hC1, hS1, hA1, hB1, _⟩; obtain ⟨a0, a1, a2, a3, a4, a5, a6, a7, a8, a9, a10, a11, a12, a13⟩ := (hC1.at' r hXr).cell; rw [hky] at a6; simp only at a6)
    have HSS1 : Hid (CSto w1 X f lk1 d K) := HS.out.short hC1 hA1 hB1
    have HB1 : Hid (But (fun i => X i ∨ i = g) w w1) := hB1.mono (fun _ h => .inl h)
    have HSH : Hid (SameHd lk lk1) := hS1
    have hgX : ¬ X g := fun h => by
      have h1 := HXB.out g h
      have h2 := (owns_block HO.out.2).1
      omega
    have HO1 : Hid (OwnN w1 B g c k zs) := ⟨HO.out.1, owns_but HO.out.2 hB1 hgX⟩
    clear hC1 hA1 hB1 hS1 a0 a1 a2 a3 a4 a5 a6 a7 a8 a9 a10 a11 a12 a13 hky HC
    go_loopw [1, 14] (fun v i wr => ∃ (j g2 c2 : Nat) (lk2 : Nat → Option Nat), j ≤ L ∧ i = .int .i64 (j : Int) ∧ v = .slice (some ⟨g2, 0, none⟩) (k + (xss.take j).flatten.length) c2 ∧ OwnN wr B g2 c2 (k + (xss.take j).flatten.length) (zs ++ (xss.take j).flatten) ∧ CSto wr X f lk2 d K ∧ SameHd lk lk2 ∧ But (fun i => X i ∨ i = g) w wr ∧ (g2 = g ∨ w.heap.size ≤ g2)) (fun _ i _ => L - (intOf i).toNat)
    case atStart => exact ⟨0, g, c, lk1, Nat.zero_le _, rfl, by simp, by simpa using HO1.out, HSS1.out, HSH.out, HB1.out, .inl rfl⟩
    case round =>
      clear HO1 HSS1 HSH HB1
      obtain ⟨j, g2, c2, lk2, hj, rfl, rfl, hO2, hS2, hSH2, hB2, hg2w⟩ := hrel
      obtain ⟨hl1, hl2⟩ := HLL.out
      by_cases hjL : j < L
      · have hRR := hS2.rows r hXr
        rw [HKK.out, HKY.out] at hRR
        have hjk : j < kk.length := by omega
        have hjx : j < xss.length := by omega
        obtain ⟨gk, cur, hsy, _, _, hcur, hall⟩ := hRR.2.resolve_left (fun e9 => by rw [e9] at hjk; simp at hjk)
        simp only at hsy
        subst hsy
        have ek : wr.cell? ⟨gk, j, none⟩ = some (.pointer (some ⟨kk[j], 0, none⟩)) := by
          rw [cell_of_row wr gk j cur 60 (0, 0) hcur]
          exact hall j hjk
        have hXk : X kk[j] := HKX.out _ (List.getElem_mem hjk)
        have hE2 : Ev selfT xss[j] (θ kk[j]) := by
          have h9 := HXE.out j hjx (by simp only [gcv, List.length_map, HKK.out]; exact hjk)
          have e9 : ((gcv K f r).ks.map θ)[j]'(by simp only [gcv, List.length_map, HKK.out]; exact hjk) = θ kk[j] := by simp [gcv, HKK.out]
          rw [e9] at h9
          exact h9
        have htk : (xss.take (j + 1)).flatten = (xss.take j).flatten ++ xss[j] := by
          rw [List.take_succ_eq_append_getElem hjx, List.flatten_append]
          simp
        have hlt : (xss.take (j + 1)).flatten.length ≤ xss.flatten.length := by
          have h9 : xss.flatten = (xss.take (j + 1)).flatten ++ (xss.drop (j + 1)).flatten := by rw [← List.flatten_append, List.take_append_drop]
          rw [h9, List.length_append]
          omega
        have hHK := HK.out
        have hHN := HN.out
        simp only [List.length_append, List.length_cons, List.length_nil] at hHK hHN
        have hsat2 : SatC X (gcv K f) lk2 θ := (hSH2.sat HA.out hS2.acyc θ).2 HSA.out
        have hlsum : (xss.take (j + 1)).flatten.length = (xss.take j).flatten.length + xss[j].length := by rw [htk, List.length_append]
        have hle : xss[j].length ≤ xss.flatten.length := by omega
        have HCALL : Hid (Calls Try.prog 61 #[.pointer (some ⟨kk[j], 0, none⟩), .slice (some ⟨g2, 0, none⟩) (k + (xss.take j).flatten.length) c2] wr fun e w' => WRes X f lk2 d K B g2 (k + (xss.take j).flatten.length) (zs ++ (xss.take j).flatten) xss[j] wr e w') :=
          HIH.out xss[j] lk2 wr kk[j] g2 c2 (k + (xss.take j).flatten.length) (zs ++ (xss.take j).flatten) (by omega) hS2 hsat2 hXk hE2 hO2 (by omega)
        obtain ⟨kj, hkj⟩ : ∃ t, kk[j] = t := ⟨_, rfl⟩
        obtain ⟨P, hP⟩ : ∃ P, k + (xss.take j).flatten.length = P := ⟨_, rfl⟩
        rw [hkj] at ek HCALL
        rw [hP] at HCALL ⊢
        have HFIN : Hid (∀ (g3 c3 : Nat) (w3 : World), OwnN w3 B g3 c3 (P + xss[j].length) (zs ++ (xss.take j).flatten ++ xss[j]) → P + xss[j].length = k + (xss.take (j + 1)).flatten.length ∧ OwnN w3 B g3 c3 (k + (xss.take (j + 1)).flatten.length) (zs ++ (xss.take (j + 1)).flatten)) := by
          intro g3 c3 w3 h9
          have e9 : P + xss[j].length = k + (xss.take (j + 1)).flatten.length := by omega
          refine ⟨e9, ?_⟩
          rw [htk, ← List.append_assoc, ← htk, ← e9]
          exact h9
        have HB2 : Hid (But (fun i => X i ∨ i = g) w wr) := hB2
        have HSH2 : Hid (SameHd lk lk2) := hSH2
        clear hRR hcur hall hO2 hS2 hSH2 hB2 hsat2 hE2 htk hle hlt hHK hHN hkj hP hlsum
        go_wp2_with (go_at_call 61; refine HCALL.out.mono ?_; rintro e w3 ⟨g3, c3, lk3, rfl, hO3, hS3, hSH3, hB3, hg3⟩)
        obtain ⟨e9, hO4⟩ := HFIN.out g3 c3 w3 hO3
        go_roundw
        case rel => exact ⟨j + 1, g3, c3, lk3, by omega, by go_num, by rw [← e9], hO4, hS3, HSH2.out.trans hSH3, but_next HB2.out hB3 hg2w, by have := HB2.out.size; omega⟩
        case measure => simp [intOf]; omega
      · have hjL2 : j = L := by omega
        subst hjL2
        have hxt : xss.take j = xss := List.take_of_length_le (by omega)
        rw [hxt] at hO2 ⊢
        obtain ⟨b0, b1, b2, b3, b4, b5, b6, b7, b8, b9, b10, b11, b12, b13⟩ := (hS2.cells.at' r hXr).cell
        have hrl : r < wr.heap.size := (hS2.cells.at' r hXr).lt
        obtain ⟨nd, hnd⟩ : ∃ nd, (f r).nd = nd := ⟨_, rfl⟩
        rw [hnd] at b1 b2 b3 b4 b5
        have HND : Hid ((gcv K f r).nd = nd) := hnd
        have hOb := owns_block hO2.2
        have hHK := HK.out
        simp only [List.length_append, List.length_cons, List.length_nil] at hHK
        obtain ⟨P, hP⟩ : ∃ P, k + xss.flatten.length = P := ⟨_, rfl⟩
        rw [hP] at hO2 ⊢
        have hPb : P + 1 ≤ 1000000000 := by omega
        have HS2 : Hid (CSto wr X f lk2 d K) := hS2
        have HB2 : Hid (But (fun i => X i ∨ i = g) w wr) := hB2
        have hown1 := hO2.2.alloc (.cells #[.int .i64 nd.kind, .int .i64 nd.num, .string nd.text, .int .i64 nd.kids, .int .i64 nd.place] 53)
        have hcells := nd_new_cells wr nd
        have hbA : Below wr.heap.size wr (wr.alloc (.cells #[.int .i64 nd.kind, .int .i64 nd.num, .string nd.text, .int .i64 nd.kids, .int .i64 nd.place] 53)) := (Below.refl _ _).alloc (Nat.le_refl _) _
        obtain ⟨cur, hcur⟩ := OwnN.tag hO2
        have hcur1 : (wr.alloc (.cells #[.int .i64 nd.kind, .int .i64 nd.num, .string nd.text, .int .i64 nd.kids, .int .i64 nd.place] 53)).heap[g2]? = some (.cells cur 53 (0, 0)) := (hbA.block g2 hOb.2).trans hcur
        have HSH2 : Hid (SameHd lk lk2) := hSH2
        have hlz := hO2.1
        have hg2X : ¬ X g2 := fun h => by
          have h1 := HXB.out g2 h
          omega
        clear hS2 hB2 hHK b0 b6 b7 b8 b9 b10 b11 b12 b13 hnd hO2 hcur hSH2
        go_wp2_with (at_builtin; refine wpList_append2 _ rfl (.tmp 22) (.tmp 27) 27 rfl B 53 i0 _ 5 48 Try.underlying27 hi hz0 hz1 hz2 rfl (by decide) g2 P c2 _ rfl hown1 ⟨_, 0, none⟩ 1 1 (Nd.row nd) rfl rfl hcells (nd_row_one _) ?a3 ?a4 ?a5 ?_)
        case a3 => unfold maxLen; omega
        case a4 => omega
        case a5 => (try simp); omega
        intro g5 c5 w5 hown5 hgrow5 hwh
        have hO5 := OwnN.push hown5 hlz rfl
        have hb5 := but_grownP hgrow5
        have HS5 : Hid (CSto w5 X f lk2 d K) := by
          have h1 := HS2.out.short (HS2.out.cells.but (But.ofBelow (S := fun _ => False) hbA) (fun _ _ h => h)) HS2.out.acyc (But.ofBelow hbA)
          refine h1.aside hb5 hg2X (fun cu h => ?_)
          rw [hcur1] at h
          simp at h
        have HB5 : Hid (But (fun i => X i ∨ i = g) w w5) := but_next HB2.out ((But.ofBelow hbA).trans (hb5.mono (T := fun i => X i ∨ i = g2) (fun i h => .inr h))) hg2w
        have hg5w : g5 = g ∨ w.heap.size ≤ g5 := by
          have h1 := HB2.out.size
          rcases hwh with h | h
          · omega
          · right
            rw [h]
            have h2 := hbA.size
            omega
        have HO5 : Hid (OwnN w5 B g5 c5 (k + (xss.flatten ++ [(gcv K f r).nd]).length) (zs ++ (xss.flatten ++ [(gcv K f r).nd]))) := by
          have e9 : k + (xss.flatten ++ [(gcv K f r).nd]).length = P + 1 := by rw [List.length_append, List.length_singleton]; omega
          rw [Hid, e9, HND.out, ← List.append_assoc]
          exact hO5
        have e9 : P + 1 = k + (xss.flatten ++ [(gcv K f r).nd]).length := by rw [List.length_append, List.length_singleton]; omega
        clear hown5 hgrow5 hwh hown1 hcells hb5 hbA hO5 hcur1 b1 b2 b3 b4 b5
        go_wp2
        go_ret
        exact ⟨g5, c5, lk2, (by rw [← e9]; rfl), HO5.out, HS5.out, HSH2.out, HB5.out, hg5w⟩

end Go.Proofs.Ytljdcaoibnikjaa

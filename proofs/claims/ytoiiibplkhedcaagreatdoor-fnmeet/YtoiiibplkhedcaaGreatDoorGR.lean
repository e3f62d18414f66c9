import Derived.Test.YtoiiibplkhedcaaGreatDoorGP
import Derived.Test.YtoiiibplkhedcaaGreatDoorGD
import Derived.Test.YtoiiibplkhedcaaGreatDoorGE
import Derived.Test.YtoiiibplkhedcaaGreatDoorGJ
namespace Go.Proofs.YtoiiibplkhedcaaGreatDoor
open Go.RowKit Go.Maps
def gcv (K : (Option Addr × Nat × Nat) → List Nat) (f : Nat → CC) : Nat → GC := fun i => ⟨(f i).nd, K (f i).ks, false⟩
def WRes (X : Nat → Prop) (f : Nat → CC) (lk : Nat → Option Nat) (d : Nat → Nat) (K : (Option Addr × Nat × Nat) → List Nat) (B g0 k : Nat) (zs xs : List Nd) (w : World) (e : Ending) (w' : World) : Prop :=
  ∃ g c lk', e = .returned (.slice (some ⟨g, 0, none⟩) (k + xs.length) c) ∧ OwnN w' B g c (k + xs.length) (zs ++ xs) ∧ CSto w' X f lk' d K ∧ SameHd lk lk' ∧ But (fun i => X i ∨ i = g0) w w' ∧ (g = g0 ∨ w.heap.size ≤ g)
theorem sat_root {X : Nat → Prop} {f : Nat → CC} {lk : Nat → Option Nat} {d : Nat → Nat} {K : (Option Addr × Nat × Nat) → List Nat} {w : World} (h : CSto w X f lk d K) {θ : Nat → DT} (hs : SatC X (gcv K f) lk θ) {i : Nat} (hi : X i) : ∃ k, θ i [] = some k := by
  obtain ⟨r, hr⟩ := h.acyc.head _ i (Nat.lt_succ_self _)
  have e := hr.sat hs
  have e2 := hs.2 r (hr.inX h.cells hi) hr.is_root rfl
  rw [e, e2]
  exact ⟨_, rfl⟩
theorem OwnN.tag {w : World} {B g c k : Nat} {zs : List Nd} (h : OwnN w B g c k zs) : ∃ cur, w.heap[g]? = some (.cells cur 43 (0, 0)) := (owns_tag h.2).2
theorem but_next {X : Nat → Prop} {g g2 : Nat} {w wr w3 : World} (h : But (fun i => X i ∨ i = g) w wr) (h' : But (fun i => X i ∨ i = g2) wr w3) (hg : g2 = g ∨ w.heap.size ≤ g2) : But (fun i => X i ∨ i = g) w w3 := by
  refine ⟨h'.os.trans h.os, h'.tape.trans h.tape, h'.output.trans h.output, Nat.le_trans h.size h'.size, fun i hi hn => ?_⟩
  refine (h'.block i (Nat.lt_of_lt_of_le hi h.size) ?_).trans (h.block i hi hn)
  rintro (h9 | h9)
  · exact hn (.inl h9)
  · rcases hg with h8 | h8
    · exact hn (.inr (h9.trans h8))
    · omega
set_option maxRecDepth 20000 in
set_option maxHeartbeats 8000000 in
theorem write_any (X : Nat → Prop) (f : Nat → CC) (d : Nat → Nat) (K : (Option Addr × Nat × Nat) → List Nat) (θ : Nat → DT) (B : Nat) (HXB : Hid (∀ i, X i → i < B)) : ∀ (N : Nat) (xs : List Nd) (lk : Nat → Option Nat) (w : World) (b g c k : Nat) (zs : List Nd), xs.length ≤ N → CSto w X f lk d K → SatC X (gcv K f) lk θ → X b → Ev selfT xs (θ b) → OwnN w B g c k zs → k + xs.length ≤ 1000000000 →
    Calls Tryz.prog 67 #[.pointer (some ⟨b, 0, none⟩), .slice (some ⟨g, 0, none⟩) k c] w fun e w' => WRes X f lk d K B g k zs xs w e w' := by
  intro N
  induction N with
  | zero =>
    intro xs lk w b g c k zs hN _ _ _ hE
    have := List.length_pos_iff.2 hE.one.ne
    omega
  | succ N ih =>
    intro xs lk w b g c k zs hN hS hs hXb hE hO hk
    obtain ⟨i0, hi, hz0, hz1, hz2⟩ := info_parts Tryz.infoN
    obtain ⟨r, hr⟩ := hS.acyc.head _ b (Nat.lt_succ_self _)
    have hXr : X r := hr.inX hS.cells hXb
    have e1 := hr.sat hs
    have e2 := hs.2 r hXr hr.is_root rfl
    rw [e1, e2] at hE
    have hroot : ∀ dd ∈ (gcv K f r).ks.map θ, ∃ kk, dd [] = some kk := by
      intro dd hd
      obtain ⟨i, hi, rfl⟩ := List.mem_map.1 hd
      exact sat_root hS hs (hS.inX r hXr i hi)
    obtain ⟨xss, hxl, hxe, rfl, hnk⟩ := hE.kids hroot
    have HIH : Hid (∀ (xs : List Nd) (lk : Nat → Option Nat) (w : World) (b g c k : Nat) (zs : List Nd), xs.length ≤ N → CSto w X f lk d K → SatC X (gcv K f) lk θ → X b → Ev selfT xs (θ b) → OwnN w B g c k zs → k + xs.length ≤ 1000000000 →
      Calls Tryz.prog 67 #[.pointer (some ⟨b, 0, none⟩), .slice (some ⟨g, 0, none⟩) k c] w fun e w' => WRes X f lk d K B g k zs xs w e w') := ih
    clear ih
    have HA : Hid (Acyc lk d) := hS.acyc
    have HS : Hid (CSto w X f lk d K) := hS
    have HSA : Hid (SatC X (gcv K f) lk θ) := hs
    have HC := hS.cells
    have HXE : Hid (∀ i (h1 : i < xss.length) (h2 : i < ((gcv K f r).ks.map θ).length), Ev selfT xss[i] ((gcv K f r).ks.map θ)[i]) := hxe
    have HN : Hid ((xss.flatten ++ [(gcv K f r).nd]).length ≤ N + 1) := hN
    have HO : Hid (OwnN w B g c k zs) := hO
    have HK : Hid (k + (xss.flatten ++ [(gcv K f r).nd]).length ≤ 1000000000) := hk
    obtain ⟨sy, L, cy, hky⟩ : ∃ s l c, (f r).ks = (s, l, c) := ⟨_, _, _, rfl⟩
    obtain ⟨kk, hkk⟩ : ∃ l, K (f r).ks = l := ⟨_, rfl⟩
    have hRR := hS.rows r hXr
    rw [hkk, hky] at hRR
    have hL : L = kk.length := hRR.1.1
    have hL2 : L ≤ 20000 := by rw [hL]; exact hRR.1.2.1
    have HKK : Hid (K (f r).ks = kk) := hkk
    have HKY : Hid ((f r).ks = (sy, L, cy)) := hky
    have hxl2 : xss.length = kk.length := by rw [hxl]; simp [gcv, hkk]
    have HLL : Hid (xss.length = L ∧ kk.length = L) := ⟨by omega, hL.symm⟩
    have HKX : Hid (∀ i ∈ kk, X i) := by
      intro i hi
      exact hS.inX r hXr i (by rw [hkk]; exact hi)
    clear hS hs hE hroot hxe hN hO hk e1 e2 hRR hL hkk hxl hxl2 hnk
    go_enter Tryz.func67, Tryz.ntmps67
    go_wp2_with (go_at_call 60; refine (head_any X f lk d HA w HC b r hXb hr).mono ?_; rintro e w1 ⟨rfl, lk1, hC1, hS1, hA1, hB1, _⟩; obtain ⟨a0, a1, a2, a3, a4, a5, a6, a7, a8, a9, a10, a11, a12, a13⟩ := (hC1.at' r hXr).cell; rw [hky] at a6; simp only at a6)
    have HSS1 : Hid (CSto w1 X f lk1 d K) := HS.out.short hC1 hA1 hB1
    have HB1 : Hid (But (fun i => X i ∨ i = g) w w1) := hB1.mono (fun _ h => .inl h)
    have HSH : Hid (SameHd lk lk1) := hS1
    have hgX : ¬ X g := fun h => by
      have h1 := HXB.out g h
      have h2 := (owns_block HO.out.2).1
      omega
    have HO1 : Hid (OwnN w1 B g c k zs) := ⟨HO.out.1, owns_but HO.out.2 hB1 hgX⟩
    clear hC1 hA1 hB1 hS1 a0 a1 a2 a3 a4 a5 a6 a7 a8 a9 a10 a11 a12 a13 hky HC
    go_loopw [1, 14] (fun v i wr => ∃ (j g2 c2 : Nat) (lk2 : Nat → Option Nat), j ≤ L ∧ i = .int .i64 (j : Int) ∧ v = .slice (some ⟨g2, 0, none⟩) (k + (xss.take j).flatten.length) c2 ∧ OwnN wr B g2 c2 (k + (xss.take j).flatten.length) (zs ++ (xss.take j).flatten) ∧ CSto wr X f lk2 d K ∧ SameHd lk lk2 ∧ But (fun i => X i ∨ i = g) w wr ∧ (g2 = g ∨ w.heap.size ≤ g2)) (fun _ i _ => L - (intOf i).toNat)
    case atStart => exact ⟨0, g, c, lk1, Nat.zero_le _, rfl, by simp, by simpa using HO1.out, HSS1.out, HSH.out, HB1.out, .inl rfl⟩
    case round =>
      clear HO1 HSS1 HSH HB1
      obtain ⟨j, g2, c2, lk2, hj, rfl, rfl, hO2, hS2, hSH2, hB2, hg2w⟩ := hrel
      obtain ⟨hl1, hl2⟩ := HLL.out
      by_cases hjL : j < L
      · have hRR := hS2.rows r hXr
        rw [HKK.out, HKY.out] at hRR
        have hjk : j < kk.length := by omega
        have hjx : j < xss.length := by omega
        obtain ⟨gk, cur, hsy, _, _, hcur, hall⟩ := hRR.2.resolve_left (fun e9 => by rw [e9] at hjk; simp at hjk)
        simp only at hsy
        subst hsy
        have ek : wr.cell? ⟨gk, j, none⟩ = some (.pointer (some ⟨kk[j], 0, none⟩)) := by
          rw [cell_of_row wr gk j cur 64 (0, 0) hcur]
          exact hall j hjk
        have hXk : X kk[j] := HKX.out _ (List.getElem_mem hjk)
        have hE2 : Ev selfT xss[j] (θ kk[j]) := by
          have h9 := HXE.out j hjx (by simp only [gcv, List.length_map, HKK.out]; exact hjk)
          have e9 : ((gcv K f r).ks.map θ)[j]'(by simp only [gcv, List.length_map, HKK.out]; exact hjk) = θ kk[j] := by simp [gcv, HKK.out]
          rw [e9] at h9
          exact h9
        have htk : (xss.take (j + 1)).flatten = (xss.take j).flatten ++ xss[j] := by
          rw [List.take_succ_eq_append_getElem hjx, List.flatten_append]
          simp
        have hlt : (xss.take (j + 1)).flatten.length ≤ xss.flatten.length := by
          have h9 : xss.flatten = (xss.take (j + 1)).flatten ++ (xss.drop (j + 1)).flatten := by rw [← List.flatten_append, List.take_append_drop]
          rw [h9, List.length_append]
          omega
        have hHK := HK.out
        have hHN := HN.out
        simp only [List.length_append, List.length_cons, List.length_nil] at hHK hHN
        have hsat2 : SatC X (gcv K f) lk2 θ := (hSH2.sat HA.out hS2.acyc θ).2 HSA.out
        have hlsum : (xss.take (j + 1)).flatten.length = (xss.take j).flatten.length + xss[j].length := by rw [htk, List.length_append]
        have hle : xss[j].length ≤ xss.flatten.length := by omega
        have HCALL : Hid (Calls Tryz.prog 67 #[.pointer (some ⟨kk[j], 0, none⟩), .slice (some ⟨g2, 0, none⟩) (k + (xss.take j).flatten.length) c2] wr fun e w' => WRes X f lk2 d K B g2 (k + (xss.take j).flatten.length) (zs ++ (xss.take j).flatten) xss[j] wr e w') :=
          HIH.out xss[j] lk2 wr kk[j] g2 c2 (k + (xss.take j).flatten.length) (zs ++ (xss.take j).flatten) (by omega) hS2 hsat2 hXk hE2 hO2 (by omega)
        obtain ⟨kj, hkj⟩ : ∃ t, kk[j] = t := ⟨_, rfl⟩
        obtain ⟨P, hP⟩ : ∃ P, k + (xss.take j).flatten.length = P := ⟨_, rfl⟩
        rw [hkj] at ek HCALL
        rw [hP] at HCALL ⊢
        have HFIN : Hid (∀ (g3 c3 : Nat) (w3 : World), OwnN w3 B g3 c3 (P + xss[j].length) (zs ++ (xss.take j).flatten ++ xss[j]) → P + xss[j].length = k + (xss.take (j + 1)).flatten.length ∧ OwnN w3 B g3 c3 (k + (xss.take (j + 1)).flatten.length) (zs ++ (xss.take (j + 1)).flatten)) := by
          intro g3 c3 w3 h9
          have e9 : P + xss[j].length = k + (xss.take (j + 1)).flatten.length := by omega
          refine ⟨e9, ?_⟩
          rw [htk, ← List.append_assoc, ← htk, ← e9]
          exact h9
        have HB2 : Hid (But (fun i => X i ∨ i = g) w wr) := hB2
        have HSH2 : Hid (SameHd lk lk2) := hSH2
        clear hRR hcur hall hO2 hS2 hSH2 hB2 hsat2 hE2 htk hle hlt hHK hHN hkj hP hlsum
        go_wp2_with (go_at_call 67; refine HCALL.out.mono ?_; rintro e w3 ⟨g3, c3, lk3, rfl, hO3, hS3, hSH3, hB3, hg3⟩)
        obtain ⟨e9, hO4⟩ := HFIN.out g3 c3 w3 hO3
        go_roundw
        case rel => exact ⟨j + 1, g3, c3, lk3, by omega, by go_num, by rw [← e9], hO4, hS3, HSH2.out.trans hSH3, but_next HB2.out hB3 hg2w, by have := HB2.out.size; omega⟩
        case measure => simp [intOf]; omega
      · have hjL2 : j = L := by omega
        subst hjL2
        have hxt : xss.take j = xss := List.take_of_length_le (by omega)
        rw [hxt] at hO2 ⊢
        obtain ⟨b0, b1, b2, b3, b4, b5, b6, b7, b8, b9, b10, b11, b12, b13⟩ := (hS2.cells.at' r hXr).cell
        have hrl : r < wr.heap.size := (hS2.cells.at' r hXr).lt
        obtain ⟨nd, hnd⟩ : ∃ nd, (f r).nd = nd := ⟨_, rfl⟩
        rw [hnd] at b1 b2 b3 b4 b5
        have HND : Hid ((gcv K f r).nd = nd) := hnd
        have hOb := owns_block hO2.2
        have hHK := HK.out
        simp only [List.length_append, List.length_cons, List.length_nil] at hHK
        obtain ⟨P, hP⟩ : ∃ P, k + xss.flatten.length = P := ⟨_, rfl⟩
        rw [hP] at hO2 ⊢
        have hPb : P + 1 ≤ 1000000000 := by omega
        have HS2 : Hid (CSto wr X f lk2 d K) := hS2
        have HB2 : Hid (But (fun i => X i ∨ i = g) w wr) := hB2
        have hown1 := hO2.2.alloc (.cells #[.int .i64 nd.kind, .int .i64 nd.num, .string nd.text, .int .i64 nd.kids, .int .i64 nd.place] 43)
        have hcells := nd_new_cells wr nd
        have hbA : Below wr.heap.size wr (wr.alloc (.cells #[.int .i64 nd.kind, .int .i64 nd.num, .string nd.text, .int .i64 nd.kids, .int .i64 nd.place] 43)) := (Below.refl _ _).alloc (Nat.le_refl _) _
        obtain ⟨cur, hcur⟩ := OwnN.tag hO2
        have hcur1 : (wr.alloc (.cells #[.int .i64 nd.kind, .int .i64 nd.num, .string nd.text, .int .i64 nd.kids, .int .i64 nd.place] 43)).heap[g2]? = some (.cells cur 43 (0, 0)) := (hbA.block g2 hOb.2).trans hcur
        have HSH2 : Hid (SameHd lk lk2) := hSH2
        have hlz := hO2.1
        have hg2X : ¬ X g2 := fun h => by
          have h1 := HXB.out g2 h
          omega
        clear hS2 hB2 hHK b0 b6 b7 b8 b9 b10 b11 b12 b13 hnd hO2 hcur hSH2
        go_wp2_with (at_builtin; refine wpList_append2 _ rfl (.tmp 22) (.tmp 27) 23 rfl B 43 i0 _ 5 48 Tryz.underlying23 hi hz0 hz1 hz2 rfl (by decide) g2 P c2 _ rfl hown1 ⟨_, 0, none⟩ 1 1 (Nd.row nd) rfl rfl hcells (nd_row_one _) ?a3 ?a4 ?a5 ?_)
        case a3 => unfold maxLen; omega
        case a4 => omega
        case a5 => (try simp); omega
        intro g5 c5 w5 hown5 hgrow5 hwh
        have hO5 := OwnN.push hown5 hlz rfl
        have hb5 := but_grownP hgrow5
        have HS5 : Hid (CSto w5 X f lk2 d K) := by
          have h1 := HS2.out.short (HS2.out.cells.but (But.ofBelow (S := fun _ => False) hbA) (fun _ _ h => h)) HS2.out.acyc (But.ofBelow hbA)
          refine h1.aside hb5 hg2X (fun cu h => ?_)
          rw [hcur1] at h
          simp at h
        have HB5 : Hid (But (fun i => X i ∨ i = g) w w5) := but_next HB2.out ((But.ofBelow hbA).trans (hb5.mono (T := fun i => X i ∨ i = g2) (fun i h => .inr h))) hg2w
        have hg5w : g5 = g ∨ w.heap.size ≤ g5 := by
          have h1 := HB2.out.size
          rcases hwh with h | h
          · omega
          · right
            rw [h]
            have h2 := hbA.size
            omega
        have HO5 : Hid (OwnN w5 B g5 c5 (k + (xss.flatten ++ [(gcv K f r).nd]).length) (zs ++ (xss.flatten ++ [(gcv K f r).nd]))) := by
          have e9 : k + (xss.flatten ++ [(gcv K f r).nd]).length = P + 1 := by rw [List.length_append, List.length_singleton]; omega
          rw [Hid, e9, HND.out, ← List.append_assoc]
          exact hO5
        have e9 : P + 1 = k + (xss.flatten ++ [(gcv K f r).nd]).length := by rw [List.length_append, List.length_singleton]; omega
        clear hown5 hgrow5 hwh hown1 hcells hb5 hbA hO5 hcur1 b1 b2 b3 b4 b5
        go_wp2
        go_ret
        exact ⟨g5, c5, lk2, (by rw [← e9]; rfl), HO5.out, HS5.out, HSH2.out, HB5.out, hg5w⟩
end Go.Proofs.YtoiiibplkhedcaaGreatDoor

namespace Go.Proofs.YtoiiibplkhedcaaGreatDoor
open Go.RowKit Go.Maps
def metaNd (x : Int) : Nd := ⟨61, x, ByteArray.empty, 0, 0⟩
theorem plain_metaQ {n : Nd} (h : n.plainb = true) (h61 : n.kind = 61) : n = metaNd n.num := by
  obtain ⟨kd, nm, tx, ks, pl⟩ := n
  simp only at h61
  subst h61
  unfold Nd.plainb at h
  simp only [Bool.and_eq_true, Bool.or_eq_true, beq_iff_eq, decide_eq_true_eq] at h
  obtain ⟨h1, h2⟩ := h
  subst h1
  have h3 : ks = 0 ∧ tx.size = 0 := by
    rcases h2 with (h2 | h2) | h2
    · exact ⟨h2.1.1.2, h2.2⟩
    · omega
    · omega
  obtain ⟨rfl, h4⟩ := h3
  have h5 : tx = ByteArray.empty := by
    obtain ⟨dt⟩ := tx
    have : dt = #[] := Array.eq_empty_of_size_eq_zero h4
    subst this
    rfl
  subst h5
  rfl
theorem sat_weak {X : Nat → Prop} {f : Nat → CC} {lk : Nat → Option Nat} {K : (Option Addr × Nat × Nat) → List Nat} {θ : Nat → DT} (h : SatC X (gcv K f) lk θ) : SatC X (gc K f) lk θ :=
  ⟨h.1, fun i hi hl _ => h.2 i hi hl rfl⟩
section
variable {w0 w1 w2 : World} {sb mb : Nat} {t0 : Int} {ok1 ok2 : (Int → DT) → Prop} {d : Nat → Nat} {f0 : Nat → CC} {K0 : (Option Addr × Nat × Nat) → List Nat} {L : Nat} {g t : List Nd} {b1 n1 b2 n2 L2 : Nat} {X1 X2 : Nat → Prop} {f1 f2 f' : Nat → CC} {K1 K2 : (Option Addr × Nat × Nat) → List Nat} {U1 U2 : Int → Int → Option Nat} {D1 D2 : DataW Value} {rt1 rt2 : List Nat} {lk' : Nat → Option Nat}
theorem inst_self (T1 : Taken w0 w1 sb mb 0 t0 1 ok1 (fun _ => False) f0 (fun _ => none) d K0 (fun _ _ => none) L g b1 n1 X1 f1 K1 U1 D1 rt1) (T2 : Taken w1 w2 sb mb n1 t0 0 ok2 X1 f1 (fun _ => none) d K1 U1 L2 t b2 n2 X2 f2 K2 U2 D2 rt2) {θ : Nat → DT} (hs : SatC X2 (gc K2 f2) (fun _ => none) θ) : Ev selfT t (θ b2) := by
  refine (T2.mean θ hs).asSelf (fun n hn h61 => ?_)
  have hu : U1 0 n.num = none := by rw [T1.grow.other 0 n.num (by omega)]
  obtain ⟨b, h1, h2, h3, h4⟩ := T2.leaf n hn h61 hu
  unfold sg
  rw [h1]
  have h9 := hs.2 b h4 h3 (by rw [h2]; rfl)
  rw [h2] at h9
  exact h9
theorem inst_good (T1 : Taken w0 w1 sb mb 0 t0 1 ok1 (fun _ => False) f0 (fun _ => none) d K0 (fun _ _ => none) L g b1 n1 X1 f1 K1 U1 D1 rt1) (T2 : Taken w1 w2 sb mb n1 t0 0 ok2 X1 f1 (fun _ => none) d K1 U1 L2 t b2 n2 X2 f2 K2 U2 D2 rt2)
    (hE : ∀ θ, SatC X2 (gc K2 f') lk' θ ↔ SatC X2 (gc K2 f2) (fun _ => none) θ ∧ θ b1 = θ b2) {θ : Nat → DT} (hs : SatC X2 (gcv K2 f') lk' θ) :
    ∃ ρ : Int → List Nd, (∀ x b, U2 1 x = some b → Ev selfT (ρ x) (θ b)) ∧ fill ρ g = t ∧ ∀ x, (∃ b, U2 1 x = some b) ↔ x ∈ metas g := by
  obtain ⟨s2, e12⟩ := (hE θ).1 (sat_weak hs)
  have m2 := inst_self T1 T2 s2
  have s1 := T2.grow.back s2
  have m1 := T1.mean θ s1
  rw [e12] at m1
  obtain ⟨c1, c2⟩ := m1.back m2
  have hU : ∀ x, U2 1 x = U1 1 x := fun x => T2.grow.other 1 x (by omega)
  have hk : ∀ x, ∃ xs, ∀ b, U2 1 x = some b → Ev selfT xs (θ b) := by
    intro x
    cases e : U2 1 x with
    | none => exact ⟨[], fun b h => by cases h⟩
    | some b =>
      have e1 := e
      rw [hU] at e1
      rcases T1.src x b e1 with h9 | ⟨y, hy, h61, rfl⟩
      · cases h9
      · obtain ⟨xs, hxs⟩ := c1 y hy h61
        unfold sg at hxs
        rw [e1] at hxs
        exact ⟨xs, fun b' h => by cases h; exact hxs⟩
  obtain ⟨ρ, hρ⟩ := Classical.axiomOfChoice hk
  refine ⟨ρ, hρ, c2 ρ (fun n hn h61 => ?_), fun x => ⟨?_, fun hx => ?_⟩⟩
  · obtain ⟨b, hb⟩ := T1.known n hn h61
    unfold sg
    rw [hb]
    exact hρ n.num b (by rw [hU]; exact hb)
  · rintro ⟨b, hb⟩
    rw [hU] at hb
    rcases T1.src x b hb with h9 | ⟨y, hy, h61, rfl⟩
    · cases h9
    · exact List.mem_map.2 ⟨y, List.mem_filter.2 ⟨hy, by simpa using h61⟩, rfl⟩
  · obtain ⟨y, hy, rfl⟩ := List.mem_map.1 hx
    obtain ⟨hy1, hy2⟩ := List.mem_filter.1 hy
    obtain ⟨b, hb⟩ := T1.known y hy1 (by simpa using hy2)
    exact ⟨b, by rw [hU]; exact hb⟩
theorem inst_bad (T1 : Taken w0 w1 sb mb 0 t0 1 ok1 (fun _ => False) f0 (fun _ => none) d K0 (fun _ _ => none) L g b1 n1 X1 f1 K1 U1 D1 rt1) (T2 : Taken w1 w2 sb mb n1 t0 0 ok2 X1 f1 (fun _ => none) d K1 U1 L2 t b2 n2 X2 f2 K2 U2 D2 rt2) (hok1 : ∀ ρ, ok1 ρ) (hok2 : ∃ ρ, ok2 ρ)
    (hno : ∀ θ, SatC X2 (gc K2 f2) (fun _ => none) θ → θ b1 ≠ θ b2) : InstNo g t := by
  intro ρ hρ hfill
  have hk : ∀ x, ∃ dd : DT, ∀ e, Ev selfT (ρ x) e → Ev selfT (ρ x) dd := by
    intro x
    by_cases h : ∃ e, Ev selfT (ρ x) e
    · obtain ⟨e, he⟩ := h
      exact ⟨e, fun _ _ => he⟩
    · exact ⟨fun _ => none, fun e he => absurd ⟨e, he⟩ h⟩
  obtain ⟨ρ1, hρ1⟩ := Classical.axiomOfChoice hk
  obtain ⟨ρ2, hρ2⟩ := hok2
  obtain ⟨θ1, s1, _, v1⟩ := T1.grow.on (fun _ _ => none) ⟨(fun i j e => by cases e), fun i (hi : False) => hi.elim⟩ ρ1 (hok1 ρ1)
  obtain ⟨θ2, s2, a2, _⟩ := T2.grow.on θ1 s1 ρ2 hρ2
  have m2 := inst_self T1 T2 s2
  have m1 := T1.mean θ1 s1
  have hD : Ev selfT (fill ρ g) (θ2 b2) := by rw [hfill]; exact m2
  have hcut := m1.cut hρ hD
  have m3 := m1.forth (ρ := ρ) (fun n hn h61 => by
    obtain ⟨b, hb⟩ := T1.known n hn h61
    obtain ⟨e, he⟩ := hcut n hn h61
    unfold sg
    rw [hb]
    simp only
    rw [v1 n.num b rfl hb]
    exact hρ1 n.num e he)
  rw [hfill] at m3
  have e9 := m3.fun m2
  exact hno θ2 s2 (by rw [a2 b1 T1.inX]; exact e9)
end
end Go.Proofs.YtoiiibplkhedcaaGreatDoor

namespace Go.Proofs.YtoiiibplkhedcaaGreatDoor
open Go.RowKit Go.Maps
def CoRes (X : Nat → Prop) (f : Nat → CC) (lk : Nat → Option Nat) (d : Nat → Nat) (K : (Option Addr × Nat × Nat) → List Nat) (s m : Nat) (w : World) (e : Ending) (w' : World) : Prop :=
  ∃ r : Nat, e = .returned (.int .i64 (r : Int)) ∧ (s ≤ m → r = s) ∧ (m < s → m < r) ∧ 1 ≤ r ∧ r ≤ m + 1 ∧ ∃ lk', CSto w' X f lk' d K ∧ SameHd lk lk' ∧ But X w w'
set_option maxRecDepth 20000 in
set_option maxHeartbeats 4000000 in
theorem count_any (X : Nat → Prop) (f : Nat → CC) (d : Nat → Nat) (K : (Option Addr × Nat × Nat) → List Nat) (hfl : Nat → Nat) (Lf : Nat → Prop) (rk sz : Nat → Nat) (HLF : Hid (LeftOk (fun h => K (f h).ks) hfl Lf rk)) (HSZ : Hid (∀ h, Lf h → sz h = 1 + ((K (f h).ks).map (fun k => sz (hfl k))).sum)) :
    ∀ (N : Nat) (lk : Nat → Option Nat) (w : World) (b m : Nat), rk (hfl b) = N → CSto w X f lk d K → (∀ k, Hd lk k (hfl k)) → X b → Lf (hfl b) → m ≤ 100000 →
      Calls Tryz.prog 79 #[.pointer (some ⟨b, 0, none⟩), .int .i64 (m : Int)] w fun e w' => CoRes X f lk d K (sz (hfl b)) m w e w' := by
  intro N
  induction N using Nat.strongRecOn with
  | ind N ih =>
    intro lk w b m hN hS hH hXb hLb hm
    have HIH : Hid _ := ih
    clear ih
    obtain ⟨r, hr⟩ : ∃ r, hfl b = r := ⟨_, rfl⟩
    have hrd : Hd lk b r := hr ▸ hH b
    have hXr : X r := hrd.inX hS.cells hXb
    rw [hr] at hN hLb ⊢
    have HA : Hid (Acyc lk d) := hS.acyc
    have HS : Hid (CSto w X f lk d K) := hS
    have HC := hS.cells
    obtain ⟨sy, L, cy, hky⟩ : ∃ s l c, (f r).ks = (s, l, c) := ⟨_, _, _, rfl⟩
    obtain ⟨kk, hkk⟩ : ∃ l, K (f r).ks = l := ⟨_, rfl⟩
    have hRR := hS.rows r hXr
    rw [hkk, hky] at hRR
    have hL : L = kk.length := hRR.1.1
    have hL2 : L ≤ 20000 := by rw [hL]; exact hRR.1.2.1
    have HKK : Hid (K (f r).ks = kk) := hkk
    have HKY : Hid ((f r).ks = (sy, L, cy)) := hky
    have HKX : Hid (∀ i ∈ kk, X i) := fun i hi => hS.inX r hXr i (by rw [hkk]; exact hi)
    have HSR : Hid (sz r = 1 + (kk.map (fun k => sz (hfl k))).sum) := by
      have h9 := HSZ.out r hLb
      rw [hkk] at h9
      exact h9
    have HDN : Hid (∀ k ∈ kk, Lf (hfl k) ∧ rk (hfl k) < N) := by
      intro k hk
      have h9 := HLF.out.down r hLb k (by simp only [hkk]; exact hk)
      rw [hN] at h9
      exact h9
    have HHD : Hid (∀ k, Hd lk k (hfl k)) := hH
    clear hS hH hN hRR hkk
    go_enter Tryz.func79, Tryz.ntmps79
    go_wp2_with (go_at_call 60; refine (head_any X f lk d HA w HC b r hXb hrd).mono ?_; rintro e w1 ⟨rfl, lk1, hC1, hS1, hA1, hB1, _⟩; obtain ⟨a0, a1, a2, a3, a4, a5, a6, a7, a8, a9, a10, a11, a12, a13⟩ := (hC1.at' r hXr).cell; rw [hky] at a6; simp only at a6)
    have HSS1 : Hid (CSto w1 X f lk1 d K) := HS.out.short hC1 hA1 hB1
    have HB1 : Hid (But X w w1) := hB1
    have HSH : Hid (SameHd lk lk1) := hS1
    have HLK : Hid (kk.length = L) := hL.symm
    clear hC1 hA1 hB1 hS1 a0 a1 a2 a3 a4 a5 a6 a7 a8 a9 a10 a11 a12 a13 hky HC hL
    obtain ⟨part, hpart⟩ : ∃ part : Nat → Nat, part = fun j => 1 + ((kk.take j).map (fun k => sz (hfl k))).sum := ⟨_, rfl⟩
    have HPL : Hid (part L = sz r) := by
      rw [Hid, hpart, HSR.out]
      simp only
      rw [List.take_of_length_le (by have := HLK.out; omega)]
    have HPM : Hid (∀ j, part j ≤ sz r) := by
      intro j
      rw [hpart, HSR.out]
      have e9 : kk.map (fun k => sz (hfl k)) = (kk.take j).map (fun k => sz (hfl k)) ++ (kk.drop j).map (fun k => sz (hfl k)) := by rw [← List.map_append, List.take_append_drop]
      rw [e9, List.sum_append]
      simp only
      omega
    have HPS : Hid (∀ j (h : j < kk.length), part (j + 1) = part j + sz (hfl kk[j])) := by
      intro j h
      rw [hpart]
      simp only
      rw [List.take_succ_eq_append_getElem h, List.map_append, List.sum_append]
      simp
      omega
    have HP0 : Hid (part 0 = 1) := by rw [Hid, hpart]; simp
    clear hpart HSR
    go_loopw [5, 14] (fun vs vi wr => ∃ (j s : Nat) (lk2 : Nat → Option Nat), j ≤ L ∧ vi = .int .i64 (j : Int) ∧ vs = .int .i64 (s : Int) ∧ 1 ≤ s ∧ s ≤ m + 1 ∧ (part j ≤ m → s = part j) ∧ (m < part j → m < s) ∧ CSto wr X f lk2 d K ∧ SameHd lk lk2 ∧ But X w wr) (fun _ vi _ => L - (intOf vi).toNat)
    case atStart => exact ⟨0, 1, lk1, Nat.zero_le _, rfl, rfl, Nat.le_refl _, by omega, fun _ => HP0.out.symm, fun h => by rw [HP0.out] at h; exact h, HSS1.out, HSH.out, HB1.out⟩
    case round =>
      clear HSS1 HSH HB1
      obtain ⟨j, s, lk2, hj, rfl, rfl, hs1, hs2, hp1, hp2, hS2, hSH2, hB2⟩ := hrel
      have HQ1 : Hid (part j ≤ m → s = part j) := hp1
      have HQ2 : Hid (m < part j → m < s) := hp2
      clear hp1 hp2
      by_cases hjL : j < L
      · have hRR := hS2.rows r hXr
        rw [HKK.out, HKY.out] at hRR
        have hjk : j < kk.length := by have := HLK.out; omega
        obtain ⟨gk, cur, hsy, _, _, hcur, hall⟩ := hRR.2.resolve_left (fun e9 => by rw [e9] at hjk; simp at hjk)
        simp only at hsy
        subst hsy
        have ek : wr.cell? ⟨gk, j, none⟩ = some (.pointer (some ⟨kk[j], 0, none⟩)) := by
          rw [cell_of_row wr gk j cur 64 (0, 0) hcur]
          exact hall j hjk
        obtain ⟨kj, hkj⟩ : ∃ t, kk[j] = t := ⟨_, rfl⟩
        have hXk : X kj := hkj ▸ HKX.out _ (List.getElem_mem hjk)
        have hdn : Lf (hfl kj) ∧ rk (hfl kj) < N := hkj ▸ HDN.out _ (List.getElem_mem hjk)
        have HPJ : Hid (part (j + 1) = part j + sz (hfl kj)) := by have h9 := HPS.out j hjk; rw [hkj] at h9; exact h9
        rw [hkj] at ek
        by_cases hgt : s > m
        · have tg : decide ((s : Int) > (m : Int)) = true := decide_eq_true (by omega)
          have HRES : Hid ((sz r ≤ m → s = sz r) ∧ (m < sz r → m < s)) := ⟨fun h => by have := HPM.out j; have := HQ1.out (by omega); omega, fun _ => hgt⟩
          clear hRR hcur hall
          go_wp2
          go_ret
          exact ⟨s, rfl, HRES.out.1, HRES.out.2, hs1, hs2, lk2, hS2, hSH2, hB2⟩
        · have tg : decide ((s : Int) > (m : Int)) = false := decide_eq_false (by omega)
          have HST : Hid (s = part j) := by
            show s = part j
            by_cases h9 : part j ≤ m
            · exact HQ1.out h9
            · have := HQ2.out (by omega); omega
          have HCALL := HIH.out (rk (hfl kj)) hdn.2 lk2 wr kj (m - s) rfl hS2 (fun k => (hSH2 k _).1 (HHD.out k)) hXk hdn.1 (by omega)
          have e9 : ((m - s : Nat) : Int) = (m : Int) - (s : Int) := by omega
          rw [e9] at HCALL
          have HSH2 : Hid (SameHd lk lk2) := hSH2
          have HB2 : Hid (But X w wr) := hB2
          clear hRR hcur hall hS2 hSH2 hB2 e9
          go_wp2_with fail
          refine HCALL.mono ?_
          rintro e w3 ⟨r', rfl, q1, q2, q3, q4, lk3, hS3, hSH3, hB3⟩
          have Q1 : Hid ((sz (hfl kj) ≤ m - s → r' = sz (hfl kj)) ∧ (m - s < sz (hfl kj) → m - s < r')) := ⟨q1, q2⟩
          clear HCALL q1 q2
          go_wp2
          go_roundw
          case rel => exact ⟨j + 1, s + r', lk3, by omega, by go_num, by go_num, by omega, by omega, fun h => by have h8 := HST.out; rw [HPJ.out] at h ⊢; have := Q1.out.1 (by omega); omega, fun h => by have h8 := HST.out; rw [HPJ.out] at h; have := Q1.out.2 (by omega); omega, hS3, HSH2.out.trans hSH3, HB2.out.trans hB3⟩
          case measure => simp [intOf]; omega
      · have hje : j = L := by omega
        subst hje
        have HRES : Hid ((sz r ≤ m → s = sz r) ∧ (m < sz r → m < s)) := by
          have h9 := HPL.out
          exact ⟨fun h => by rw [← h9] at h ⊢; exact HQ1.out h, fun h => by rw [← h9] at h; exact HQ2.out h⟩
        have hkl : kk.length = j := HLK.out
        go_wp2
        go_ret
        exact ⟨s, rfl, HRES.out.1, HRES.out.2, hs1, hs2, lk2, hS2, hSH2, hB2⟩
end Go.Proofs.YtoiiibplkhedcaaGreatDoor

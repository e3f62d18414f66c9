import Derived.Test.YthioecjcnajmgaaGreatDoorWBB
import Derived.Test.YthioecjcnajmgaaGreatDoorWAG
import Derived.Test.YthioecjcnajmgaaGreatDoorWAR
namespace Go.Proofs.YthioecjcnajmgaaGreatDoor

open Go.RowKit Go.Maps

/-- What a cell says, read to the end: also an unknown is its node over its kids. -/
def gcv (K : (Option Addr × Nat × Nat) → List Nat) (f : Nat → CC) : Nat → GC := fun i => ⟨(f i).nd, K (f i).ks, false⟩

/-- What write leaves. -/
def WRes (X : Nat → Prop) (f : Nat → CC) (lk : Nat → Option Nat) (d : Nat → Nat) (K : (Option Addr × Nat × Nat) → List Nat) (B g0 k : Nat) (zs xs : List Nd) (w : World) (e : Ending) (w' : World) : Prop :=
  ∃ g c lk', e = .returned (.slice (some ⟨g, 0, none⟩) (k + xs.length) c) ∧ OwnN w' B g c (k + xs.length) (zs ++ xs) ∧ CSto w' X f lk' d K ∧ SameHd lk lk' ∧ But (fun i => X i ∨ i = g0) w w' ∧ (g = g0 ∨ w.heap.size ≤ g)

theorem sat_root {X : Nat → Prop} {f : Nat → CC} {lk : Nat → Option Nat} {d : Nat → Nat} {K : (Option Addr × Nat × Nat) → List Nat} {w : World} (h : CSto w X f lk d K) {θ : Nat → DT} (hs : SatC X (gcv K f) lk θ) {i : Nat} (hi : X i) : ∃ k, θ i [] = some k := by
  obtain ⟨r, hr⟩ := h.acyc.head _ i (Nat.lt_succ_self _)
  have e := hr.sat hs
  have e2 := hs.2 r (hr.inX h.cells hi) hr.is_root rfl
  rw [e, e2]
  exact ⟨_, rfl⟩

theorem OwnN.tag {w : World} {B g c k : Nat} {zs : List Nd} (h : OwnN w B g c k zs) : ∃ cur, w.heap[g]? = some (.cells cur 40 (0, 0)) := (owns_tag h.2).2

theorem but_next {X : Nat → Prop} {g g2 : Nat} {w wr w3 : World} (h : But (fun i => X i ∨ i = g) w wr) (h' : But (fun i => X i ∨ i = g2) wr w3) (hg : g2 = g ∨ w.heap.size ≤ g2) : But (fun i => X i ∨ i = g) w w3 := by
  refine ⟨h'.os.trans h.os, h'.tape.trans h.tape, h'.output.trans h.output, Nat.le_trans h.size h'.size, fun i hi hn => ?_⟩
  refine (h'.block i (Nat.lt_of_lt_of_le hi h.size) ?_).trans (h.block i hi hn)
  rintro (h9 | h9)
  · exact hn (.inl h9)
  · rcases hg with h8 | h8
    · exact hn (.inr (h9.trans h8))
    · omega

set_option maxRecDepth 20000 in
set_option maxHeartbeats 8000000 in
theorem write_any (X : Nat → Prop) (f : Nat → CC) (d : Nat → Nat) (K : (Option Addr × Nat × Nat) → List Nat) (θ : Nat → DT) (B : Nat) (HXB : Hid (∀ i, X i → i < B)) : ∀ (N : Nat) (xs : List Nd) (lk : Nat → Option Nat) (w : World) (b g c k : Nat) (zs : List Nd), xs.length ≤ N → CSto w X f lk d K → SatC X (gcv K f) lk θ → X b → Ev selfT xs (θ b) → OwnN w B g c k zs → k + xs.length ≤ 1000000000 →
    Calls Tryz.prog 56 #[.pointer (some ⟨b, 0, none⟩), .slice (some ⟨g, 0, none⟩) k c] w fun e w' => WRes X f lk d K B g k zs xs w e w' := by
  intro N
  induction N with
  | zero =>
    intro xs lk w b g c k zs hN _ _ _ hE
    have := List.length_pos_iff.2 hE.one.ne
    omega
  | succ N ih =>
    intro xs lk w b g c k zs hN hS hs hXb hE hO hk
    obtain ⟨i0, hi, hz0, hz1, hz2⟩ := info_parts Tryz.infoN
    obtain ⟨r, hr⟩ := hS.acyc.head _ b (Nat.lt_succ_self _)
    have hXr : X r := hr.inX hS.cells hXb
    have e1 := hr.sat hs
    have e2 := hs.2 r hXr hr.is_root rfl
    rw [e1, e2] at hE
    have hroot : ∀ dd ∈ (gcv K f r).ks.map θ, ∃ kk, dd [] = some kk := by
      intro dd hd
      obtain ⟨i, hi, rfl⟩ := List.mem_map.1 hd
      exact sat_root hS hs (hS.inX r hXr i hi)
    obtain ⟨xss, hxl, hxe, rfl, hnk⟩ := hE.kids hroot
    have HIH : Hid (∀ (xs : List Nd) (lk : Nat → Option Nat) (w : World) (b g c k : Nat) (zs : List Nd), xs.length ≤ N → CSto w X f lk d K → SatC X (gcv K f) lk θ → X b → Ev selfT xs (θ b) → OwnN w B g c k zs → k + xs.length ≤ 1000000000 →
      Calls Tryz.prog 56 #[.pointer (some ⟨b, 0, none⟩), .slice (some ⟨g, 0, none⟩) k c] w fun e w' => WRes X f lk d K B g k zs xs w e w') := ih
    clear ih
    have HA : Hid (Acyc lk d) := hS.acyc
    have HS : Hid (CSto w X f lk d K) := hS
    have HSA : Hid (SatC X (gcv K f) lk θ) := hs
    have HC := hS.cells
    have HXE : Hid (∀ i (h1 : i < xss.length) (h2 : i < ((gcv K f r).ks.map θ).length), Ev selfT xss[i] ((gcv K f r).ks.map θ)[i]) := hxe
    have HN : Hid ((xss.flatten ++ [(gcv K f r).nd]).length ≤ N + 1) := hN
    have HO : Hid (OwnN w B g c k zs) := hO
    have HK : Hid (k + (xss.flatten ++ [(gcv K f r).nd]).length ≤ 1000000000) := hk
    obtain ⟨sy, L, cy, hky⟩ : ∃ s l c, (f r).ks = (s, l, c) := ⟨_, _, _, rfl⟩
    obtain ⟨kk, hkk⟩ : ∃ l, K (f r).ks = l := ⟨_, rfl⟩
    have hRR := hS.rows r hXr
    rw [hkk, hky] at hRR
    have hL : L = kk.length := hRR.1.1
    have hL2 : L ≤ 20000 := by rw [hL]; exact hRR.1.2.1
    have HKK : Hid (K (f r).ks = kk) := hkk
    have HKY : Hid ((f r).ks = (sy, L, cy)) := hky
    have hxl2 : xss.length = kk.length := by rw [hxl]; simp [gcv, hkk]
    have HLL : Hid (xss.length = L ∧ kk.length = L) := ⟨by omega, hL.symm⟩
    have HKX : Hid (∀ i ∈ kk, X i) := by
      intro i hi
      exact hS.inX r hXr i (by rw [hkk]; exact hi)
    clear hS hs hE hroot hxe hN hO hk e1 e2 hRR hL hkk hxl hxl2 hnk
    go_enter Tryz.func56, Tryz.ntmps56
    go_wp2_with (go_at_call 49; refine (head_any X f lk d HA w HC b r hXb hr).mono ?_; rintro e w1 ⟨rfl, lk1, hC1, hS1, hA1, hB1, _⟩; obtain ⟨a0, a1, a2, a3, a4, a5, a6, a7, a8, a9, a10, a11, a12, a13⟩ := (hC1.at' r hXr).cell; rw [hky] at a6; simp only at a6)
    have HSS1 : Hid (CSto w1 X f lk1 d K) := HS.out.short hC1 hA1 hB1
    have HB1 : Hid (But (fun i => X i ∨ i = g) w w1) := hB1.mono (fun _ h => .inl h)
    have HSH : Hid (SameHd lk lk1) := hS1
    have hgX : ¬ X g := fun h => by
      have h1 := HXB.out g h
      have h2 := (owns_block HO.out.2).1
      omega
    have HO1 : Hid (OwnN w1 B g c k zs) := ⟨HO.out.1, owns_but HO.out.2 hB1 hgX⟩
    clear hC1 hA1 hB1 hS1 a0 a1 a2 a3 a4 a5 a6 a7 a8 a9 a10 a11 a12 a13 hky HC
    go_loopw [1, 14] (fun v i wr => ∃ (j g2 c2 : Nat) (lk2 : Nat → Option Nat), j ≤ L ∧ i = .int .i64 (j : Int) ∧ v = .slice (some ⟨g2, 0, none⟩) (k + (xss.take j).flatten.length) c2 ∧ OwnN wr B g2 c2 (k + (xss.take j).flatten.length) (zs ++ (xss.take j).flatten) ∧ CSto wr X f lk2 d K ∧ SameHd lk lk2 ∧ But (fun i => X i ∨ i = g) w wr ∧ (g2 = g ∨ w.heap.size ≤ g2)) (fun _ i _ => L - (intOf i).toNat)
    case atStart => exact ⟨0, g, c, lk1, Nat.zero_le _, rfl, by simp, by simpa using HO1.out, HSS1.out, HSH.out, HB1.out, .inl rfl⟩
    case round =>
      clear HO1 HSS1 HSH HB1
      obtain ⟨j, g2, c2, lk2, hj, rfl, rfl, hO2, hS2, hSH2, hB2, hg2w⟩ := hrel
      obtain ⟨hl1, hl2⟩ := HLL.out
      by_cases hjL : j < L
      · have hRR := hS2.rows r hXr
        rw [HKK.out, HKY.out] at hRR
        have hjk : j < kk.length := by omega
        have hjx : j < xss.length := by omega
        obtain ⟨gk, cur, hsy, _, _, hcur, hall⟩ := hRR.2.resolve_left (fun e9 => by rw [e9] at hjk; simp at hjk)
        simp only at hsy
        subst hsy
        have ek : wr.cell? ⟨gk, j, none⟩ = some (.pointer (some ⟨kk[j], 0, none⟩)) := by
          rw [cell_of_row wr gk j cur 69 (0, 0) hcur]
          exact hall j hjk
        have hXk : X kk[j] := HKX.out _ (List.getElem_mem hjk)
        have hE2 : Ev selfT xss[j] (θ kk[j]) := by
          have h9 := HXE.out j hjx (by simp only [gcv, List.length_map, HKK.out]; exact hjk)
          have e9 : ((gcv K f r).ks.map θ)[j]'(by simp only [gcv, List.length_map, HKK.out]; exact hjk) = θ kk[j] := by simp [gcv, HKK.out]
          rw [e9] at h9
          exact h9
        have htk : (xss.take (j + 1)).flatten = (xss.take j).flatten ++ xss[j] := by
          rw [List.take_succ_eq_append_getElem hjx, List.flatten_append]
          simp
        have hlt : (xss.take (j + 1)).flatten.length ≤ xss.flatten.length := by
          have h9 : xss.flatten = (xss.take (j + 1)).flatten ++ (xss.drop (j + 1)).flatten := by rw [← List.flatten_append, List.take_append_drop]
          rw [h9, List.length_append]
          omega
        have hHK := HK.out
        have hHN := HN.out
        simp only [List.length_append, List.length_cons, List.length_nil] at hHK hHN
        have hsat2 : SatC X (gcv K f) lk2 θ := (hSH2.sat HA.out hS2.acyc θ).2 HSA.out
        have hlsum : (xss.take (j + 1)).flatten.length = (xss.take j).flatten.length + xss[j].length := by rw [htk, List.length_append]
        have hle : xss[j].length ≤ xss.flatten.length := by omega
        have HCALL : Hid (Calls Tryz.prog 56 #[.pointer (some ⟨kk[j], 0, none⟩), .slice (some ⟨g2, 0, none⟩) (k + (xss.take j).flatten.length) c2] wr fun e w' => WRes X f lk2 d K B g2 (k + (xss.take j).flatten.length) (zs ++ (xss.take j).flatten) xss[j] wr e w') :=
          HIH.out xss[j] lk2 wr kk[j] g2 c2 (k + (xss.take j).flatten.length) (zs ++ (xss.take j).flatten) (by omega) hS2 hsat2 hXk hE2 hO2 (by omega)
        obtain ⟨kj, hkj⟩ : ∃ t, kk[j] = t := ⟨_, rfl⟩
        obtain ⟨P, hP⟩ : ∃ P, k + (xss.take j).flatten.length = P := ⟨_, rfl⟩
        rw [hkj] at ek HCALL
        rw [hP] at HCALL ⊢
        have HFIN : Hid (∀ (g3 c3 : Nat) (w3 : World), OwnN w3 B g3 c3 (P + xss[j].length) (zs ++ (xss.take j).flatten ++ xss[j]) → P + xss[j].length = k + (xss.take (j + 1)).flatten.length ∧ OwnN w3 B g3 c3 (k + (xss.take (j + 1)).flatten.length) (zs ++ (xss.take (j + 1)).flatten)) := by
          intro g3 c3 w3 h9
          have e9 : P + xss[j].length = k + (xss.take (j + 1)).flatten.length := by omega
          refine ⟨e9, ?_⟩
          rw [htk, ← List.append_assoc, ← htk, ← e9]
          exact h9
        have HB2 : Hid (But (fun i => X i ∨ i = g) w wr) := hB2
        have HSH2 : Hid (SameHd lk lk2) := hSH2
        clear hRR hcur hall hO2 hS2 hSH2 hB2 hsat2 hE2 htk hle hlt hHK hHN hkj hP hlsum
        go_wp2_with (go_at_call 56; refine HCALL.out.mono ?_; rintro e w3 ⟨g3, c3, lk3, rfl, hO3, hS3, hSH3, hB3, hg3⟩)
        obtain ⟨e9, hO4⟩ := HFIN.out g3 c3 w3 hO3
        go_roundw
        case rel => exact ⟨j + 1, g3, c3, lk3, by omega, by go_num, by rw [← e9], hO4, hS3, HSH2.out.trans hSH3, but_next HB2.out hB3 hg2w, by have := HB2.out.size; omega⟩
        case measure => simp [intOf]; omega
      · have hjL2 : j = L := by omega
        subst hjL2
        have hxt : xss.take j = xss := List.take_of_length_le (by omega)
        rw [hxt] at hO2 ⊢
        obtain ⟨b0, b1, b2, b3, b4, b5, b6, b7, b8, b9, b10, b11, b12, b13⟩ := (hS2.cells.at' r hXr).cell
        have hrl : r < wr.heap.size := (hS2.cells.at' r hXr).lt
        obtain ⟨nd, hnd⟩ : ∃ nd, (f r).nd = nd := ⟨_, rfl⟩
        rw [hnd] at b1 b2 b3 b4 b5
        have HND : Hid ((gcv K f r).nd = nd) := hnd
        have hOb := owns_block hO2.2
        have hHK := HK.out
        simp only [List.length_append, List.length_cons, List.length_nil] at hHK
        obtain ⟨P, hP⟩ : ∃ P, k + xss.flatten.length = P := ⟨_, rfl⟩
        rw [hP] at hO2 ⊢
        have hPb : P + 1 ≤ 1000000000 := by omega
        have HS2 : Hid (CSto wr X f lk2 d K) := hS2
        have HB2 : Hid (But (fun i => X i ∨ i = g) w wr) := hB2
        have hown1 := hO2.2.alloc (.cells #[.int .i64 nd.kind, .int .i64 nd.num, .string nd.text, .int .i64 nd.kids, .int .i64 nd.place] 40)
        have hcells := nd_new_cells wr nd
        have hbA : Below wr.heap.size wr (wr.alloc (.cells #[.int .i64 nd.kind, .int .i64 nd.num, .string nd.text, .int .i64 nd.kids, .int .i64 nd.place] 40)) := (Below.refl _ _).alloc (Nat.le_refl _) _
        obtain ⟨cur, hcur⟩ := OwnN.tag hO2
        have hcur1 : (wr.alloc (.cells #[.int .i64 nd.kind, .int .i64 nd.num, .string nd.text, .int .i64 nd.kids, .int .i64 nd.place] 40)).heap[g2]? = some (.cells cur 40 (0, 0)) := (hbA.block g2 hOb.2).trans hcur
        have HSH2 : Hid (SameHd lk lk2) := hSH2
        have hlz := hO2.1
        have hg2X : ¬ X g2 := fun h => by
          have h1 := HXB.out g2 h
          omega
        clear hS2 hB2 hHK b0 b6 b7 b8 b9 b10 b11 b12 b13 hnd hO2 hcur hSH2
        go_wp2_with (at_builtin; refine wpList_append2 _ rfl (.tmp 22) (.tmp 27) 27 rfl B 40 i0 _ 5 48 Tryz.underlying27 hi hz0 hz1 hz2 rfl (by decide) g2 P c2 _ rfl hown1 ⟨_, 0, none⟩ 1 1 (Nd.row nd) rfl rfl hcells (nd_row_one _) ?a3 ?a4 ?a5 ?_)
        case a3 => unfold maxLen; omega
        case a4 => omega
        case a5 => (try simp); omega
        intro g5 c5 w5 hown5 hgrow5 hwh
        have hO5 := OwnN.push hown5 hlz rfl
        have hb5 := but_grownP hgrow5
        have HS5 : Hid (CSto w5 X f lk2 d K) := by
          have h1 := HS2.out.short (HS2.out.cells.but (But.ofBelow (S := fun _ => False) hbA) (fun _ _ h => h)) HS2.out.acyc (But.ofBelow hbA)
          refine h1.aside hb5 hg2X (fun cu h => ?_)
          rw [hcur1] at h
          simp at h
        have HB5 : Hid (But (fun i => X i ∨ i = g) w w5) := but_next HB2.out ((But.ofBelow hbA).trans (hb5.mono (T := fun i => X i ∨ i = g2) (fun i h => .inr h))) hg2w
        have hg5w : g5 = g ∨ w.heap.size ≤ g5 := by
          have h1 := HB2.out.size
          rcases hwh with h | h
          · omega
          · right
            rw [h]
            have h2 := hbA.size
            omega
        have HO5 : Hid (OwnN w5 B g5 c5 (k + (xss.flatten ++ [(gcv K f r).nd]).length) (zs ++ (xss.flatten ++ [(gcv K f r).nd]))) := by
          have e9 : k + (xss.flatten ++ [(gcv K f r).nd]).length = P + 1 := by rw [List.length_append, List.length_singleton]; omega
          rw [Hid, e9, HND.out, ← List.append_assoc]
          exact hO5
        have e9 : P + 1 = k + (xss.flatten ++ [(gcv K f r).nd]).length := by rw [List.length_append, List.length_singleton]; omega
        clear hown5 hgrow5 hwh hown1 hcells hb5 hbA hO5 hcur1 b1 b2 b3 b4 b5
        go_wp2
        go_ret
        exact ⟨g5, c5, lk2, (by rw [← e9]; rfl), HO5.out, HS5.out, HSH2.out, HB5.out, hg5w⟩

end Go.Proofs.YthioecjcnajmgaaGreatDoor

namespace Go.Proofs.YthioecjcnajmgaaGreatDoor
open Go.RowKit Go.Maps

def metaNd (x : Int) : Nd := ⟨61, x, ByteArray.empty, 0, 0⟩

theorem plain_metaQ {n : Nd} (h : n.plainb = true) (h61 : n.kind = 61) : n = metaNd n.num := by
  obtain ⟨kd, nm, tx, ks, pl⟩ := n
  simp only at h61
  subst h61
  unfold Nd.plainb at h
  simp only [Bool.and_eq_true, Bool.or_eq_true, beq_iff_eq, decide_eq_true_eq] at h
  obtain ⟨h1, h2⟩ := h
  subst h1
  have h3 : ks = 0 ∧ tx.size = 0 := by
    rcases h2 with (h2 | h2) | h2
    · exact ⟨h2.1.1.2, h2.2⟩
    · omega
    · omega
  obtain ⟨rfl, h4⟩ := h3
  have h5 : tx = ByteArray.empty := by
    obtain ⟨dt⟩ := tx
    have : dt = #[] := Array.eq_empty_of_size_eq_zero h4
    subst this
    rfl
  subst h5
  rfl

theorem sat_weak {X : Nat → Prop} {f : Nat → CC} {lk : Nat → Option Nat} {K : (Option Addr × Nat × Nat) → List Nat} {θ : Nat → DT} (h : SatC X (gcv K f) lk θ) : SatC X (gc K f) lk θ :=
  ⟨h.1, fun i hi hl _ => h.2 i hi hl rfl⟩

section
variable {w0 w1 w2 : World} {sb mb : Nat} {t0 : Int} {ok1 ok2 : (Int → DT) → Prop} {d : Nat → Nat} {f0 : Nat → CC} {K0 : (Option Addr × Nat × Nat) → List Nat} {L : Nat} {g t : List Nd} {b1 n1 b2 n2 L2 : Nat} {X1 X2 : Nat → Prop} {f1 f2 f' : Nat → CC} {K1 K2 : (Option Addr × Nat × Nat) → List Nat} {U1 U2 : Int → Int → Option Nat} {D1 D2 : DataW Value} {rt1 rt2 : List Nat} {lk' : Nat → Option Nat}

theorem inst_self (T1 : Taken w0 w1 sb mb 0 t0 1 ok1 (fun _ => False) f0 (fun _ => none) d K0 (fun _ _ => none) L g b1 n1 X1 f1 K1 U1 D1 rt1) (T2 : Taken w1 w2 sb mb n1 t0 0 ok2 X1 f1 (fun _ => none) d K1 U1 L2 t b2 n2 X2 f2 K2 U2 D2 rt2) {θ : Nat → DT} (hs : SatC X2 (gc K2 f2) (fun _ => none) θ) : Ev selfT t (θ b2) := by
  refine (T2.mean θ hs).asSelf (fun n hn h61 => ?_)
  have hu : U1 0 n.num = none := by rw [T1.grow.other 0 n.num (by omega)]
  obtain ⟨b, h1, h2, h3, h4⟩ := T2.leaf n hn h61 hu
  unfold sg
  rw [h1]
  have h9 := hs.2 b h4 h3 (by rw [h2]; rfl)
  rw [h2] at h9
  exact h9

theorem inst_good (T1 : Taken w0 w1 sb mb 0 t0 1 ok1 (fun _ => False) f0 (fun _ => none) d K0 (fun _ _ => none) L g b1 n1 X1 f1 K1 U1 D1 rt1) (T2 : Taken w1 w2 sb mb n1 t0 0 ok2 X1 f1 (fun _ => none) d K1 U1 L2 t b2 n2 X2 f2 K2 U2 D2 rt2)
    (hE : ∀ θ, SatC X2 (gc K2 f') lk' θ ↔ SatC X2 (gc K2 f2) (fun _ => none) θ ∧ θ b1 = θ b2) {θ : Nat → DT} (hs : SatC X2 (gcv K2 f') lk' θ) :
    ∃ ρ : Int → List Nd, (∀ x b, U2 1 x = some b → Ev selfT (ρ x) (θ b)) ∧ fill ρ g = t ∧ ∀ x, (∃ b, U2 1 x = some b) ↔ x ∈ metas g := by
  obtain ⟨s2, e12⟩ := (hE θ).1 (sat_weak hs)
  have m2 := inst_self T1 T2 s2
  have s1 := T2.grow.back s2
  have m1 := T1.mean θ s1
  rw [e12] at m1
  obtain ⟨c1, c2⟩ := m1.back m2
  have hU : ∀ x, U2 1 x = U1 1 x := fun x => T2.grow.other 1 x (by omega)
  have hk : ∀ x, ∃ xs, ∀ b, U2 1 x = some b → Ev selfT xs (θ b) := by
    intro x
    cases e : U2 1 x with
    | none => exact ⟨[], fun b h => by cases h⟩
    | some b =>
      have e1 := e
      rw [hU] at e1
      rcases T1.src x b e1 with h9 | ⟨y, hy, h61, rfl⟩
      · cases h9
      · obtain ⟨xs, hxs⟩ := c1 y hy h61
        unfold sg at hxs
        rw [e1] at hxs
        exact ⟨xs, fun b' h => by cases h; exact hxs⟩
  obtain ⟨ρ, hρ⟩ := Classical.axiomOfChoice hk
  refine ⟨ρ, hρ, c2 ρ (fun n hn h61 => ?_), fun x => ⟨?_, fun hx => ?_⟩⟩
  · obtain ⟨b, hb⟩ := T1.known n hn h61
    unfold sg
    rw [hb]
    exact hρ n.num b (by rw [hU]; exact hb)
  · rintro ⟨b, hb⟩
    rw [hU] at hb
    rcases T1.src x b hb with h9 | ⟨y, hy, h61, rfl⟩
    · cases h9
    · exact List.mem_map.2 ⟨y, List.mem_filter.2 ⟨hy, by simpa using h61⟩, rfl⟩
  · obtain ⟨y, hy, rfl⟩ := List.mem_map.1 hx
    obtain ⟨hy1, hy2⟩ := List.mem_filter.1 hy
    obtain ⟨b, hb⟩ := T1.known y hy1 (by simpa using hy2)
    exact ⟨b, by rw [hU]; exact hb⟩

theorem inst_bad (T1 : Taken w0 w1 sb mb 0 t0 1 ok1 (fun _ => False) f0 (fun _ => none) d K0 (fun _ _ => none) L g b1 n1 X1 f1 K1 U1 D1 rt1) (T2 : Taken w1 w2 sb mb n1 t0 0 ok2 X1 f1 (fun _ => none) d K1 U1 L2 t b2 n2 X2 f2 K2 U2 D2 rt2) (hok1 : ∀ ρ, ok1 ρ) (hok2 : ∃ ρ, ok2 ρ)
    (hno : ∀ θ, SatC X2 (gc K2 f2) (fun _ => none) θ → θ b1 ≠ θ b2) : InstNo g t := by
  intro ρ hρ hfill
  have hk : ∀ x, ∃ dd : DT, ∀ e, Ev selfT (ρ x) e → Ev selfT (ρ x) dd := by
    intro x
    by_cases h : ∃ e, Ev selfT (ρ x) e
    · obtain ⟨e, he⟩ := h
      exact ⟨e, fun _ _ => he⟩
    · exact ⟨fun _ => none, fun e he => absurd ⟨e, he⟩ h⟩
  obtain ⟨ρ1, hρ1⟩ := Classical.axiomOfChoice hk
  obtain ⟨ρ2, hρ2⟩ := hok2
  obtain ⟨θ1, s1, _, v1⟩ := T1.grow.on (fun _ _ => none) ⟨(fun i j e => by cases e), fun i (hi : False) => hi.elim⟩ ρ1 (hok1 ρ1)
  obtain ⟨θ2, s2, a2, _⟩ := T2.grow.on θ1 s1 ρ2 hρ2
  have m2 := inst_self T1 T2 s2
  have m1 := T1.mean θ1 s1
  have hD : Ev selfT (fill ρ g) (θ2 b2) := by rw [hfill]; exact m2
  have hcut := m1.cut hρ hD
  have m3 := m1.forth (ρ := ρ) (fun n hn h61 => by
    obtain ⟨b, hb⟩ := T1.known n hn h61
    obtain ⟨e, he⟩ := hcut n hn h61
    unfold sg
    rw [hb]
    simp only
    rw [v1 n.num b rfl hb]
    exact hρ1 n.num e he)
  rw [hfill] at m3
  have e9 := m3.fun m2
  exact hno θ2 s2 (by rw [a2 b1 T1.inX]; exact e9)
end

end Go.Proofs.YthioecjcnajmgaaGreatDoor

namespace Go.Proofs.YthioecjcnajmgaaGreatDoor
open Go.RowKit Go.Maps

/-! What solve does with one pair. -/

theorem type_oneS {t : List Nd} (h : typeb t = true) : One t := by
  obtain ⟨S, ys, s, hS, h0, hs, hf, hsp, _⟩ := type_side rfl h
  have h9 := sub_one hS.run (i := t.length - 1) (by omega) hs
  rw [hsp] at h9
  exact h9

theorem uniq_metaS {t : List Nd} (h : t.all Nd.plainb = true) : ∀ a ∈ t, ∀ b ∈ t, a.kind = 61 → b.kind = 61 → a.num = b.num → a = b := by
  intro a ha b hb h1 h2 e
  have h9 := List.all_eq_true.1 h
  rw [plain_metaQ (h9 a ha) h1, plain_metaQ (h9 b hb) h2, e]

section
variable {ps : List (List Nd × List Nd)} {i now q : Nat} {O : Int → Prop} {W : World} {sb mb n : Nat} {X : Nat → Prop} {f : Nat → CC} {lk : Nat → Option Nat} {d : Nat → Nat} {K : (Option Addr × Nat × Nat) → List Nat} {U : Int → Int → Option Nat} {D : DataW Value} {rt : List Nat}

theorem SolG.callTake (hG : SolG ps i now q O W sb mb n X f lk d K U D rt) (hq : q ≤ 400000) (ty : List Nd) (m : Nat) (HM : Hid (ty.length = m)) (ht : typeb ty = true) (HW : Hid (∀ x ∈ ty, (Lit.int .i64 x.num).wf = true)) (ao : Option Addr) (cap : Nat) (hx : Nodes W ao ty) :
    Calls Tryz.prog 28 #[.pointer (some ⟨sb, 0, none⟩), .slice ao m cap, .int .i64 1] W fun e w' => ∃ b n' X' f' K' U' D' rt', e = .returned (.pointer (some ⟨b, 0, none⟩)) ∧ Taken W w' sb mb n (now : Int) 1 (fun _ => True) X f lk d K U q ty b n' X' f' K' U' D' rt' := by
  obtain ⟨Sg, yg, xg, hSg, h0g, _⟩ := type_side HM.out ht
  have hg3 := hSg.m300
  have HG1 : Sg.length = 1 := by
    have h1 := after_wt hSg.run
    rw [List.take_of_length_le (by have := HM.out; omega), (type_oneS ht).wt] at h1
    omega
  exact take_any W sb mb n (by have := hG.cnt; omega) (now : Int) 1 (fun _ => True) X f lk d K U D hG.stor (by decide) (.inr rfl) ty m HM hg3 h0g HW (plain_leafy hSg.plain) (uniq_metaS hSg.plain) Sg yg hSg.run HG1 (fun _ _ h => absurd h (by decide)) q rt hG.roots ao cap hx

end

/-- What a pair leaves. -/
def PairRes (ps : List (List Nd × List Nd)) (i z q : Nat) (w : World) (sb mb : Nat) (e : Ending) (w' : World) : Prop :=
  Below z w w' ∧ ∃ (n : Nat) (X : Nat → Prop) (f : Nat → CC) (lk : Nat → Option Nat) (d : Nat → Nat) (K : (Option Addr × Nat × Nat) → List Nat) (U : Int → Int → Option Nat) (D : DataW Value) (rt : List Nat), (∀ r, X r → z ≤ r) ∧
    ((e = .returned .nilIface ∧ SolG ps (i + 1) i q (Occ (ps.take (i + 1))) w' sb mb n X f lk d K U D rt) ∨ ((∃ v, e = .returned (.iface 123 (.pointer (some v)))) ∧ SolE ps i i q w' sb mb n X f lk d K U D rt ∧ ∀ ρ : Int → List Nd, (∀ x, One (ρ x)) → ¬ Solves ρ (ps.take (i + 1))))

theorem below_but {S : Nat → Prop} {z : Nat} {w w1 w2 : World} (h0 : Below z w w1) (h : But S w1 w2) (hw : z ≤ w.heap.size) (hS : ∀ i, S i → z ≤ i) : Below z w w2 := by
  refine ⟨h.os.trans h0.os, h.tape.trans h0.tape, h.output.trans h0.output, Nat.le_trans h0.size h.size, fun i hi => ?_⟩
  have hz := h0.size
  exact (h.block i (by omega) (fun h9 => by have := hS i h9; omega)).trans (h0.block i hi)

theorem pair_calls {ps : List (List Nd × List Nd)} {i z : Nat} {w W : World} {sb mb n : Nat} {X : Nat → Prop} {f : Nat → CC} {lk : Nat → Option Nat} {d : Nat → Nat} {K : (Option Addr × Nat × Nat) → List Nat} {U : Int → Int → Option Nat} {D : DataW Value} {rt : List Nat} (hi : i < ps.length) (hv : Valid ps) (hwf : ∀ p ∈ ps, (∀ x ∈ p.1, (Lit.int .i64 x.num).wf = true) ∧ ∀ x ∈ p.2, (Lit.int .i64 x.num).wf = true)
    (hG : SolG ps i i (pairSum ps i) (Occ (ps.take i)) W sb mb n X f lk d K U D rt) (hw : w.heap.size = z) (hb : Below z w W) (hXz : ∀ r, X r → z ≤ r) (hmb : z ≤ mb)
    (la lc : Nat) (hla : ps[i].1.length = la) (hlc : ps[i].2.length = lc) (a1 a2 : Option Addr) (c1 c2 : Nat) (hn1 : Nodes w a1 ps[i].1) (hn2 : Nodes w a2 ps[i].2) :
    ∃ (R1 : Nat → World → Prop) (R2 : Nat → Nat → World → Prop),
      (Calls Tryz.prog 28 #[.pointer (some ⟨sb, 0, none⟩), .slice a1 la c1, .int .i64 1] W fun e w4 => ∃ a, e = .returned (.pointer (some ⟨a, 0, none⟩)) ∧ R1 a w4) ∧
      (∀ a w4, R1 a w4 → Calls Tryz.prog 28 #[.pointer (some ⟨sb, 0, none⟩), .slice a2 lc c2, .int .i64 1] w4 fun e w5 => ∃ b, e = .returned (.pointer (some ⟨b, 0, none⟩)) ∧ R2 a b w5) ∧
      (∀ a b w5, R2 a b w5 → Calls Tryz.prog 27 #[.pointer (some ⟨sb, 0, none⟩), .pointer (some ⟨a, 0, none⟩), .pointer (some ⟨b, 0, none⟩)] w5 fun e w6 => PairRes ps i z (pairSum ps (i + 1)) w sb mb e w6) ∧
      (∀ a w4, R1 a w4 → But (fun k => k = mb) W w4) := by
  have hmem := List.getElem_mem hi
  obtain ⟨tA, tC⟩ := hv.2 _ hmem
  obtain ⟨wA, wC⟩ := hwf _ hmem
  have hsum : ∀ j, pairSum ps j ≤ 20000 := fun j => by have := pairSum_le ps j; have := hv.1; omega
  have hs1 := hsum i
  have hs2 := hsum (i + 1)
  have hss := pairSum_succ hi
  refine ⟨fun a w4 => ∃ n1 X1 f1 K1 U1 D1 rt1, Taken W w4 sb mb n (i : Int) 1 (fun _ => True) X f lk d K U (pairSum ps i) ps[i].1 a n1 X1 f1 K1 U1 D1 rt1,
    fun a b w5 => ∃ w4 n1 X1 f1 K1 U1 D1 rt1 n2 X2 f2 K2 U2 D2 rt2, Taken W w4 sb mb n (i : Int) 1 (fun _ => True) X f lk d K U (pairSum ps i) ps[i].1 a n1 X1 f1 K1 U1 D1 rt1 ∧ Taken w4 w5 sb mb n1 (i : Int) 1 (fun _ => True) X1 f1 lk d K1 U1 (pairSum ps i + la) ps[i].2 b n2 X2 f2 K2 U2 D2 rt2, ?_, ?_, ?_, ?_⟩
  · refine (hG.callTake (by omega) ps[i].1 la hla tA wA a1 c1 (hn1.below (by rw [hw]; exact hb))).mono ?_
    rintro e w4 ⟨b, n1, X1, f1, K1, U1, D1, rt1, rfl, T⟩
    exact ⟨b, rfl, n1, X1, f1, K1, U1, D1, rt1, T⟩
  · rintro a w4 ⟨n1, X1, f1, K1, U1, D1, rt1, T⟩
    have hG1 := hG.take (Nat.le_refl _) T (typeb_plain tA) wA
    have hb4 := below_but hb T.old (by omega) (fun k hk => by omega)
    have h9 := hG1.callTake (by omega) ps[i].2 lc hlc tC wC a2 c2 (hn2.below (by rw [hw]; exact hb4))
    rw [hla] at h9
    refine h9.mono ?_
    rintro e w5 ⟨b, n2, X2, f2, K2, U2, D2, rt2, rfl, T2⟩
    exact ⟨b, rfl, w4, n1, X1, f1, K1, U1, D1, rt1, n2, X2, f2, K2, U2, D2, rt2, T, T2⟩
  · rintro a b w5 ⟨w4, n1, X1, f1, K1, U1, D1, rt1, n2, X2, f2, K2, U2, D2, rt2, T1, T2⟩
    have hG1 := hG.take (Nat.le_refl _) T1 (typeb_plain tA) wA
    have hb4 := below_but hb T1.old (by omega) (fun k hk => by omega)
    have hG2 := hG1.take (by omega) T2 (typeb_plain tC) wC
    have hb5 := below_but hb4 T2.old (by omega) (fun k hk => by omega)
    have hG3 := hG2.to (q' := pairSum ps (i + 1)) (O' := Occ (ps.take (i + 1))) (by omega) (fun x hx => occ_succ hi hx)
    obtain ⟨hkn, hA, hB, hXa, hXb⟩ := two_taken T1 T2
    have hX2 : ∀ r, X2 r → z ≤ r := by
      intro r hr
      rcases T2.fresh r hr with h | h
      · rcases T1.fresh r h with h | h
        · exact hXz r h
        · have := hb.size; omega
      · have := hb4.size; omega
    refine (equate_any X2 f2 lk d K2 w5 a b rt2 hG3.stor.sto (fun r hr _ => hG3.roots.1 r hr) (by have := hG3.roots.2; omega) hXa hXb sb (i : Int) hG3.stor.sX hG3.stor.s1).mono ?_
    rintro e w6 ⟨hB6, hres⟩
    have hb6 := below_but hb5 hB6 (by omega) hX2
    rcases hres with ⟨rfl, f', lk', d', hS6, hT6, hE⟩ | ⟨⟨v, rfl⟩, ⟨f', lk', d', hS6, hT6⟩, hno⟩
    · exact ⟨hb6, n2, X2, f', lk', d', K2, U2, D2, rt2, hX2, .inl ⟨rfl, hG3.tie hi hkn hA hB hB6 hS6 hT6 hE⟩⟩
    · refine ⟨hb6, n2, X2, f', lk', d', K2, U2, D2, rt2, hX2, .inr ⟨⟨v, rfl⟩, hG3.fail hB6 hS6 hT6, fun ρ hρ => ?_⟩⟩
      exact hG3.loop.noSolves (fun p hp => ⟨⟨plain_leafy (typeb_plain (hv.2 p hp).1), type_oneS (hv.2 p hp).1⟩, plain_leafy (typeb_plain (hv.2 p hp).2), type_oneS (hv.2 p hp).2⟩) hi hkn hA hB hno ρ hρ
  · rintro a w4 ⟨n1, X1, f1, K1, U1, D1, rt1, T⟩
    exact T.old

end Go.Proofs.YthioecjcnajmgaaGreatDoor

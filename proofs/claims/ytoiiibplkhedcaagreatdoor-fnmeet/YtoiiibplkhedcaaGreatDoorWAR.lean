import Derived.Test.YtoiiibplkhedcaaGreatDoorWAQ
set_option maxRecDepth 20000
set_option maxHeartbeats 4000000
namespace Go.Proofs.YtoiiibplkhedcaaGreatDoor
open Go.RowKit
def ERes (X : Nat → Prop) (f : Nat → CC) (lk : Nat → Option Nat) (K : (Option Addr × Nat × Nat) → List Nat) (t : Int) (a b : Nat) (w : World) (e : Ending) (w' : World) : Prop :=
  But X w w' ∧ ((e = .returned .nilIface ∧ ∃ (f' : Nat → CC) (lk' : Nat → Option Nat) (d' : Nat → Nat), CSto w' X f' lk' d' K ∧ Ties X t f lk f' lk' ∧ ∀ θ, SatC X (gc K f') lk' θ ↔ SatC X (gc K f) lk θ ∧ θ a = θ b) ∨ ((∃ v, e = .returned (.iface 143 (.pointer (some v)))) ∧ (∃ f' lk' d', CSto w' X f' lk' d' K ∧ Ties X t f lk f' lk') ∧ ∀ θ, SatC X (gc K f) lk θ → θ a ≠ θ b))
theorem Qlu (X : Nat → Prop) (f : Nat → CC) (lk : Nat → Option Nat) (d : Nat → Nat) (K : (Option Addr × Nat × Nat) → List Nat) (w : World) (a b : Nat) (rt : List Nat) (hS : CSto w X f lk d K) (hroots : ∀ i, X i → lk i = none → i ∈ rt) (hrt : rt.length ≤ 10000000) (hXa : X a) (hXb : X b)
    (sb : Nat) (t : Int) (hsX : ¬ X sb) (hst : w.cell? ⟨sb, 1, none⟩ = some (.int .i64 t)) :
    Calls Tryz.prog 29 #[.pointer (some ⟨sb, 0, none⟩), .pointer (some ⟨a, 0, none⟩), .pointer (some ⟨b, 0, none⟩)] w fun e w' => ERes X f lk K t a b w e w' := by
  have hb0 : Below w.heap.size w (w.alloc (.cells #[.pointer (some ⟨sb, 0, none⟩)] 59)) := (Below.refl _ w).alloc (Nat.le_refl _) _
  have hb1 := hb0.alloc hb0.size (.cells #[.nilIface] 62)
  have hb2 := hb1.alloc hb1.size (.cells #[.pointer (some ⟨a, 0, none⟩), .pointer (some ⟨b, 0, none⟩)] 109)
  have hBF : But (fun _ => False) w (((w.alloc (.cells #[.pointer (some ⟨sb, 0, none⟩)] 59)).alloc (.cells #[.nilIface] 62)).alloc (.cells #[.pointer (some ⟨a, 0, none⟩), .pointer (some ⟨b, 0, none⟩)] 109)) := But.ofBelow hb2
  have hBX : But X w (((w.alloc (.cells #[.pointer (some ⟨sb, 0, none⟩)] 59)).alloc (.cells #[.nilIface] 62)).alloc (.cells #[.pointer (some ⟨a, 0, none⟩), .pointer (some ⟨b, 0, none⟩)] 109)) := But.ofBelow hb2
  have hlX : ∀ i, X i → i < w.heap.size := fun i hi => (hS.cells.at' i hi).lt
  have hsl : sb < w.heap.size := Qaa hst
  have hz : (((w.alloc (.cells #[.pointer (some ⟨sb, 0, none⟩)] 59)).alloc (.cells #[.nilIface] 62)).alloc (.cells #[.pointer (some ⟨a, 0, none⟩), .pointer (some ⟨b, 0, none⟩)] 109)).heap.size = w.heap.size + 3 := by simp
  have k0 : (((w.alloc (.cells #[.pointer (some ⟨sb, 0, none⟩)] 59)).alloc (.cells #[.nilIface] 62)).alloc (.cells #[.pointer (some ⟨a, 0, none⟩), .pointer (some ⟨b, 0, none⟩)] 109)).heap[w.heap.size]? = some (.cells #[.pointer (some ⟨sb, 0, none⟩)] 59 (0, 0)) := by
    rw [heap_alloc_old _ _ (by simp; omega), heap_alloc_old _ _ (by simp)]
    exact heap_alloc_new _ _
  have k1 : (((w.alloc (.cells #[.pointer (some ⟨sb, 0, none⟩)] 59)).alloc (.cells #[.nilIface] 62)).alloc (.cells #[.pointer (some ⟨a, 0, none⟩), .pointer (some ⟨b, 0, none⟩)] 109)).heap[w.heap.size + 1]? = some (.cells #[.nilIface] 62 (0, 0)) := by
    rw [heap_alloc_old _ _ (by simp)]
    have h9 := heap_alloc_new (w.alloc (.cells #[.pointer (some ⟨sb, 0, none⟩)] 59)) (.cells #[.nilIface] 62)
    simpa using h9
  have k2 : (((w.alloc (.cells #[.pointer (some ⟨sb, 0, none⟩)] 59)).alloc (.cells #[.nilIface] 62)).alloc (.cells #[.pointer (some ⟨a, 0, none⟩), .pointer (some ⟨b, 0, none⟩)] 109)).heap[w.heap.size + 1 + 1]? = some (.cells #[.pointer (some ⟨a, 0, none⟩), .pointer (some ⟨b, 0, none⟩)] 109 (0, 0)) := by
    have h9 := heap_alloc_new ((w.alloc (.cells #[.pointer (some ⟨sb, 0, none⟩)] 59)).alloc (.cells #[.nilIface] 62)) (.cells #[.pointer (some ⟨a, 0, none⟩), .pointer (some ⟨b, 0, none⟩)] 109)
    simpa using h9
  have hBx : Boxes (((w.alloc (.cells #[.pointer (some ⟨sb, 0, none⟩)] 59)).alloc (.cells #[.nilIface] 62)).alloc (.cells #[.pointer (some ⟨a, 0, none⟩), .pointer (some ⟨b, 0, none⟩)] 109)) X (w.heap.size + 1) w.heap.size sb .nilIface t :=
    ⟨k1, k0, (hBX.cellB hsl hsX).trans hst, fun h => by have := hlX _ h; omega, fun h => by have := hlX _ h; omega, hsX, by omega, by omega⟩
  have hS1 : CSto (((w.alloc (.cells #[.pointer (some ⟨sb, 0, none⟩)] 59)).alloc (.cells #[.nilIface] 62)).alloc (.cells #[.pointer (some ⟨a, 0, none⟩), .pointer (some ⟨b, 0, none⟩)] 109)) X f lk d K := hS.short (hS.cells.but hBF (fun _ _ h => h)) hS.acyc hBX
  have hown : (((w.alloc (.cells #[.pointer (some ⟨sb, 0, none⟩)] 59)).alloc (.cells #[.nilIface] 62)).alloc (.cells #[.pointer (some ⟨a, 0, none⟩), .pointer (some ⟨b, 0, none⟩)] 109)).ownsRow (w.heap.size + 1 + 1) 109 2 (.slice (some ⟨w.heap.size + 1 + 1, 0, none⟩) 1 1) 1 (Qba [(a, b)]) :=
    ⟨rfl, Or.inr ⟨_, 1, _, rfl, Nat.le_refl _, k2, Nat.le_refl _, by simp [maxLen], rfl, rfl⟩⟩
  have hW : Work X f lk K (w.heap.size + 1) w.heap.size sb t a b (w.heap.size + 1 + 1) (1 + rt.length * 20000) (((w.alloc (.cells #[.pointer (some ⟨sb, 0, none⟩)] 59)).alloc (.cells #[.nilIface] 62)).alloc (.cells #[.pointer (some ⟨a, 0, none⟩), .pointer (some ⟨b, 0, none⟩)] 109)) (.slice (some ⟨w.heap.size + 1 + 1, 0, none⟩) 1 1) (((w.alloc (.cells #[.pointer (some ⟨sb, 0, none⟩)] 59)).alloc (.cells #[.nilIface] 62)).alloc (.cells #[.pointer (some ⟨a, 0, none⟩), .pointer (some ⟨b, 0, none⟩)] 109)) (rt.length * 20001 + 1) :=
    ⟨1, _, 1, [(a, b)], rfl, by omega, hown, rfl, But.refl _ _, by simp [hXa, hXb], .inl ⟨hBx, f, lk, d, rt, hS1, rfl, Nat.le_refl _, hroots, Ties.refl _ _ _ _, fun θ => by simp⟩⟩
  have HU := Qsn X f lk K (w.heap.size + 1) w.heap.size sb t a b (w.heap.size + 1 + 1) (1 + rt.length * 20000) (by omega) (((w.alloc (.cells #[.pointer (some ⟨sb, 0, none⟩)] 59)).alloc (.cells #[.nilIface] 62)).alloc (.cells #[.pointer (some ⟨a, 0, none⟩), .pointer (some ⟨b, 0, none⟩)] 109)) (w.heap.size + 1 + 1) _ (fun i hi => by have := hlX i hi; omega) (by omega) (by omega) (by omega) hW
  have HBX : Hid (∀ w', But (fun i => X i ∨ i = w.heap.size + 1 ∨ w.heap.size + 1 + 1 ≤ i) (((w.alloc (.cells #[.pointer (some ⟨sb, 0, none⟩)] 59)).alloc (.cells #[.nilIface] 62)).alloc (.cells #[.pointer (some ⟨a, 0, none⟩), .pointer (some ⟨b, 0, none⟩)] 109)) w' → But X w w') := by
    intro w' h
    refine ⟨h.os.trans hBX.os, h.tape.trans hBX.tape, h.output.trans hBX.output, Nat.le_trans hBX.size h.size, fun i hi hn => ?_⟩
    refine (h.block i (Nat.lt_of_lt_of_le hi hBX.size) ?_).trans (hBX.block i hi hn)
    rintro (h9 | h9 | h9)
    · exact hn h9
    · omega
    · omega
  clear hW hown hS1 hBx k0 k1 k2 hBF hBX hb0 hb1 hb2 hS hroots hst hlX
  go_enter Tryz.func29, Tryz.ntmps29
  go_wp2_with fail
  refine HU.mono ?_
  rintro e w1 ⟨rfl, v, n, ⟨k, g, c, Q, rfl, hk, hown, hQ, hB, hQX, hres⟩, hlen⟩
  have hk0 : k = 0 := hlen
  subst hk0
  obtain rfl : Q = [] := List.eq_nil_of_length_eq_zero hQ
  have HB := HBX.out w1 hB
  clear HU HBX hown hB hQX hlen hz
  rcases hres with ⟨hBx, f', lk', d', rt', hS', _, _, _, hTi, hθ⟩ | ⟨_, ⟨v, hBx⟩, ⟨f', lk', d', hS', hTi⟩, hno⟩
  · have qe : w1.cell? ⟨w.heap.size + 1, 0, none⟩ = some .nilIface := by rw [cell_of_row _ _ _ _ 62 (0, 0) hBx.e]; rfl
    have HR : Hid (∃ (f' : Nat → CC) (lk' : Nat → Option Nat) (d' : Nat → Nat), CSto w1 X f' lk' d' K ∧ Ties X t f lk f' lk' ∧ ∀ θ, SatC X (gc K f') lk' θ ↔ SatC X (gc K f) lk θ ∧ θ a = θ b) := ⟨f', lk', d', hS', hTi, fun θ => by rw [← hθ θ]; simp⟩
    clear hBx hS' hθ
    go_wp2
    go_ret
    exact ⟨HB, .inl ⟨rfl, HR.out⟩⟩
  · have qe : w1.cell? ⟨w.heap.size + 1, 0, none⟩ = some (.iface 143 (.pointer (some v))) := by rw [cell_of_row _ _ _ _ 62 (0, 0) hBx.e]; rfl
    have HR : Hid (∃ f' lk' d', CSto w1 X f' lk' d' K ∧ Ties X t f lk f' lk') := ⟨f', lk', d', hS', hTi⟩
    clear hBx hS' hTi
    go_wp2
    go_ret
    exact ⟨HB, .inr ⟨⟨_, rfl⟩, HR.out, hno⟩⟩
def OwnNew (o0 : Option Nat) (z : Nat) (s : Option Addr × Nat × Nat) : Prop := (Value.slice s.1 s.2.1 s.2.2).ownBlock = o0 ∨ ∃ g, (Value.slice s.1 s.2.1 s.2.2).ownBlock = some g ∧ z ≤ g
def Qim (X : Nat → Prop) (f : Nat → CC) (lk : Nat → Option Nat) (d : Nat → Nat) (K : (Option Addr × Nat × Nat) → List Nat) (hf : Nat → Nat) (xs : List Nat) (sb mb : Nat) (now t I L : Int) (sn1 : Nat → Int) (r : Nat) (o0 : Option Nat) (w : World) (v : Value) (wr : World) (n : Nat) : Prop :=
  ∃ (sn : Nat → Int) (sa : Option Addr) (sl sc : Nat) (P : List PSt) (closed : Bool), v = .bool closed ∧ WMem wr X f sn lk d K sb mb now t I L (sa, sl, sc) P ∧ WInv X (Qbc K f t) hf I L sn1 sn P closed r ∧ n = todo xs I L sn P ∧ But (fun i => X i ∨ i = sb ∨ o0 = some i) w wr ∧ OwnNew o0 w.heap.size (sa, sl, sc)
theorem Qnd {X : Nat → Prop} {sb : Nat} {o0 : Option Nat} {w wr w' : World} {s : Option Addr × Nat × Nat} (h : But (fun i => X i ∨ i = sb ∨ o0 = some i) w wr) (ho : OwnNew o0 w.heap.size s) (hb : But (fun i => X i ∨ i = sb ∨ (Value.slice s.1 s.2.1 s.2.2).ownBlock = some i) wr w') : But (fun i => X i ∨ i = sb ∨ o0 = some i) w w' := by
  refine ⟨hb.os.trans h.os, hb.tape.trans h.tape, hb.output.trans h.output, Nat.le_trans h.size hb.size, fun i hi hne => ?_⟩
  have hs := h.size
  refine (hb.block i (by omega) (fun h9 => ?_)).trans (h.block i hi hne)
  rcases h9 with h9 | h9 | h9
  · exact hne (.inl h9)
  · exact hne (.inr (.inl h9))
  · rcases ho with ho | ⟨g, hg, hz⟩
    · rw [ho] at h9; exact hne (.inr (.inr h9))
    · rw [hg] at h9
      simp only [Option.some.injEq] at h9
      omega
theorem Qrz {o0 : Option Nat} {z z' : Nat} {s s' : Option Addr × Nat × Nat} (ho : OwnNew o0 z s) (hz : z ≤ z') (h : (Value.slice s.1 s.2.1 s.2.2).ownBlock = (Value.slice s'.1 s'.2.1 s'.2.2).ownBlock ∨ ∃ g, (Value.slice s'.1 s'.2.1 s'.2.2).ownBlock = some g ∧ z' ≤ g) : OwnNew o0 z s' := by
  rcases h with h | ⟨g, hg, hl⟩
  · rcases ho with ho | ⟨g, hg, hl⟩
    · exact .inl (h.symm.trans ho)
    · exact .inr ⟨g, h.symm.trans hg, hl⟩
  · exact .inr ⟨g, hg, by omega⟩
theorem Qud (X : Nat → Prop) (f : Nat → CC) (sn1 : Nat → Int) (lk : Nat → Option Nat) (d dt : Nat → Nat) (K : (Option Addr × Nat × Nat) → List Nat) (hf : Nat → Nat) (xs : List Nat) (sb mb : Nat) (now t I L : Int) (hIL : I < L) (sa : Option Addr) (sl sc : Nat) (w : World) (hW : WMem w X f sn1 lk d K sb mb now t I L (sa, sl, sc) []) (HA : Hid (Acyc (tdAt Classical.propDecidable X f t) dt)) (HI : Hid (∀ b j, X b → (f b).td = some j → X j)) (HH : Hid (∀ k, Hd (tdAt Classical.propDecidable X f t) k (hf k))) (HXH : Hid (∀ k, X k → X (hf k))) (HKX : Hid (∀ q, X q → (∀ k ∈ Qbc K f t q, X k) ∧ (Qbc K f t q).length ≤ 20000)) (HXS : Hid (∀ b, X b → b ∈ xs)) (hxs : xs.length ≤ 900000)
    (HSM : Hid (∀ b, X b → sn1 b = L ∨ sn1 b < I)) (HLF : Hid (∃ rk, LeftOk (Qbc K f t) hf (fun b => X b ∧ sn1 b = L) rk)) (c : Nat) (hX : X c) :
    Calls Tryz.prog 100 #[.pointer (some ⟨sb, 2, none⟩), .pointer (some ⟨c, 0, none⟩)] w fun e w' => ∃ b n, e = .returned (.bool b) ∧ Qim X f lk d K hf xs sb mb now t I L sn1 (hf c) (Value.slice sa sl sc).ownBlock w (.bool b) w' n ∧ (b = false → ∃ sn sa sl sc, WMem w' X f sn lk d K sb mb now t I L (sa, sl, sc) [] ∧ WInv X (Qbc K f t) hf I L sn1 sn [] false (hf c)) := by
  obtain ⟨mu, hmu⟩ := Jda
  have hl0 : sl = 0 := by have := hW.len; simpa using this.symm
  have HEN := Qpl X f sn1 lk d dt K sb mb now t I L sa sl sc [] w hW (by omega) HA HI c (hf c) hX (HH.out c) (HXH.out c hX)
  have HST := WInv.start (kids := Qbc K f t) (hf := hf) (r := hf c) hIL (fun q hq => (HKX.out q hq).1) HSM.out HLF.out (HXH.out c hX)
  have hnI : sn1 (hf c) ≠ I := fun e => by rcases HSM.out (hf c) (HXH.out c hX) with h | h <;> omega
  clear hW
  go_enter Tryz.func100, Tryz.ntmps100
  go_wp2_with fail
  refine HEN.mono ?_
  rintro e w1 ⟨b, rfl, hB1, hres⟩
  have hC : ∃ n, Qim X f lk d K hf xs sb mb now t I L sn1 (hf c) (Value.slice sa sl sc).ownBlock w (.bool b) w1 n := by
    rcases hres with ⟨h1, _⟩ | ⟨_, h2, rfl, hM⟩ | ⟨_, h2, rfl, ⟨s1, s2, s3⟩, x, hM, ho⟩
    · exact absurd h1 hnI
    · exact ⟨_, sn1, sa, sl, sc, [], false, rfl, hM, HST.1 h2, rfl, hB1, .inl rfl⟩
    · exact ⟨_, _, s1, s2, s3, _, false, rfl, hM, HST.2 h2 x, rfl, hB1, Qrz (z' := w.heap.size) (.inl rfl) (Nat.le_refl _) ho⟩
  clear HEN HST hB1 hres hnI
  go_wp2
  go_loopw [5] (fun v wr => ∃ n, Qim X f lk d K hf xs sb mb now t I L sn1 (hf c) (Value.slice sa sl sc).ownBlock w v wr n) (fun v wr => mu (fun n => Qim X f lk d K hf xs sb mb now t I L sn1 (hf c) (Value.slice sa sl sc).ownBlock w v wr n))
  case atStart => exact hC
  case round =>
    clear hC
    obtain ⟨n1, hn1⟩ := hrel
    obtain ⟨hn, hle⟩ := hmu _ _ hn1
    clear hn1 hle
    obtain ⟨M, hM⟩ : ∃ M, mu (fun n => Qim X f lk d K hf xs sb mb now t I L sn1 (hf c) (Value.slice sa sl sc).ownBlock w u5 wr n) = M := ⟨_, rfl⟩
    have HM : Hid (mu (fun n => Qim X f lk d K hf xs sb mb now t I L sn1 (hf c) (Value.slice sa sl sc).ownBlock w u5 wr n) = M) := hM
    rw [hM] at hn
    clear hM
    have HC : Hid (Qim X f lk d K hf xs sb mb now t I L sn1 (hf c) (Value.slice sa sl sc).ownBlock w u5 wr M) := hn
    obtain ⟨sn, sa1, sl1, sc1, P, closed, rfl, hW, hV, hn, hB, hO⟩ := hn
    obtain ⟨s0, s1, s2, s3, s4, s5, s6, s7⟩ := hW.blk.cell
    simp only at s5
    have hbl : P.length ≤ 900000 := by
      have h9 := List.Nodup.length_le_of_subset hV.nd (fun b hb => by
        obtain ⟨x, hx, rfl⟩ := List.mem_map.1 hb
        exact HXS.out _ (hV.inX x hx).1)
      simp only [List.length_map] at h9
      omega
    have hPl := hW.len
    simp only at hPl
    cases closed with
    | true =>
      clear hW hV hB hO HM
      go_wp2
      go_ret
      exact ⟨true, M, rfl, HC.out, fun h => by cases h⟩
    | false =>
      rcases List.eq_nil_or_concat P with rfl | ⟨P', x, rfl⟩
      · have hl9 : sl1 = 0 := by simpa using hPl.symm
        subst hl9
        have HFI : Hid (∃ sn sa sl sc, WMem wr X f sn lk d K sb mb now t I L (sa, sl, sc) [] ∧ WInv X (Qbc K f t) hf I L sn1 sn [] false (hf c)) := ⟨sn, sa1, 0, sc1, hW, hV⟩
        clear hW hV hB hO HM
        go_wp2
        go_ret
        exact ⟨false, M, rfl, HC.out, fun _ => HFI.out⟩
      · rw [List.concat_eq_append] at *
        obtain ⟨g, rfl, hsl1, hcap, t0, t1, tf, hgl, hgs, hgX⟩ := hW.top
        obtain ⟨h, ⟨ya, yl, yc⟩, rest⟩ := x
        simp only at t0 t1
        have hR := hW.rest (h, (ya, yl, yc), rest) (by simp)
        simp only at hR
        have hXh : X h := (hV.inX (h, (ya, yl, yc), rest) (by simp)).1
        obtain ⟨pl, hpl⟩ : ∃ pl, P'.length = pl := ⟨_, rfl⟩
        have HPL : Hid (P'.length = pl) := hpl
        rw [hpl] at t0 t1 tf hsl1
        subst hsl1
        have hplb : pl ≤ 900000 := by simp only [List.length_append, List.length_singleton] at hbl; omega
        go_wp2_with fail
        go_quiet (fail)
        have hW2 := hW.still ((But.refl (fun _ => False) wr).drewN nq)
        have hB2 := hB.drewN nq
        have hR2 := hR.but ((But.refl (fun _ => False) wr).drewN nq) (fun _ h => h.elim)
        obtain ⟨a0, a1, a2, a3, a4, a5, a6, a7, a8, a9, a10, a11, a12, a13⟩ := (hW2.sto.cells.at' h hXh).cell
        have fr := (hW2.sto.cells.at' h hXh).frozen 13
        have hhl := (hW2.sto.cells.at' h hXh).lt
        have hsh : sb ≠ h := fun e => hW2.sbX (e ▸ hXh)
        have hhs : h ≠ sb := fun e => hsh e.symm
        have hgh : g ≠ h := fun e => hgX (e ▸ hXh)
        have hhg : h ≠ g := fun e => hgh e.symm
        have hsg : sb ≠ g := fun e => hgs e.symm
        have b4 : (wr.drewN nq).cell? ⟨sb, 4, none⟩ = some (.int .i64 L) := s4
        have b5 : (wr.drewN nq).cell? ⟨sb, 5, none⟩ = some (.slice (some ⟨g, 0, none⟩) (pl + 1) sc1) := s5
        have bf : (wr.drewN nq).frozen? ⟨sb, 5, none⟩ = false := s6
        have bl : sb < (wr.drewN nq).heap.size := s7
        have d0 : (wr.drewN nq).cell? ⟨g, pl * 2, none⟩ = some (.pointer (some ⟨h, 0, none⟩)) := t0
        have d1 : (wr.drewN nq).cell? ⟨g, pl * 2 + 1, none⟩ = some (.slice ya yl yc) := t1
        have df : (wr.drewN nq).frozen? ⟨g, pl * 2 + 1, none⟩ = false := tf
        have dl : g < (wr.drewN nq).heap.size := hgl
        clear s0 s1 s2 s3 s4 s5 s6 s7 t0 t1 tf hgl hW hB hR a0 a1 a2 a3 a4 a5 a6 a7 a8 a9 a10 a11 a12 hPl
        generalize hWw : wr.drewN nq = W at *
        cases rest with
        | nil =>
          have hy0 : yl = 0 := by have := hR2.1; simpa using this
          subst hy0
          obtain ⟨hV2, hdec⟩ := hV.pop (xs := xs) hIL
          have hM3 := ((hW2.mark hXh L).pop)
          have hBw : But (fun i => X i ∨ i = sb ∨ (Value.slice sa sl sc).ownBlock = some i) w ((W.setCell ⟨h, 13, none⟩ (.int .i64 L)).setCell ⟨sb, 5, none⟩ (.slice (some ⟨g, 0, none⟩) pl sc1)).drew.drew := (((hB2.setCell (p := ⟨h, 13, none⟩) (.inl hXh) _).setCell (p := ⟨sb, 5, none⟩) (.inr (.inl rfl)) _).drew).drew
          have HNEXT : Hid (Qim X f lk d K hf xs sb mb now t I L sn1 (hf c) (Value.slice sa sl sc).ownBlock w (.bool false) ((W.setCell ⟨h, 13, none⟩ (.int .i64 L)).setCell ⟨sb, 5, none⟩ (.slice (some ⟨g, 0, none⟩) pl sc1)).drew.drew (todo xs I L (Qcb sn h L) P')) :=
            ⟨_, some ⟨g, 0, none⟩, pl, sc1, P', false, rfl, hM3.still (((But.refl (fun _ => False) _).drew).drew), hV2, rfl, hBw, hO⟩
          have hdec2 : todo xs I L (Qcb sn h L) P' < M := by rw [hn]; exact hdec
          clear hR2 hV hW2 hM3 hV2 hB2 hBw hO hdec
          go_wp2_with fail
          go_region
          go_wp2_with fail
          go_region
          go_wp2
          go_roundw
          case rel => exact ⟨_, HNEXT.out⟩
          case measure =>
            refine Nat.lt_of_le_of_lt (hmu (fun n => Qim X f lk d K hf xs sb mb now t I L sn1 (hf c) (Value.slice sa sl sc).ownBlock w (.bool false) _ n) _ HNEXT.out).2 ?_
            rw [← HM.out] at hdec2
            exact hdec2
        | cons k rest =>
          obtain ⟨gk, ok, rfl, hyl, hyc, hgkl, hkc, htail⟩ := hR2.tail
          have hXk : X k := (hV.inX (h, (some ⟨gk, ok, none⟩, yl, yc), k :: rest) (by simp)).2 k (by simp)
          have hXq := HXH.out k hXk
          have hrl : rest.length ≤ 20000 := by have := hR2.2.1; simp only [List.length_cons] at this; omega
          subst hyl
          obtain ⟨so', hso, hsod⟩ : ∃ so' : Option Addr, (so' = some ⟨gk, ok + 1, none⟩ ∨ rest = []) ∧ so' = (if yc = 1 then some ⟨gk, ok, none⟩ else some ⟨gk, ok + 1, none⟩) := by
            by_cases h9 : yc = 1
            · exact ⟨some ⟨gk, ok, none⟩, .inr (List.eq_nil_of_length_eq_zero (by omega)), by rw [if_pos h9]⟩
            · exact ⟨some ⟨gk, ok + 1, none⟩, .inl rfl, by rw [if_neg h9]⟩
          have hrest := htail so' hso
          have hM3 := hW2.setRest (y := (so', rest.length + 1 - 1, yc - 1)) hrest
          rw [hpl] at hM3
          simp only at hM3
          have HEN := Qpl X f sn lk d dt K sb mb now t I L _ _ _ _ _ hM3 (by omega) HA HI k (hf k) hXk (HH.out k) hXq
          have HNX : Hid (∀ w7 b', Jbk X f sn lk d K sb mb now t I L (some ⟨g, 0, none⟩, pl + 1, sc1) (P' ++ [(h, (so', rest.length + 1 - 1, yc - 1), rest)]) (hf k) (W.setCell ⟨g, pl * 2 + 1, none⟩ (.slice so' (rest.length + 1 - 1) (yc - 1))) b' w7 → ∃ n', n' < M ∧ Qim X f lk d K hf xs sb mb now t I L sn1 (hf c) (Value.slice sa sl sc).ownBlock w (.bool b') w7 n') := by
            rintro w7 b' ⟨hb7, hres7⟩
            have hB3 : But (fun i => X i ∨ i = sb ∨ (Value.slice sa sl sc).ownBlock = some i) w (W.setCell ⟨g, pl * 2 + 1, none⟩ (.slice so' (rest.length + 1 - 1) (yc - 1))) :=
              Qnd hB2 hO ((But.refl (fun i => X i ∨ i = sb ∨ (Value.slice (some ⟨g, 0, none⟩) (pl + 1) sc1).ownBlock = some i) W).setCell (p := ⟨g, pl * 2 + 1, none⟩) (.inr (.inr rfl)) _)
            have hB7 := Qnd hB3 hO hb7
            rcases hres7 with ⟨h1, rfl, hM7⟩ | ⟨_, h2, rfl, hM7⟩ | ⟨h1, h2, rfl, ⟨s1, s2, s3⟩, x, hM7, ho⟩
            · have hV7 := hV.circle (z := (so', rest.length + 1 - 1, yc - 1)) h1 hXq
              refine ⟨_, ?_, sn, some ⟨g, 0, none⟩, pl + 1, sc1, _, true, rfl, hM7, hV7, rfl, hB7, hO⟩
              rw [hn]
              unfold todo
              simp
            · obtain ⟨hV7, hd⟩ := hV.skip (xs := xs) (z := (so', rest.length + 1 - 1, yc - 1)) h2 hXq
              exact ⟨_, by rw [hn]; exact hd, sn, some ⟨g, 0, none⟩, pl + 1, sc1, _, false, rfl, hM7, hV7, rfl, hB7, hO⟩
            · obtain ⟨hV7, hd⟩ := hV.push (xs := xs) (z := (so', rest.length + 1 - 1, yc - 1)) (v := x) hIL hXq (HKX.out _ hXq).1 (HKX.out _ hXq).2 h1 h2 HXS.out
              exact ⟨_, by rw [hn]; exact hd, _, s1, s2, s3, _, false, rfl, hM7, hV7, rfl, hB7, Qrz hO (by have := hB3.size; exact this) ho⟩
          clear htail hso hrest hM3 hR2 hV hW2 hB2 hO hn
          by_cases h9 : yc = 1
          · rw [if_pos h9] at hsod
            subst hsod
            subst h9
            obtain rfl : rest = [] := List.eq_nil_of_length_eq_zero (by omega)
            go_wp2_with fail
            refine HEN.mono ?_
            rintro e w7 ⟨b', rfl, hres7⟩
            obtain ⟨n', hn', hC'⟩ := HNX.out w7 b' hres7
            clear HEN HNX hres7
            go_wp2
            go_roundw
            case rel => exact ⟨_, hC'⟩
            case measure =>
              refine Nat.lt_of_le_of_lt (hmu (fun n => Qim X f lk d K hf xs sb mb now t I L sn1 (hf c) (Value.slice sa sl sc).ownBlock w (.bool b') _ n) _ hC').2 ?_
              rw [← HM.out] at hn'
              exact hn'
          · rw [if_neg h9] at hsod
            subst hsod
            rw [Nat.add_sub_cancel] at HEN HNX
            go_wp2_with fail
            refine HEN.mono ?_
            rintro e w7 ⟨b', rfl, hres7⟩
            obtain ⟨n', hn', hC'⟩ := HNX.out w7 b' hres7
            clear HEN HNX hres7
            go_wp2
            go_roundw
            case rel => exact ⟨_, hC'⟩
            case measure =>
              refine Nat.lt_of_le_of_lt (hmu (fun n => Qim X f lk d K hf xs sb mb now t I L sn1 (hf c) (Value.slice sa sl sc).ownBlock w (.bool b') _ n) _ hC').2 ?_
              rw [← HM.out] at hn'
              exact hn'
end Go.Proofs.YtoiiibplkhedcaaGreatDoor

import Derived.Test.YtahdmflbdmlfhaaGreatDoorWAS
import Derived.Test.YtahdmflbdmlfhaaGreatDoorWAT
import Derived.Test.YtahdmflbdmlfhaaGreatDoorWAH
import Derived.Test.YtahdmflbdmlfhaaGreatDoorWAP
namespace Go.Proofs.YtahdmflbdmlfhaaGreatDoor

open Go.RowKit Go.Maps

/-- A walk begins anew. -/
theorem WMem.reset {w : World} {X : Nat → Prop} {f : Nat → CC} {sn : Nat → Int} {lk : Nat → Option Nat} {d : Nat → Nat} {K : (Option Addr × Nat × Nat) → List Nat} {sb mb : Nat} {now t0 I0 L0 : Int} {sa : Option Addr} {sl sc : Nat} {P0 : List PSt} (h : WMem w X f sn lk d K sb mb now t0 I0 L0 (sa, sl, sc) P0) (t I L : Int) : WMem ((((w.setCell ⟨sb, 2, none⟩ (.int .i64 t)).setCell ⟨sb, 3, none⟩ (.int .i64 I)).setCell ⟨sb, 4, none⟩ (.int .i64 L)).setCell ⟨sb, 5, none⟩ (.slice sa 0 sc)) X f sn lk d K sb mb now t I L (sa, 0, sc) [] := by
  have hb : But (· = sb) w ((((w.setCell ⟨sb, 2, none⟩ (.int .i64 t)).setCell ⟨sb, 3, none⟩ (.int .i64 I)).setCell ⟨sb, 4, none⟩ (.int .i64 L)).setCell ⟨sb, 5, none⟩ (.slice sa 0 sc)) := ((((But.refl (· = sb) w).setCell (p := ⟨sb, 2, none⟩) rfl _).setCell (p := ⟨sb, 3, none⟩) rfl _).setCell (p := ⟨sb, 4, none⟩) rfl _).setCell (p := ⟨sb, 5, none⟩) rfl _
  have hty : ∀ cur, w.heap[sb]? ≠ some (.cells cur 100 (0, 0)) := by
    intro cur e
    have h9 := h.blk
    unfold SBlk at h9
    rw [h9] at e
    simp at e
  refine ⟨h.sto.aside hb h.sbX hty, ?_, ?_, rfl, by simp⟩
  · have h1 := heap_setCell_same w sb 2 _ 98 (.int .i64 t) h.blk
    have h2 := heap_setCell_same _ sb 3 _ 98 (.int .i64 I) h1
    have h3 := heap_setCell_same _ sb 4 _ 98 (.int .i64 L) h2
    have h4 := heap_setCell_same _ sb 5 _ 98 (.slice sa 0 sc) h3
    simpa [SBlk] using h4
  · refine owns_butV ?_ hb (fun g hg e => ?_)
    · rcases h.row.2 with ⟨e, _⟩ | ⟨g, cap, cur, e, _⟩
      · simp only [Value.slice.injEq] at e
        obtain ⟨e1, _, e3⟩ := e
        exact ⟨rfl, .inl ⟨by simp only; rw [e1, e3], rfl⟩⟩
      · simp only [Value.slice.injEq] at e
        obtain ⟨e1, _, _⟩ := e
        have h9 := h.row
        simp only at h9
        rw [e1] at h9 ⊢
        have h8 := owns_take h9 0 (Nat.zero_le _)
        simpa [pstCells] using h8
    · cases hsa : sa with
      | none => rw [hsa] at hg; cases hg
      | some ad =>
        rw [hsa] at hg
        simp only [Value.ownBlock, Option.some.injEq] at hg
        exact (h.ownX (g := g) (by simp only; rw [hsa]; simp only [Value.ownBlock, hg])).2.1 e

/-- Something is written into a block that is none of the walk's. -/
theorem WMem.aside {w w' : World} {X : Nat → Prop} {f : Nat → CC} {sn : Nat → Int} {lk : Nat → Option Nat} {d : Nat → Nat} {K : (Option Addr × Nat × Nat) → List Nat} {sb mb : Nat} {now t I L : Int} {s : Option Addr × Nat × Nat} {P : List PSt} (h : WMem w X f sn lk d K sb mb now t I L s P) {z : Nat} (hb : But (· = z) w w') (hz : ∀ cs t f, w.heap[z]? ≠ some (.cells cs t f)) : WMem w' X f sn lk d K sb mb now t I L s P := by
  have hzX : ¬ X z := fun hx => hz _ _ _ (h.sto.cells.at' z hx)
  have hzs : z ≠ sb := fun e => hz _ _ _ (e ▸ h.blk)
  refine ⟨h.sto.aside hb hzX (fun cur => hz cur _ _), (hb.block sb (Array.getElem?_eq_some_iff.1 h.blk).1 (fun e => hzs e.symm)).trans h.blk, owns_butV h.row hb (fun g hg e => ?_), h.len, fun x hx => (h.rest x hx).but hb (fun g e cur => by rw [e]; exact hz cur _ _)⟩
  obtain ⟨cur, hc⟩ := h.own hg
  rw [e] at hc
  exact hz _ _ _ hc

theorem SBlk.inj {w : World} {sb mb mb' : Nat} {now now' t t' I I' L L' : Int} {s s' : Option Addr × Nat × Nat} (h : SBlk w sb mb now t I L s) (h' : SBlk w sb mb' now' t' I' L' s') : s = s' := by
  unfold SBlk at h h'
  rw [h] at h'
  simp only [Option.some.injEq, Obj.cells.injEq, and_true] at h'
  have e := congrArg Array.toList h'
  simp only [List.cons.injEq, Value.slice.injEq, and_true] at e
  obtain ⟨_, _, _, _, _, e1, e2, e3⟩ := e
  exact Prod.ext e1 (Prod.ext e2 e3)

theorem OwnNew.trans {o0 o1 : Option Nat} {z z1 : Nat} {s s1 : Option Addr × Nat × Nat} (h : OwnNew o0 z s1) (ho : o1 = (Value.slice s1.1 s1.2.1 s1.2.2).ownBlock) (h1 : OwnNew o1 z1 s) (hz : z ≤ z1) : OwnNew o0 z s := by
  rcases h1 with h1 | ⟨g, hg, hl⟩
  · rcases h with h | ⟨g, hg, hl⟩
    · exact .inl (h1.trans (ho.trans h))
    · exact .inr ⟨g, h1.trans (ho.trans hg), hl⟩
  · exact .inr ⟨g, hg, by omega⟩

/-- What hasCircle leaves. -/
def HCRes (X : Nat → Prop) (f : Nat → CC) (lk : Nat → Option Nat) (d : Nat → Nat) (K : (Option Addr × Nat × Nat) → List Nat) (hf : Nat → Nat) (sb mb n : Nat) (now t L0 : Int) (o0 : Option Nat) (U : Int → Int → Option Nat) (D : DataW Value) (w : World) (b : Bool) (w' : World) : Prop :=
  But (fun i => X i ∨ i = sb ∨ o0 = some i) w w' ∧ w'.ownsMap Tryz.prog 108 heldP mb n D ∧ (∃ sn sa sl sc P, WMem w' X f sn lk d K sb mb now t (L0 + 1) (L0 + 1 + 1) (sa, sl, sc) P ∧ (∀ b, X b → sn b ≤ L0 + 1 + 1) ∧ OwnNew o0 w.heap.size (sa, sl, sc)) ∧
    (b = true → ∃ lv nu c x, U lv nu = some c ∧ Downs (kidsT K f t) hf (hf c) x ∧ Downs (kidsT K f t) hf x x) ∧ (b = false → ∃ (Lf : Nat → Prop) (rk : Nat → Nat), LeftOk (kidsT K f t) hf Lf rk ∧ ∀ lv nu c, (Lit.int .i64 lv).wf = true → (Lit.int .i64 nu).wf = true → U lv nu = some c → Lf (hf c))

set_option maxRecDepth 20000 in
set_option maxHeartbeats 4000000 in
theorem hasCircle_any (X : Nat → Prop) (f : Nat → CC) (sn0 : Nat → Int) (lk : Nat → Option Nat) (d dt : Nat → Nat) (K : (Option Addr × Nat × Nat) → List Nat) (hf : Nat → Nat) (xs : List Nat) (sb mb n : Nat) (now t t0 I0 L0 : Int) (h0 : 0 ≤ L0) (hL : L0 ≤ 1000000) (sa : Option Addr) (sl sc : Nat) (P0 : List PSt) (U : Int → Int → Option Nat) (D : DataW Value) (w : World) (hW : WMem w X f sn0 lk d K sb mb now t0 I0 L0 (sa, sl, sc) P0) (hown : w.ownsMap Tryz.prog 108 heldP mb n D) (HUD : Hid (UD U D)) (HUX : Hid (∀ l x b, U l x = some b → X b)) (HA : Hid (Acyc (tdAt Classical.propDecidable X f t) dt)) (HI : Hid (∀ b j, X b → (f b).td = some j → X j)) (HH : Hid (∀ k, Hd (tdAt Classical.propDecidable X f t) k (hf k))) (HXH : Hid (∀ k, X k → X (hf k))) (HKX : Hid (∀ q, X q → (∀ k ∈ kidsT K f t q, X k) ∧ (kidsT K f t q).length ≤ 20000)) (HXS : Hid (∀ b, X b → b ∈ xs)) (hxs : xs.length ≤ 900000)
    (HSM : Hid (∀ b, X b → sn0 b ≤ L0)) :
    Calls Tryz.prog 43 #[.pointer (some ⟨sb, 0, none⟩), .int .i64 t] w fun e w' => ∃ b, e = .returned (.bool b) ∧ HCRes X f lk d K hf sb mb n now t L0 (Value.slice sa sl sc).ownBlock U D w b w' := by
  obtain ⟨s0, s1, s2, s3, s4, s5, s6, s7⟩ := hW.blk.cell
  simp only at s5
  have f2 : w.frozen? ⟨sb, 2, none⟩ = false := frozen_of_row w sb 2 _ 98 hW.blk
  have f3 : w.frozen? ⟨sb, 3, none⟩ = false := frozen_of_row w sb 3 _ 98 hW.blk
  have f4 : w.frozen? ⟨sb, 4, none⟩ = false := frozen_of_row w sb 4 _ 98 hW.blk
  have hWr := hW.reset t (L0 + 1) (L0 + 1 + 1)
  have hbr : But (· = sb) w ((((w.setCell ⟨sb, 2, none⟩ (.int .i64 t)).setCell ⟨sb, 3, none⟩ (.int .i64 (L0 + 1))).setCell ⟨sb, 4, none⟩ (.int .i64 (L0 + 1 + 1))).setCell ⟨sb, 5, none⟩ (.slice sa 0 sc)) := ((((But.refl (· = sb) w).setCell (p := ⟨sb, 2, none⟩) rfl _).setCell (p := ⟨sb, 3, none⟩) rfl _).setCell (p := ⟨sb, 4, none⟩) rfl _).setCell (p := ⟨sb, 5, none⟩) rfl _
  have hmsb : mb ≠ sb := by
    intro e
    obtain ⟨es, clock, h1, _⟩ := hown
    have h9 := hW.blk
    unfold SBlk at h9
    rw [← e, h1] at h9
    cases h9
  have hownr := ownsMap_but hown hbr hmsb
  have hzr : ((((w.setCell ⟨sb, 2, none⟩ (.int .i64 t)).setCell ⟨sb, 3, none⟩ (.int .i64 (L0 + 1))).setCell ⟨sb, 4, none⟩ (.int .i64 (L0 + 1 + 1))).setCell ⟨sb, 5, none⟩ (.slice sa 0 sc)).heap.size = w.heap.size := by simp only [size_setCell]
  have HBR : Hid (But (fun i => X i ∨ i = sb ∨ (Value.slice sa sl sc).ownBlock = some i) w ((((w.setCell ⟨sb, 2, none⟩ (.int .i64 t)).setCell ⟨sb, 3, none⟩ (.int .i64 (L0 + 1))).setCell ⟨sb, 4, none⟩ (.int .i64 (L0 + 1 + 1))).setCell ⟨sb, 5, none⟩ (.slice sa 0 sc))) := hbr.mono (fun i e => .inr (.inl e))
  have HOW : Hid ((Value.slice sa 0 sc).ownBlock = (Value.slice sa sl sc).ownBlock) := by
    show (Value.slice sa 0 sc).ownBlock = _
    cases sa <;> rfl
  clear hW hown hbr
  go_enter Tryz.func43, Tryz.ntmps43
  go_wp2_with (first
    | (at_range; refine wpList_range_own _ rfl _ 93 rfl 108 100 lawU Tryz.underlying93 heldP mb n D rfl hownr ?_; intro w5 hrg0 hg0 hs0)
    | go_in)
  (try go_frame)
  have hB5 : But (fun _ => False) ((((w.setCell ⟨sb, 2, none⟩ (.int .i64 t)).setCell ⟨sb, 3, none⟩ (.int .i64 (L0 + 1))).setCell ⟨sb, 4, none⟩ (.int .i64 (L0 + 1 + 1))).setCell ⟨sb, 5, none⟩ (.slice sa 0 sc)) w5 := ⟨hg0.os, hg0.tape, hg0.output, hg0.size, fun k hk _ => hg0.block k hk (by simp)⟩
  have hW5 := hWr.still hB5
  have hBw5 : But (fun i => X i ∨ i = sb ∨ (Value.slice sa sl sc).ownBlock = some i) w w5 := HBR.out.trans (hB5.mono (fun _ h => h.elim))
  rw [hzr] at hrg0
  (try rw [hzr])
  clear hB5 hg0 hs0 hownr hWr HBR hzr s0 s1 s2 s3 s4 s5 s6 f2 f3 f4
  go_loopw [] (fun wr => ∃ (left : Lit → Bool) (cnt : Nat) (sn : Nat → Int) (sa' : Option Addr) (sl' sc' : Nat), wr.ranges Tryz.prog 108 heldP mb w.heap.size n D left cnt ∧ WMem wr X f sn lk d K sb mb now t (L0 + 1) (L0 + 1 + 1) (sa', sl', sc') [] ∧ (∀ b, X b → sn b = L0 + 1 + 1 ∨ sn b < L0 + 1) ∧ (∃ rk, LeftOk (kidsT K f t) hf (fun b => X b ∧ sn b = L0 + 1 + 1) rk) ∧ (∀ lv nu c, (Lit.int .i64 lv).wf = true → (Lit.int .i64 nu).wf = true → U lv nu = some c → left (kU lv nu) = false → sn (hf c) = L0 + 1 + 1) ∧ But (fun i => X i ∨ i = sb ∨ (Value.slice sa sl sc).ownBlock = some i) w wr ∧ OwnNew (Value.slice sa sl sc).ownBlock w.heap.size (sa', sl', sc')) (fun wr => wr.rangeLeft mb w.heap.size)
  case atStart =>
    refine ⟨_, _, sn0, sa, 0, sc, hrg0, hW5, fun b hb => .inr (by have := HSM.out b hb; omega), ⟨fun _ => 0, ⟨fun q hq => ?_⟩⟩, fun lv nu c h1 h2 hu hl => ?_, hBw5, .inl HOW.out⟩
    · have h9 := HSM.out q hq.1
      have h8 := hq.2
      omega
    · have h9 := (HUD.out.2 lv nu h1 h2).1
      rw [hl, hu] at h9
      cases h9
  case round =>
    clear hrg0 hW5 hBw5
    obtain ⟨left, cnt, sn, sa1, sl1, sc1, hrg, hW, hsm, hlf, hvis, hB, hO⟩ := hrel
    have hinvK : ∀ key kl, keyOf Tryz.prog 108 key = some kl → ∃ x : Int × Int, key = (fun x : Int × Int => Value.agg #[.int .i64 x.1, .int .i64 x.2]) x := fun key kl hk => by obtain ⟨x, hx, _⟩ := keyU_inv hk; exact ⟨x, hx⟩
    have hinvV : ∀ v y, heldP v = some y → ∃ q : Option Addr, v = Value.pointer q := fun v y hv => by
      cases v <;> first | exact ⟨_, rfl⟩ | (simp [heldP] at hv)
    go_wp2_with (first
      | (at_next; refine wpList_next_ranges _ rfl _ rfl 108 lawU heldP (fun x : Int × Int => Value.agg #[.int .i64 x.1, .int .i64 x.2]) Value.pointer hinvK hinvV mb w.heap.size n D left cnt rfl hrg ?_ ?_)
      | go_in)
    · intro hc0 hl0
      have HRES : Hid (HCRes X f lk d K hf sb mb n now t L0 (Value.slice sa sl sc).ownBlock U D w false wr) := by
        obtain ⟨rk, hrk⟩ := hlf
        refine ⟨hB, hrg.owns, ⟨sn, sa1, sl1, sc1, [], hW, fun b hb => by rcases hsm b hb with h | h <;> omega, hO⟩, (fun h => by cases h), fun _ => ⟨_, rk, hrk, fun lv nu c h1 h2 hu => ⟨HXH.out c (HUX.out lv nu c hu), hvis lv nu c h1 h2 hu (by rw [hl0])⟩⟩⟩
      clear hinvK hinvV hrg hW hsm hlf hvis hB hO hl0
      go_wp2
      go_ret
      exact ⟨false, rfl, HRES.out⟩
    · intro lv nu q kl yd yp w6 cnt6 hkey hleft hv hat hrg6 hlt6 hg6 hs6 hen
      obtain ⟨⟨lv', nu'⟩, ex, wl, wn, rfl⟩ := keyU_inv hkey
      obtain ⟨rfl, rfl⟩ : lv = lv' ∧ nu = nu' := by
        simp only [Value.agg.injEq] at ex
        have e9 := congrArg Array.toList ex
        simpa using e9
      simp only at wl wn hrg6 hleft hat
      have hyd := heldP_inv hv
      simp only [Prod.mk.injEq] at hyd
      obtain ⟨rfl, rfl⟩ := hyd
      have hhas : Maps.has D (kU lv nu) = true := Maps.has_true_of_atKey hat
      obtain ⟨hu1, hu2⟩ := HUD.out.2 lv nu wl wn
      rw [hhas] at hu1
      obtain ⟨b, hUb⟩ := Option.isSome_iff_exists.1 hu1.symm
      have hq : q = some ⟨b, 0, none⟩ := by
        have h9 := (hat (.held (.pointer none))).symm.trans hu2
        rw [hUb] at h9
        simpa [ptr] using h9
      subst hq
      have hXb : X b := HUX.out lv nu b hUb
      have hrk := ranges_kind hrg
      have hbut6 : But (· = w.heap.size) wr w6 := but_grownP hg6
      have hW6 := hW.aside hbut6 hrk.1
      have hB6 : But (fun i => X i ∨ i = sb ∨ (Value.slice sa sl sc).ownBlock = some i) w w6 := ⟨hbut6.os.trans hB.os, hbut6.tape.trans hB.tape, hbut6.output.trans hB.output, Nat.le_trans hB.size hbut6.size, fun i hi hn => (hbut6.block i (by have := hB.size; omega) (by omega)).trans (hB.block i hi hn)⟩
      have HCL := closes_any X f sn lk d dt K hf xs sb mb now t (L0 + 1) (L0 + 1 + 1) (by omega) sa1 sl1 sc1 w6 hW6 HA HI HH HXH HKX HXS hxs hsm hlf b hXb
      have hm7 : wr.rangeLeft mb w.heap.size = cnt := hrg.left_eq
      obtain ⟨u0, _, _, _, _, _, _, u7⟩ := hW6.blk.cell
      have HNX : Hid (∀ w7 b7 n7, CLoop X f lk d K hf xs sb mb now t (L0 + 1) (L0 + 1 + 1) sn (hf b) (Value.slice sa1 sl1 sc1).ownBlock w6 (.bool b7) w7 n7 → (b7 = false → ∃ sn2 sa sl sc, WMem w7 X f sn2 lk d K sb mb now t (L0 + 1) (L0 + 1 + 1) (sa, sl, sc) [] ∧ WInv X (kidsT K f t) hf (L0 + 1) (L0 + 1 + 1) sn sn2 [] false (hf b)) →
          (b7 = true → HCRes X f lk d K hf sb mb n now t L0 (Value.slice sa sl sc).ownBlock U D w true w7) ∧ (b7 = false → ∃ (sn2 : Nat → Int) (sa' : Option Addr) (sl' sc' : Nat), w7.ranges Tryz.prog 108 heldP mb w.heap.size n D (fun z => left z && !z.sameKey (kU lv nu)) cnt6 ∧ WMem w7 X f sn2 lk d K sb mb now t (L0 + 1) (L0 + 1 + 1) (sa', sl', sc') [] ∧ (∀ b, X b → sn2 b = L0 + 1 + 1 ∨ sn2 b < L0 + 1) ∧ (∃ rk, LeftOk (kidsT K f t) hf (fun b => X b ∧ sn2 b = L0 + 1 + 1) rk) ∧ (∀ lv' nu' c, (Lit.int .i64 lv').wf = true → (Lit.int .i64 nu').wf = true → U lv' nu' = some c → (left (kU lv' nu') && !(kU lv' nu').sameKey (kU lv nu)) = false → sn2 (hf c) = L0 + 1 + 1) ∧ But (fun i => X i ∨ i = sb ∨ (Value.slice sa sl sc).ownBlock = some i) w w7 ∧ OwnNew (Value.slice sa sl sc).ownBlock w.heap.size (sa', sl', sc'))) := by
        rintro w7 b7 n7 ⟨snx, sax, slx, scx, Px, clx, ecl, hWx, hVx, _, hBx, hOx⟩ hfin
        simp only [Value.bool.injEq] at ecl
        subst ecl
        have hO7 : OwnNew (Value.slice sa sl sc).ownBlock w.heap.size (sax, slx, scx) := hO.trans rfl hOx hB6.size
        have hB7 : But (fun i => X i ∨ i = sb ∨ (Value.slice sa sl sc).ownBlock = some i) w w7 := but_own hB6 hO hBx
        have hno : ∀ q, (∀ cs t f, w6.heap[q]? ≠ some (.cells cs t f)) → ¬ (X q ∨ q = sb ∨ (Value.slice sa1 sl1 sc1).ownBlock = some q) := by
          rintro q hq (h9 | h9 | h9)
          · exact hq _ _ _ (hW6.sto.cells.at' q h9)
          · exact hq _ _ _ (h9 ▸ hW6.blk)
          · obtain ⟨cur, hc⟩ := hW6.own h9
            exact hq _ _ _ hc
        have hrk6 := ranges_kind hrg6
        have hrg7 := ranges_but hrg6 hBx (hno mb hrk6.2) (hno w.heap.size hrk6.1)
        refine ⟨fun e => ?_, fun e => ?_⟩
        · subst e
          exact ⟨hB7, hrg7.owns, ⟨snx, sax, slx, scx, Px, hWx, fun b hb => by rcases hVx.small b hb with h | h | h <;> omega, hO7⟩, fun _ => by obtain ⟨x, y1, y2⟩ := hVx.yes rfl; exact ⟨lv, nu, b, x, hUb, y1, y2⟩, (fun h => by cases h)⟩
        · obtain ⟨sn2, sa2, sl2, sc2, hW2, hV2⟩ := hfin e
          have es : ((sax, slx, scx) : Option Addr × Nat × Nat) = (sa2, sl2, sc2) := hWx.blk.inj hW2.blk
          rw [es] at hO7
          obtain ⟨_, p2, p3⟩ := hV2.no rfl
          refine ⟨sn2, sa2, sl2, sc2, hrg7, hW2, fun b hb => ?_, p2, fun lv' nu' c h1 h2 hu hl => ?_, hB7, hO7⟩
          · rcases hV2.small b hb with h | h | h
            · have := (hV2.ins b hb).1 h
              simp at this
            · exact .inl h
            · exact .inr h
          · by_cases hs : lv' = lv ∧ nu' = nu
            · obtain ⟨rfl, rfl⟩ := hs
              rw [hUb] at hu
              cases hu
              rcases p3 with p3 | p3
              · simp at p3
              · exact p3.2
            · have h9 := kU_same h1 h2 wl wn
              rw [decide_eq_false hs] at h9
              rw [h9] at hl
              simp only [Bool.not_false, Bool.and_true] at hl
              exact hV2.keep _ (HXH.out c (HUX.out lv' nu' c hu)) (hvis lv' nu' c h1 h2 hu hl)
      clear ex hinvK hinvV hkey hv hat hu1 hu2 hhas hrk hbut6 hrg6 hg6 hrg hW hW6 hsm hlf hvis hB hB6 hO
      go_wp2_with fail
      refine HCL.mono ?_
      rintro e w7 ⟨b7, n7, rfl, hC7, hf7⟩
      obtain ⟨hT, hF⟩ := HNX.out w7 b7 n7 hC7 hf7
      clear HCL HNX hC7 hf7
      cases b7 with
      | true =>
        have HRES := hT rfl
        clear hT hF
        go_wp2
        go_ret
        exact ⟨true, rfl, HRES⟩
      | false =>
        obtain ⟨sn2, sa2, sl2, sc2, hrg7, hrest⟩ := hF rfl
        clear hT hF
        go_wp2
        go_roundw
        case rel => exact ⟨_, cnt6, sn2, sa2, sl2, sc2, hrg7, hrest⟩
        case measure => rw [hrg7.left_eq, hm7]; exact hlt6

/-- What a store is in memory between two walks. -/
def JW (X : Nat → Prop) (f : Nat → CC) (lk : Nat → Option Nat) (d : Nat → Nat) (K : (Option Addr × Nat × Nat) → List Nat) (sb mb n : Nat) (now : Int) (o0 : Option Nat) (D : DataW Value) (w : World) (m : Int) (w' : World) : Prop :=
  But (fun i => X i ∨ i = sb ∨ o0 = some i) w w' ∧ w'.ownsMap Tryz.prog 108 heldP mb n D ∧ ∃ sn sa sl sc P t0 I0 L0, WMem w' X f sn lk d K sb mb now t0 I0 L0 (sa, sl, sc) P ∧ (∀ b, X b → sn b ≤ L0) ∧ 0 ≤ L0 ∧ L0 ≤ m ∧ OwnNew o0 w.heap.size (sa, sl, sc)

/-- There is a circle, and there is none. -/
def Cyc (U : Int → Int → Option Nat) (K : (Option Addr × Nat × Nat) → List Nat) (f : Nat → CC) (hf : Int → Nat → Nat) (t : Int) : Prop := ∃ lv nu c x, U lv nu = some c ∧ Downs (kidsT K f t) (hf t) (hf t c) x ∧ Downs (kidsT K f t) (hf t) x x

def NoCyc (K : (Option Addr × Nat × Nat) → List Nat) (f : Nat → CC) (hf : Int → Nat → Nat) (U : Int → Int → Option Nat) (t : Int) : Prop := ∃ (Lf : Nat → Prop) (rk : Nat → Nat), LeftOk (kidsT K f t) (hf t) Lf rk ∧ ∀ lv nu c, (Lit.int .i64 lv).wf = true → (Lit.int .i64 nu).wf = true → U lv nu = some c → Lf (hf t c)

theorem hasCircle_J (X : Nat → Prop) (f : Nat → CC) (lk : Nat → Option Nat) (d : Nat → Nat) (dt : Int → Nat → Nat) (K : (Option Addr × Nat × Nat) → List Nat) (hf : Int → Nat → Nat) (xs : List Nat) (sb mb n : Nat) (now : Int) (o0 : Option Nat) (U : Int → Int → Option Nat) (D : DataW Value) (w : World) (HUD : Hid (UD U D)) (HUX : Hid (∀ l x b, U l x = some b → X b)) (HA : Hid (∀ t, Acyc (tdAt Classical.propDecidable X f t) (dt t))) (HI : Hid (∀ b j, X b → (f b).td = some j → X j)) (HH : Hid (∀ t k, Hd (tdAt Classical.propDecidable X f t) k (hf t k))) (HXH : Hid (∀ t k, X k → X (hf t k))) (HKX : Hid (∀ t q, X q → (∀ k ∈ kidsT K f t q, X k) ∧ (kidsT K f t q).length ≤ 20000)) (HXS : Hid (∀ b, X b → b ∈ xs)) (hxs : xs.length ≤ 900000)
    (m : Int) (hm : m ≤ 1000000) (w' : World) (hJ : JW X f lk d K sb mb n now o0 D w m w') (t : Int) :
    Calls Tryz.prog 43 #[.pointer (some ⟨sb, 0, none⟩), .int .i64 t] w' fun e w2 => ∃ b, e = .returned (.bool b) ∧ JW X f lk d K sb mb n now o0 D w (m + 2) w2 ∧ (b = true → Cyc U K f hf t) ∧ (b = false → NoCyc K f hf U t) := by
  obtain ⟨hB, hO, sn, sa, sl, sc, P, t0, I0, L0, hW, hsn, h0, hL, hOw⟩ := hJ
  refine (hasCircle_any X f sn lk d (dt t) K (hf t) xs sb mb n now t t0 I0 L0 h0 (by omega) sa sl sc P U D w' hW hO HUD HUX (HA.out t) HI (HH.out t) (HXH.out t) (HKX.out t) HXS hxs hsn).mono ?_
  rintro e w2 ⟨b, rfl, hB2, hO2, ⟨sn2, sa2, sl2, sc2, P2, hW2, hsn2, hOw2⟩, hT, hF⟩
  exact ⟨b, rfl, ⟨but_own hB hOw hB2, hO2, sn2, sa2, sl2, sc2, P2, _, _, _, hW2, hsn2, by omega, by omega, hOw.trans rfl hOw2 hB.size⟩, hT, hF⟩

set_option maxRecDepth 20000 in
set_option maxHeartbeats 4000000 in
theorem search_any (X : Nat → Prop) (f : Nat → CC) (lk : Nat → Option Nat) (d : Nat → Nat) (dt : Int → Nat → Nat) (K : (Option Addr × Nat × Nat) → List Nat) (hf : Int → Nat → Nat) (xs : List Nat) (sb mb n : Nat) (now : Int) (o0 : Option Nat) (U : Int → Int → Option Nat) (D : DataW Value) (w : World) (HUD : Hid (UD U D)) (HUX : Hid (∀ l x b, U l x = some b → X b)) (HA : Hid (∀ t, Acyc (tdAt Classical.propDecidable X f t) (dt t))) (HI : Hid (∀ b j, X b → (f b).td = some j → X j)) (HH : Hid (∀ t k, Hd (tdAt Classical.propDecidable X f t) k (hf t k))) (HXH : Hid (∀ t k, X k → X (hf t k))) (HKX : Hid (∀ t q, X q → (∀ k ∈ kidsT K f t q, X k) ∧ (kidsT K f t q).length ≤ 20000)) (HXS : Hid (∀ b, X b → b ∈ xs)) (hxs : xs.length ≤ 900000)
    (N : Nat) (hN : N ≤ 20000) (m0 : Int) (hm0 : m0 ≤ 900000) (hJ : JW X f lk d K sb mb n now o0 D w m0 w) :
    Calls Tryz.prog 71 #[.int .i64 (N : Int), .func (.func 43) #[.pointer (some ⟨sb, 0, none⟩)] #[]] w fun e w' => ∃ r : Nat, r ≤ N ∧ e = .returned (.int .i64 (r : Int)) ∧ JW X f lk d K sb mb n now o0 D w (m0 + 2 * N) w' ∧ (r < N → Cyc U K f hf (r : Int)) ∧ (0 < r → NoCyc K f hf U ((r : Int) - 1)) := by
  have HCJ : Hid (∀ m w' t, m ≤ 1000000 → JW X f lk d K sb mb n now o0 D w m w' → Calls Tryz.prog 43 #[.pointer (some ⟨sb, 0, none⟩), .int .i64 t] w' fun e w2 => ∃ b, e = .returned (.bool b) ∧ JW X f lk d K sb mb n now o0 D w (m + 2) w2 ∧ (b = true → Cyc U K f hf t) ∧ (b = false → NoCyc K f hf U t)) := fun m w' t hm hJ => hasCircle_J X f lk d dt K hf xs sb mb n now o0 U D w HUD HUX HA HI HH HXH HKX HXS hxs m hm w' hJ t
  go_enter Tryz.func71, Tryz.ntmps71
  go_wp2
  go_loopw [5, 6] (fun vi vj wr => ∃ i j : Nat, i ≤ j ∧ j ≤ N ∧ vi = .int .i64 (i : Int) ∧ vj = .int .i64 (j : Int) ∧ JW X f lk d K sb mb n now o0 D w (m0 + 2 * ((N : Int) - ((j : Int) - (i : Int)))) wr ∧ (j < N → Cyc U K f hf (j : Int)) ∧ (0 < i → NoCyc K f hf U ((i : Int) - 1))) (fun vi vj _ => (intOf vj - intOf vi).toNat)
  case atStart => exact ⟨0, N, Nat.zero_le _, Nat.le_refl _, rfl, rfl, by simpa using hJ, fun h => absurd h (Nat.lt_irrefl _), fun h => absurd h (Nat.lt_irrefl _)⟩
  case round =>
    clear hJ
    obtain ⟨i, j, hij, hjN, rfl, rfl, hJ, hc, hnc⟩ := hrel
    by_cases hlt : i < j
    · obtain ⟨h, hh⟩ : ∃ h : Nat, ((i : Int) + (j : Int)) / 2 = (h : Int) := ⟨(i + j) / 2, by omega⟩
      have hh1 : i ≤ h ∧ h < j := by omega
      have HCL := HCJ.out _ wr (h : Int) (by omega) hJ
      clear hJ
      go_wp2_with fail
      refine HCL.mono ?_
      rintro e w2 ⟨b, rfl, hJ2, hT, hF⟩
      clear HCL
      cases b with
      | true =>
        have HC := hT rfl
        have HJ3 : Hid (JW X f lk d K sb mb n now o0 D w (m0 + 2 * ((N : Int) - ((h : Int) - (i : Int)))) w2) := by
          obtain ⟨q1, q2, sn, sa, sl, sc, P, t0, I0, L0, q3, q4, q5, q6, q7⟩ := hJ2
          exact ⟨q1, q2, sn, sa, sl, sc, P, t0, I0, L0, q3, q4, q5, by omega, q7⟩
        clear hT hF hJ2
        go_wp2
        go_roundw
        case rel => exact ⟨i, h, hh1.1, by omega, rfl, rfl, HJ3.out, fun _ => HC, hnc⟩
        case measure => simp [intOf]; omega
      | false =>
        have HC := hF rfl
        have HJ3 : Hid (JW X f lk d K sb mb n now o0 D w (m0 + 2 * ((N : Int) - ((j : Int) - ((h + 1 : Nat) : Int)))) w2) := by
          obtain ⟨q1, q2, sn, sa, sl, sc, P, t0, I0, L0, q3, q4, q5, q6, q7⟩ := hJ2
          exact ⟨q1, q2, sn, sa, sl, sc, P, t0, I0, L0, q3, q4, q5, by omega, q7⟩
        have HC2 : Hid (NoCyc K f hf U (((h + 1 : Nat) : Int) - 1)) := by
          have e9 : (((h + 1 : Nat) : Int) - 1) = (h : Int) := by omega
          rw [Hid, e9]
          exact HC
        clear hT hF hJ2 HC
        go_wp2
        go_roundw
        case rel => exact ⟨h + 1, j, by omega, hjN, by go_num, rfl, HJ3.out, hc, fun _ => HC2.out⟩
        case measure => simp [intOf]; omega
    · have hie : i = j := by omega
      subst hie
      have HR : Hid (JW X f lk d K sb mb n now o0 D w (m0 + 2 * N) wr) := by
        have e9 : m0 + 2 * ((N : Int) - ((i : Int) - (i : Int))) = m0 + 2 * N := by omega
        rw [e9] at hJ
        exact hJ
      clear hJ
      go_wp2
      go_ret
      exact ⟨i, hjN, rfl, HR.out, hc, hnc⟩

set_option maxRecDepth 20000 in
set_option maxHeartbeats 2000000 in
theorem firstCircle_any (X : Nat → Prop) (f : Nat → CC) (lk : Nat → Option Nat) (d : Nat → Nat) (dt : Int → Nat → Nat) (K : (Option Addr × Nat × Nat) → List Nat) (hf : Int → Nat → Nat) (xs : List Nat) (sb mb n : Nat) (N : Nat) (hN : N ≤ 20000) (o0 : Option Nat) (U : Int → Int → Option Nat) (D : DataW Value) (w : World) (HUD : Hid (UD U D)) (HUX : Hid (∀ l x b, U l x = some b → X b)) (HA : Hid (∀ t, Acyc (tdAt Classical.propDecidable X f t) (dt t))) (HI : Hid (∀ b j, X b → (f b).td = some j → X j)) (HH : Hid (∀ t k, Hd (tdAt Classical.propDecidable X f t) k (hf t k))) (HXH : Hid (∀ t k, X k → X (hf t k))) (HKX : Hid (∀ t q, X q → (∀ k ∈ kidsT K f t q, X k) ∧ (kidsT K f t q).length ≤ 20000)) (HXS : Hid (∀ b, X b → b ∈ xs)) (hxs : xs.length ≤ 900000)
    (m0 : Int) (hm0 : m0 ≤ 900000) (hJ : JW X f lk d K sb mb n (N : Int) o0 D w m0 w) :
    Calls Tryz.prog 42 #[.pointer (some ⟨sb, 0, none⟩)] w fun e w' => ∃ r : Nat, r ≤ N ∧ e = .returned (.int .i64 (r : Int)) ∧ JW X f lk d K sb mb n (N : Int) o0 D w (m0 + 2 * N) w' ∧ (r < N → Cyc U K f hf (r : Int)) ∧ (0 < r → NoCyc K f hf U ((r : Int) - 1)) := by
  have HS := search_any X f lk d dt K hf xs sb mb n (N : Int) o0 U D w HUD HUX HA HI HH HXH HKX HXS hxs N hN m0 hm0 hJ
  have s1 : w.cell? ⟨sb, 1, none⟩ = some (.int .i64 (N : Int)) := by
    obtain ⟨_, _, sn, sa, sl, sc, P, t0, I0, L0, hW, _⟩ := hJ
    exact hW.blk.cell.2.1
  clear hJ
  go_enter Tryz.func42, Tryz.ntmps42
  go_wp2_with fail
  refine HS.mono ?_
  rintro e w2 ⟨r, hr, rfl, hres⟩
  have HR : Hid (JW X f lk d K sb mb n (N : Int) o0 D w (m0 + 2 * N) w2 ∧ (r < N → Cyc U K f hf (r : Int)) ∧ (0 < r → NoCyc K f hf U ((r : Int) - 1))) := hres
  clear hres HS
  go_wp2
  go_ret
  exact ⟨r, hr, rfl, HR.out⟩

end Go.Proofs.YtahdmflbdmlfhaaGreatDoor

namespace Go.Proofs.YtahdmflbdmlfhaaGreatDoor
open Go.RowKit

/-! Circles, and what can be written. -/

theorem Ot.kid {n : Nd} {ds : List DT} {xs : List Nd} (h : Ot xs (con n ds)) (hn : n.kids = (ds.length : Int)) : ∀ d ∈ ds, ∃ ys, Ot ys d ∧ ys.length < xs.length := by
  obtain ⟨m, xss, es, hm, hl, h1, rfl, e⟩ := h.last
  obtain rfl := con_nd e
  have e2 := con_kids e (by omega)
  subst e2
  intro d hd
  obtain ⟨i, hi, rfl⟩ := List.getElem_of_mem hd
  refine ⟨xss[i]'(by omega), h1 i (by omega) hi, ?_⟩
  have h9 : (xss[i]'(by omega)).length ≤ xss.flatten.length := by
    rw [List.length_flatten]
    have h8 := sum_mem id (k := (xss[i]'(by omega)).length) (l := xss.map List.length) (List.mem_map.2 ⟨_, List.getElem_mem _, rfl⟩)
    rw [List.map_id] at h8
    exact h8
  simp only [List.length_append, List.length_cons, List.length_nil]
  omega

section
variable {kids : Nat → List Nat} {hf : Nat → Nat} {θ : Nat → DT} {P : Nat → Prop}

/-- One step down, what is written is shorter. -/
theorem down_less (hθ : ∀ a, P a → kids a ≠ [] → ∃ n : Nd, n.kids = ((kids a).length : Int) ∧ θ a = con n ((kids a).map θ)) (hP : ∀ a, P a → ∀ k ∈ kids a, P (hf k) ∧ θ (hf k) = θ k) {a b : Nat} (h : Down kids hf a b) (ha : P a) {xs : List Nd} (hx : Ot xs (θ a)) : P b ∧ ∃ ys, Ot ys (θ b) ∧ ys.length < xs.length := by
  obtain ⟨k, hk, rfl⟩ := h
  obtain ⟨n, hn, e⟩ := hθ a ha (fun e => by rw [e] at hk; cases hk)
  rw [e] at hx
  have h9 := hx.kid (by simpa using hn) (θ k) (List.mem_map.2 ⟨k, hk, rfl⟩)
  rw [(hP a ha k hk).2]
  exact ⟨(hP a ha k hk).1, h9⟩

theorem downs_less (hθ : ∀ a, P a → kids a ≠ [] → ∃ n : Nd, n.kids = ((kids a).length : Int) ∧ θ a = con n ((kids a).map θ)) (hP : ∀ a, P a → ∀ k ∈ kids a, P (hf k) ∧ θ (hf k) = θ k) {a b : Nat} (h : Downs kids hf a b) : P a → ∀ {xs : List Nd}, Ot xs (θ a) → P b ∧ ∃ ys, Ot ys (θ b) ∧ ys.length < xs.length := by
  induction h using Downs.elim with
  | one h => intro ha xs hx; exact down_less hθ hP h ha hx
  | more h _ ih =>
    intro ha xs hx
    obtain ⟨hb, ys, h1, h2⟩ := down_less hθ hP h ha hx
    obtain ⟨hc, zs, h3, h4⟩ := ih hb h1
    exact ⟨hc, zs, h3, by omega⟩

/-- No circle below what is written. -/
theorem circle_no (hθ : ∀ a, P a → kids a ≠ [] → ∃ n : Nd, n.kids = ((kids a).length : Int) ∧ θ a = con n ((kids a).map θ)) (hP : ∀ a, P a → ∀ k ∈ kids a, P (hf k) ∧ θ (hf k) = θ k) {a x : Nat} (h1 : Downs kids hf a x) (h2 : Downs kids hf x x) (ha : P a) {xs : List Nd} (hx : Ot xs (θ a)) : False := by
  obtain ⟨hp, ys, f1, _⟩ := downs_less hθ hP h1 ha hx
  obtain ⟨_, zs, f2, l2⟩ := downs_less hθ hP h2 hp f1
  have := f1.same f2
  subst this
  omega

end

theorem hd_root {lk : Nat → Option Nat} {i r : Nat} (h : Hd lk i r) : lk r = none := by
  induction h using Hd.elim with
  | root h => exact h
  | step _ _ ih => exact ih

theorem hd_same {X : Nat → Prop} {g : Nat → GC} {lk : Nat → Option Nat} {θ : Nat → DT} (hs : SatC X g lk θ) {i r : Nat} (h : Hd lk i r) : θ r = θ i := by
  induction h using Hd.elim with
  | root _ => rfl
  | step h1 _ ih => rw [ih, hs.1 _ _ h1]

/-- Every term makes something. -/
theorem ev_of (σ : Nd → DT) {t : List Nd} (hl : Leafy t) (h : One t) : ∃ d, Ev σ t d := by
  have hne := List.length_pos_iff.2 h.ne
  obtain ⟨s, ys, hA⟩ := h
  have hf := after_fine hA
  have hc := hf.chain.2.2.1 (by simp)
  simp only [List.getElem_cons_zero, List.length_cons, List.length_nil, Nat.zero_add, Nat.sub_self] at hc
  have hm := hf.mem 0 (by simp)
  simp only [List.getElem_cons_zero] at hm
  have hrt : s.rt = t.length - 1 := by omega
  rw [hrt] at hm
  have hsp : span t s.fr (t.length - 1) = t := by
    unfold span
    rw [hc.1, List.drop_zero, List.take_of_length_le (by omega)]
  obtain ⟨d, hd⟩ := ev_span σ hl hA (t.length - 1) (by omega) s hm
  rw [hsp] at hd
  exact ⟨d, hd⟩

/-- What solves pairs in terms that are written makes them hold. -/
theorem holds_solves {ps : List (List Nd × List Nd)} (hps : ∀ p ∈ ps, (Leafy p.1 ∧ One p.1) ∧ Leafy p.2 ∧ One p.2) {ρ : Int → List Nd} {D : Int → DT} (hD : ∀ x, Ot (ρ x) (D x)) {m : Nat} (hsol : Solves ρ (ps.take m)) (i : Nat) (hi : i < ps.length) (him : i < m) : Holds (fun n => D n.num) ps[i] := by
  have hp := hps ps[i] (List.getElem_mem hi)
  obtain ⟨d1, e1⟩ := ev_of (fun n => D n.num) hp.1.1 hp.1.2
  obtain ⟨d2, e2⟩ := ev_of (fun n => D n.num) hp.2.1 hp.2.2
  refine holds_of (ρ := ρ) (fun n => hD n.num) e1 e2 (hsol ps[i] ?_)
  rw [List.mem_take_iff_getElem]
  exact ⟨i, by omega, rfl⟩

section
variable {ps : List (List Nd × List Nd)} {k : Nat} {X : Nat → Prop} {f : Nat → CC} {K : (Option Addr × Nat × Nat) → List Nat} {U : Int → Int → Option Nat} {hf : Int → Nat → Nat}

/-- Where there is a circle, no terms solve the pairs. -/
theorem TimeM.cyc (M : TimeM ps k X f K U) (hps : ∀ p ∈ ps, (Leafy p.1 ∧ One p.1) ∧ Leafy p.2 ∧ One p.2) (hU1 : ∀ l x c, U l x = some c → l = 1) (hin : ∀ b, X b → ∀ k ∈ K (f b).ks, X k) (har : ∀ b, X b → ((K (f b).ks).length : Int) = (f b).nd.kids) (hmet : ∀ b, X b → (f b).nd.kind = 61 → K (f b).ks = [])
    (hH : ∀ t k, Hd (tdAt Classical.propDecidable X f t) k (hf t k)) (hXH : ∀ t k, X k → X (hf t k)) {t : Nat} (ht : t < k) (hc : Cyc U K f hf (t : Int)) (ρ : Int → List Nd) (hρ : ∀ x, One (ρ x)) (hsol : Solves ρ (ps.take (t + 1))) : False := by
  obtain ⟨D, hD⟩ := Classical.axiomOfChoice fun x => ot_of (hρ x)
  obtain ⟨θ, h1, h2⟩ := M.full t ht D fun i hi hit => holds_solves hps hD hsol i hi (by omega)
  obtain ⟨lv, nu, c, x, hu, d1, d2⟩ := hc
  obtain rfl := hU1 lv nu c hu
  have hX := M.inX nu c hu
  refine circle_no (θ := θ) (P := fun a => X a ∧ tdAt Classical.propDecidable X f (t : Int) a = none) ?_ ?_ d1 d2 ⟨hXH _ c hX, hd_root (hH _ c)⟩ (xs := ρ nu) ?_
  · intro a ha hk
    have hnt : ¬ ((t : Int) < (f a).told) := fun h9 => hk (by unfold kidsT; rw [if_pos h9])
    have ek : kidsT K f t a = K (f a).ks := by unfold kidsT; rw [if_neg hnt]
    rw [ek] at hk ⊢
    refine ⟨(f a).nd, (har a ha.1).symm, ?_⟩
    refine h1.2 a ha.1 ha.2 ?_
    have hk61 : (f a).nd.kind ≠ 61 := fun e => hk (hmet a ha.1 e)
    simp [gcAt, hnt, CC.open?, hk61]
  · intro a ha j hj
    have hXj : X j := by
      unfold kidsT at hj
      split at hj
      · cases hj
      · exact hin a ha.1 j hj
    exact ⟨⟨hXH _ j hXj, hd_root (hH _ j)⟩, hd_same h1 (hH _ j)⟩
  · rw [hd_same h1 (hH _ c), h2 nu c hu]
    exact hD nu

end

end Go.Proofs.YtahdmflbdmlfhaaGreatDoor

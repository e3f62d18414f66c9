import Derived.Test.YtemancdlnakkmaaGreatWAF
import Derived.Test.YtemancdlnakkmaaGreatWAZ
import Derived.Test.YtemancdlnakkmaaGreatWBG
import Derived.Deep.CutRange
import Derived.Deep.RegionHeld3
import Derived.Deep.RegionWith
import Derived.BigQuiet
import Derived.BigCall
import Derived.BigGuard
namespace Go.Proofs.YtemancdlnakkmaaGreat
open Go.RowKit
def PRepF (w : World) (A : Nat → Prop) (R : Tre × Nat → Prop) (x : Tre × Nat) : Prop :=
  ∃ (n : Nd) (ks : List Tre) (b : Nat) (s : Sl3) (bs : Nat → Nat), x = (.mk n ks, b) ∧ A b ∧ s.2.1 = ks.length ∧ ks.length ≤ s.2.2 ∧ ks.length ≤ 60000 ∧ w.heap[b]? = some (.cells #[.int .i64 n.kind, .int .i64 n.num, .string n.text, .int .i64 n.kids, .int .i64 n.place, .slice s.1 s.2.1 s.2.2, .int .i64 0, .int .i64 0, .bool false] 88 (0, 0)) ∧ (∀ j, j < ks.length → ∃ g, s.1 = some ⟨g, 0, none⟩ ∧ A g ∧ w.cell? ⟨g, j, none⟩ = some (.pointer (some ⟨bs j, 0, none⟩))) ∧ ∀ j (h : j < ks.length), R (ks[j], bs j)
structure PRep (w : World) (A : Nat → Prop) (T : Tre) (b : Nat) : Prop where
  of ::
  lfp : Lfp (PRepF w A) (T, b)
theorem PRep.grows (w : World) (A : Nat → Prop) : Grows (PRepF w A) := by
  rintro R R' x h ⟨n, ks, b, s, bs, e, h1, h2, h3, h4, h5, h6, h7⟩
  exact ⟨n, ks, b, s, bs, e, h1, h2, h3, h4, h5, h6, fun j hj => h _ (h7 j hj)⟩
theorem PRep.mk {w : World} {A : Nat → Prop} (n : Nd) (ks : List Tre) (b : Nat) (s : Sl3) (bs : Nat → Nat) (hA : A b) (len : s.2.1 = ks.length) (cap : ks.length ≤ s.2.2) (small : ks.length ≤ 60000) (blk : w.heap[b]? = some (.cells #[.int .i64 n.kind, .int .i64 n.num, .string n.text, .int .i64 n.kids, .int .i64 n.place, .slice s.1 s.2.1 s.2.2, .int .i64 0, .int .i64 0, .bool false] 88 (0, 0))) (cells : ∀ j, j < ks.length → ∃ g, s.1 = some ⟨g, 0, none⟩ ∧ A g ∧ w.cell? ⟨g, j, none⟩ = some (.pointer (some ⟨bs j, 0, none⟩))) (kids : ∀ j (h : j < ks.length), PRep w A ks[j] (bs j)) : PRep w A (.mk n ks) b :=
  ⟨Lfp.fold (PRep.grows w A) ⟨n, ks, b, s, bs, rfl, hA, len, cap, small, blk, cells, fun j h => (kids j h).lfp⟩⟩
theorem PRep.elim {w : World} {A : Nat → Prop} {motive : ∀ T b, PRep w A T b → Prop}
    (mk : ∀ (n : Nd) (ks : List Tre) (b : Nat) (s : Sl3) (bs : Nat → Nat) (hA : A b) (len : s.2.1 = ks.length) (cap : ks.length ≤ s.2.2) (small : ks.length ≤ 60000) (blk : w.heap[b]? = some (.cells #[.int .i64 n.kind, .int .i64 n.num, .string n.text, .int .i64 n.kids, .int .i64 n.place, .slice s.1 s.2.1 s.2.2, .int .i64 0, .int .i64 0, .bool false] 88 (0, 0))) (cells : ∀ j, j < ks.length → ∃ g, s.1 = some ⟨g, 0, none⟩ ∧ A g ∧ w.cell? ⟨g, j, none⟩ = some (.pointer (some ⟨bs j, 0, none⟩))) (kids : ∀ j (h : j < ks.length), PRep w A ks[j] (bs j)), (∀ j (h : j < ks.length), motive ks[j] (bs j) (kids j h)) → motive (.mk n ks) b (PRep.mk n ks b s bs hA len cap small blk cells kids))
    {T : Tre} {b : Nat} (h : PRep w A T b) : motive T b h := by
  have key : ∀ h, motive (T, b).1 (T, b).2 h := Lfp.ind (PRep.grows w A) (p := fun x => ∀ h, motive x.1 x.2 h) (by
    rintro x ⟨n, ks, b, s, bs, e, h1, h2, h3, h4, h5, h6, h7⟩ h
    subst e
    exact mk n ks b s bs h1 h2 h3 h4 h5 h6 (fun j hj => ⟨(h7 j hj).1⟩) (fun j hj => (h7 j hj).2 _)) h.lfp
  exact key h
theorem PRep.but {w w' : World} {A A' S : Nat → Prop} {T : Tre} {b : Nat} (h : PRep w A T b) (hb : But S w w') (hS : ∀ q, A q → ¬ S q) (hA : ∀ q, A q → q < w.heap.size → A' q) : PRep w' A' T b := by
  induction h using PRep.elim with
  | mk n ks b s bs h1 len cap small blk cells kids ih =>
    have l1 := (Array.getElem?_eq_some_iff.1 blk).1
    refine .mk n ks b s bs (hA b h1 l1) len cap small ((hb.block b l1 (hS b h1)).trans blk) (fun j h => ?_) ih
    obtain ⟨g, e, hg, hc⟩ := cells j h
    have lg := lt_of_cell hc
    have h9 := hb.block g lg (hS g hg)
    refine ⟨g, e, hA g hg lg, ?_⟩
    rw [← hc]
    simp only [World.cell?, h9]
theorem PRep.under {w w' : World} {A : Nat → Prop} {T : Tre} {b : Nat} (h : PRep w A T b) (hb : Below w.heap.size w w') : PRep w' A T b :=
  h.but (But.ofBelow (S := fun _ => False) hb) (fun _ _ h => h) (fun _ h _ => h)
theorem PRep.wide {w : World} {A A' : Nat → Prop} {T : Tre} {b : Nat} (h : PRep w A T b) (hA : ∀ q, A q → q < w.heap.size → A' q) : PRep w A' T b :=
  h.but (But.ofBelow (S := fun _ => False) (Below.refl _ _)) (fun _ _ h => h) hA
def PKids (w : World) (A : Nat → Prop) (s : Sl3) (ks : List Tre) : Prop :=
  s.2.1 = ks.length ∧ ks.length ≤ s.2.2 ∧ ks.length ≤ 60000 ∧ ∃ bs : Nat → Nat, ∀ j (h : j < ks.length), ∃ g, s.1 = some ⟨g, 0, none⟩ ∧ A g ∧ w.cell? ⟨g, j, none⟩ = some (.pointer (some ⟨bs j, 0, none⟩)) ∧ PRep w A ks[j] (bs j)
theorem PKids.nil (w : World) (A : Nat → Prop) : PKids w A (none, 0, 0) [] := ⟨rfl, Nat.le_refl _, by simp, fun _ => 0, fun j h => by simp at h⟩
theorem PRep.opened {w : World} {A : Nat → Prop} {n : Nd} {ks : List Tre} {b : Nat} (h : PRep w A (.mk n ks) b) : A b ∧ ∃ so c, w.heap[b]? = some (.cells #[.int .i64 n.kind, .int .i64 n.num, .string n.text, .int .i64 n.kids, .int .i64 n.place, .slice so ks.length c, .int .i64 0, .int .i64 0, .bool false] 88 (0, 0)) ∧ PKids w A (so, ks.length, c) ks := by
  cases h using PRep.elim with
  | mk n ks b s bs h1 len cap small blk cells kids =>
    obtain ⟨so, l, c⟩ := s
    simp only at len cap blk cells
    subst len
    refine ⟨h1, so, c, blk, rfl, cap, small, bs, fun j hj => ?_⟩
    obtain ⟨g, e, hg, hc⟩ := cells j hj
    exact ⟨g, e, hg, hc, kids j hj⟩
theorem PKids.rep {w : World} {A : Nat → Prop} {n : Nd} {ks : List Tre} {b : Nat} {s : Sl3} (h : PKids w A s ks) (hA : A b) (blk : w.heap[b]? = some (.cells #[.int .i64 n.kind, .int .i64 n.num, .string n.text, .int .i64 n.kids, .int .i64 n.place, .slice s.1 s.2.1 s.2.2, .int .i64 0, .int .i64 0, .bool false] 88 (0, 0))) : PRep w A (.mk n ks) b := by
  obtain ⟨h1, h2, h3, bs, h4⟩ := h
  refine .mk n ks b s bs hA h1 h2 h3 blk (fun j hj => ?_) (fun j hj => ?_)
  · obtain ⟨g, a, b9, c, -⟩ := h4 j hj
    exact ⟨g, a, b9, c⟩
  · obtain ⟨g, -, -, -, d⟩ := h4 j hj
    exact d
theorem PKids.under {w w' : World} {A : Nat → Prop} {s : Sl3} {ks : List Tre} (h : PKids w A s ks) (hb : Below w.heap.size w w') : PKids w' A s ks := by
  obtain ⟨h1, h2, h3, bs, h4⟩ := h
  refine ⟨h1, h2, h3, bs, fun j hj => ?_⟩
  obtain ⟨g, a, b9, c, d⟩ := h4 j hj
  have h9 := hb.block g (lt_of_cell c)
  refine ⟨g, a, b9, ?_, d.under hb⟩
  rw [← c]
  simp only [World.cell?, h9]
theorem nine {w : World} {b : Nat} {x0 x1 x2 x3 x4 x5 : Value} (h : w.heap[b]? = some (.cells #[x0, x1, x2, x3, x4, x5, .int .i64 0, .int .i64 0, .bool false] 88 (0, 0))) : w.cell? ⟨b, 0, none⟩ = some x0 ∧ w.cell? ⟨b, 1, none⟩ = some x1 ∧ w.cell? ⟨b, 2, none⟩ = some x2 ∧ w.cell? ⟨b, 3, none⟩ = some x3 ∧ w.cell? ⟨b, 4, none⟩ = some x4 ∧ w.cell? ⟨b, 5, none⟩ = some x5 := by
  refine ⟨?_, ?_, ?_, ?_, ?_, ?_⟩ <;> (rw [cell_of_row _ _ _ _ _ _ h]; rfl)
set_option maxRecDepth 20000 in
set_option maxHeartbeats 2000000 in
theorem newP_any (n : Nd) (ks : List Tre) (s : Sl3) (A : Nat → Prop) (w : World) (h : PKids w A s ks) (hA : ∀ q, w.heap.size ≤ q → A q) :
    Calls Tryz.prog 55 #[.agg #[.int .i64 n.kind, .int .i64 n.num, .string n.text, .int .i64 n.kids, .int .i64 n.place], .slice s.1 s.2.1 s.2.2] w fun e w' => ∃ b, e = .returned (.pointer (some ⟨b, 0, none⟩)) ∧ PRep w' A (mkT n ks) b ∧ Below w.heap.size w w' ∧ w.heap.size ≤ b := by
  obtain ⟨so, sl, sc⟩ := s
  have hl : sl = ks.length := h.1
  subst hl
  obtain ⟨q, hq⟩ : ∃ q, ks.length = q := ⟨_, rfl⟩
  have HQ : Hid (ks.length = q) := hq
  obtain ⟨kd, nm, tx, kk, pl⟩ := n
  simp only
  have b1 := (Below.refl w.heap.size w).alloc (Nat.le_refl _) (.cells #[.int .i64 kd, .int .i64 nm, .string tx, .int .i64 (q : Int), .int .i64 pl] 34)
  have b2 := b1.alloc b1.size (.cells #[.int .i64 kd, .int .i64 nm, .string tx, .int .i64 (q : Int), .int .i64 pl, .slice so q sc, .int .i64 0, .int .i64 0, .bool false] 88)
  have r2 := heap_alloc_new (w.alloc (.cells #[.int .i64 kd, .int .i64 nm, .string tx, .int .i64 (q : Int), .int .i64 pl] 34)) (.cells #[.int .i64 kd, .int .i64 nm, .string tx, .int .i64 (q : Int), .int .i64 pl, .slice so q sc, .int .i64 0, .int .i64 0, .bool false] 88)
  rw [World.size_alloc] at r2
  have hK := h.under b2
  have HP : Hid (PRep _ A (mkT ⟨kd, nm, tx, kk, pl⟩ ks) (w.heap.size + 1)) := hK.rep (n := ⟨kd, nm, tx, (ks.length : Int), pl⟩) (hA _ (by omega)) (by rw [hq]; exact r2)
  have HB : Hid _ := b2
  have hq6 : q ≤ 60000 := by have := h.2.2.1; omega
  rw [hq]
  clear b1 b2 r2 hK h hA
  go_enter Tryz.func55, Tryz.ntmps55
  go_wp2
  go_ret
  exact ⟨w.heap.size + 1, rfl, HP.out, HB.out, by omega⟩
theorem rangeP_step {u : Nat → Bool} {k : Nat} (h : u k = false) (hall : (List.range k).any u = false) : (List.range (k + 1)).any u = false := by
  rw [List.range_succ, List.any_append, hall]
  simp [h]
theorem rangeP_true {u : Nat → Bool} {k n : Nat} (hk : k < n) (h : u k = true) : (List.range n).any u = true := by
  rw [List.any_eq_true]
  exact ⟨k, List.mem_range.2 hk, h⟩
set_option maxRecDepth 20000 in
set_option maxHeartbeats 1000000 in
theorem indexK_any (n c : Nat) (so : Option Addr) (hn : n ≤ 60000) (hc : n ≤ c) (u : Nat → Bool) (bs : Nat → Nat) (w : World) 
    (HR : Hid (∀ j, j < n → ∃ g, so = some ⟨g, 0, none⟩ ∧ w.cell? ⟨g, j, none⟩ = some (.pointer (some ⟨bs j, 0, none⟩)))) (HC : Hid (∀ j, j < n → ∀ wr : World, Below w.heap.size w wr → Calls Tryz.prog 117 #[.pointer (some ⟨bs j, 0, none⟩)] wr fun e w' => e = .returned (.bool (u j)) ∧ Below wr.heap.size wr w')) :
    Calls Tryz.prog 122 #[.slice so n c, .func (.func 117) #[] #[]] w fun e w' =>
      (∃ r : Int, e = .returned (.int .i64 r) ∧ decide (r ≥ 0) = (List.range n).any u) ∧ Below w.heap.size w w' := by
  go_enter Tryz.func122, Tryz.ntmps122
  go_wp2
  go_loopw [8] (fun i wr => ∃ (k : Nat), k ≤ n ∧ i = .int .i64 k ∧ (List.range k).any u = false ∧ Below w.heap.size w wr) (fun i _ => n - (intOf i).toNat)
  case atStart => exact ⟨0, Nat.zero_le _, rfl, by simp, Below.refl _ _⟩
  case round =>
    obtain ⟨k, hk, rfl, hall, hb⟩ := hrel
    by_cases hlt : k < n
    · obtain ⟨g, rfl, hc9⟩ := HR.out k hlt
      obtain ⟨x, hxk⟩ : ∃ x, bs k = x := ⟨_, rfl⟩
      rw [hxk] at hc9
      have c0 : wr.cell? ⟨g, k, none⟩ = some (.pointer (some ⟨x, 0, none⟩)) := by
        have h9 := hb.block g (lt_of_cell hc9)
        rw [← hc9]
        simp only [World.cell?, h9]
      have HK := HC.out k hlt wr hb
      rw [hxk] at HK
      have hgr : g < wr.heap.size := lt_of_cell c0
      clear hxk hc9
      cases hq : u k
      · have HA : Hid ((List.range (k + 1)).any u = false) := rangeP_step hq hall
        rw [hq] at HK
        clear hall hq
        go_wp2_with fail
        refine HK.mono ?_
        rintro e w1 ⟨rfl, hb1⟩
        have hbb := Below.step hb hb1
        clear hb hb1 c0 HK
        go_wp2
        go_roundw
        case rel => exact ⟨k + 1, by omega, by go_num, HA.out, hbb⟩
        case measure => simp [intOf]; omega
      · have HA : Hid ((List.range n).any u = true) := rangeP_true hlt hq
        rw [hq] at HK
        clear hall hq
        go_wp2_with fail
        refine HK.mono ?_
        rintro e w1 ⟨rfl, hb1⟩
        have hbb := Below.step hb hb1
        clear hb hb1 c0 HK
        go_wp2
        go_ret
        exact ⟨⟨(k : Int), rfl, by rw [HA.out]; simp⟩, hbb⟩
    · have HA : Hid ((List.range n).any u = false) := by
        obtain rfl : k = n := by omega
        exact hall
      clear hall
      go_wp2
      go_ret
      exact ⟨⟨-1, rfl, by rw [HA.out]; rfl⟩, hb⟩
set_option maxRecDepth 20000 in
set_option maxHeartbeats 1000000 in
theorem containsK_any (n c : Nat) (so : Option Addr) (hn : n ≤ 60000) (hc : n ≤ c) (u : Nat → Bool) (bs : Nat → Nat) (w : World) 
    (HR : Hid (∀ j, j < n → ∃ g, so = some ⟨g, 0, none⟩ ∧ w.cell? ⟨g, j, none⟩ = some (.pointer (some ⟨bs j, 0, none⟩)))) (HC : Hid (∀ j, j < n → ∀ wr : World, Below w.heap.size w wr → Calls Tryz.prog 117 #[.pointer (some ⟨bs j, 0, none⟩)] wr fun e w' => e = .returned (.bool (u j)) ∧ Below wr.heap.size wr w')) :
    Calls Tryz.prog 112 #[.slice so n c, .func (.func 117) #[] #[]] w fun e w' =>
      e = .returned (.bool ((List.range n).any u)) ∧ Below w.heap.size w w' := by
  have HI := indexK_any n c so hn hc u bs w  HR HC
  go_enter Tryz.func112, Tryz.ntmps112
  go_wp2_with fail
  refine HI.mono ?_
  rintro e w1 ⟨⟨r, rfl, hr⟩, hb1⟩
  have HV : Hid (decide (r ≥ 0) = (List.range n).any u) := hr
  clear hr HI
  go_wp2
  go_ret
  exact ⟨by rw [← HV.out]; rfl, hb1⟩
set_option maxRecDepth 20000 in
set_option maxHeartbeats 1000000 in
theorem indexA_any (n c : Nat) (so : Option Addr) (hn : n ≤ 60000) (hc : n ≤ c) (u : Nat → Bool) (bs : Nat → Nat) (w : World) (bx : Nat)
    (HR : Hid (∀ j, j < n → ∃ g, so = some ⟨g, 0, none⟩ ∧ w.cell? ⟨g, j, none⟩ = some (.pointer (some ⟨bs j, 0, none⟩)))) (HC : Hid (∀ j, j < n → ∀ wr : World, Below w.heap.size w wr → Calls Tryz.prog 113 #[.pointer (some ⟨bs j, 0, none⟩), .pointer (some ⟨bx, 0, none⟩)] wr fun e w' => e = .returned (.bool (u j)) ∧ Below wr.heap.size wr w')) :
    Calls Tryz.prog 122 #[.slice so n c, .func (.func 113) #[] #[.pointer (some ⟨bx, 0, none⟩)]] w fun e w' =>
      (∃ r : Int, e = .returned (.int .i64 r) ∧ decide (r ≥ 0) = (List.range n).any u) ∧ Below w.heap.size w w' := by
  go_enter Tryz.func122, Tryz.ntmps122
  go_wp2
  go_loopw [8] (fun i wr => ∃ (k : Nat), k ≤ n ∧ i = .int .i64 k ∧ (List.range k).any u = false ∧ Below w.heap.size w wr) (fun i _ => n - (intOf i).toNat)
  case atStart => exact ⟨0, Nat.zero_le _, rfl, by simp, Below.refl _ _⟩
  case round =>
    obtain ⟨k, hk, rfl, hall, hb⟩ := hrel
    by_cases hlt : k < n
    · obtain ⟨g, rfl, hc9⟩ := HR.out k hlt
      obtain ⟨x, hxk⟩ : ∃ x, bs k = x := ⟨_, rfl⟩
      rw [hxk] at hc9
      have c0 : wr.cell? ⟨g, k, none⟩ = some (.pointer (some ⟨x, 0, none⟩)) := by
        have h9 := hb.block g (lt_of_cell hc9)
        rw [← hc9]
        simp only [World.cell?, h9]
      have HK := HC.out k hlt wr hb
      rw [hxk] at HK
      have hgr : g < wr.heap.size := lt_of_cell c0
      clear hxk hc9
      cases hq : u k
      · have HA : Hid ((List.range (k + 1)).any u = false) := rangeP_step hq hall
        rw [hq] at HK
        clear hall hq
        go_wp2_with fail
        refine HK.mono ?_
        rintro e w1 ⟨rfl, hb1⟩
        have hbb := Below.step hb hb1
        clear hb hb1 c0 HK
        go_wp2
        go_roundw
        case rel => exact ⟨k + 1, by omega, by go_num, HA.out, hbb⟩
        case measure => simp [intOf]; omega
      · have HA : Hid ((List.range n).any u = true) := rangeP_true hlt hq
        rw [hq] at HK
        clear hall hq
        go_wp2_with fail
        refine HK.mono ?_
        rintro e w1 ⟨rfl, hb1⟩
        have hbb := Below.step hb hb1
        clear hb hb1 c0 HK
        go_wp2
        go_ret
        exact ⟨⟨(k : Int), rfl, by rw [HA.out]; simp⟩, hbb⟩
    · have HA : Hid ((List.range n).any u = false) := by
        obtain rfl : k = n := by omega
        exact hall
      clear hall
      go_wp2
      go_ret
      exact ⟨⟨-1, rfl, by rw [HA.out]; rfl⟩, hb⟩
set_option maxRecDepth 20000 in
set_option maxHeartbeats 1000000 in
theorem containsA_any (n c : Nat) (so : Option Addr) (hn : n ≤ 60000) (hc : n ≤ c) (u : Nat → Bool) (bs : Nat → Nat) (w : World) (bx : Nat)
    (HR : Hid (∀ j, j < n → ∃ g, so = some ⟨g, 0, none⟩ ∧ w.cell? ⟨g, j, none⟩ = some (.pointer (some ⟨bs j, 0, none⟩)))) (HC : Hid (∀ j, j < n → ∀ wr : World, Below w.heap.size w wr → Calls Tryz.prog 113 #[.pointer (some ⟨bs j, 0, none⟩), .pointer (some ⟨bx, 0, none⟩)] wr fun e w' => e = .returned (.bool (u j)) ∧ Below wr.heap.size wr w')) :
    Calls Tryz.prog 112 #[.slice so n c, .func (.func 113) #[] #[.pointer (some ⟨bx, 0, none⟩)]] w fun e w' =>
      e = .returned (.bool ((List.range n).any u)) ∧ Below w.heap.size w w' := by
  have HI := indexA_any n c so hn hc u bs w bx HR HC
  go_enter Tryz.func112, Tryz.ntmps112
  go_wp2_with fail
  refine HI.mono ?_
  rintro e w1 ⟨⟨r, rfl, hr⟩, hb1⟩
  have HV : Hid (decide (r ≥ 0) = (List.range n).any u) := hr
  clear hr HI
  go_wp2
  go_ret
  exact ⟨by rw [← HV.out]; rfl, hb1⟩
theorem range_any {ks : List Tre} {p : Tre → Bool} {n : Nat} (hn : ks.length = n) : ((List.range n).any fun j => p (ks.getD j (.mk Nd.zero []))) = ks.any p := by
  subst hn
  rw [Bool.eq_iff_iff]
  simp only [List.any_eq_true, List.mem_range]
  constructor
  · rintro ⟨j, hj, h⟩
    have e : ks.getD j (.mk Nd.zero []) = ks[j] := by simp [hj]
    rw [e] at h
    exact ⟨_, List.getElem_mem hj, h⟩
  · rintro ⟨x, hx, h⟩
    obtain ⟨j, hj, rfl⟩ := List.getElem_of_mem hx
    exact ⟨j, hj, by have e : ks.getD j (.mk Nd.zero []) = ks[j] := by simp [hj]
                     rw [e]; exact h⟩
theorem isUnknownP_of {b : Nat} {w : World} {v : Bool} (h : Calls Tryz.prog 104 #[.pointer (some ⟨b, 0, none⟩)] w fun e w' => e = .returned (.bool v) ∧ Below w.heap.size w w') :
    Calls Tryz.prog 117 #[.pointer (some ⟨b, 0, none⟩)] w fun e w' => e = .returned (.bool (!v)) ∧ Below w.heap.size w w' := by
  go_enter Tryz.func117, Tryz.ntmps117
  go_wp2_with fail
  refine h.mono ?_
  rintro e w1 ⟨rfl, hb1⟩
  clear h
  go_wp2
  go_ret
  exact ⟨rfl, hb1⟩
set_option maxRecDepth 20000 in
set_option maxHeartbeats 4000000 in
theorem knownP_any : ∀ (T : Tre) (b : Nat) (A : Nat → Prop) (w : World), PlT T → PRep w A T b →
    Calls Tryz.prog 104 #[.pointer (some ⟨b, 0, none⟩)] w fun e w' => e = .returned (.bool (knT T)) ∧ Below w.heap.size w w' := by
  intro T
  refine Tre.ind (p := fun T => ∀ (b : Nat) (A : Nat → Prop) (w : World), PlT T → PRep w A T b → Calls Tryz.prog 104 #[.pointer (some ⟨b, 0, none⟩)] w fun e w' => e = .returned (.bool (knT T)) ∧ Below w.heap.size w w') ?_ T
  intro n ks ih b A w hP hR
  obtain ⟨-, so, sc, hblk, h1, h2, h3, bs, h4⟩ := hR.opened
  simp only at h1 h2
  clear h1
  have HIH : Hid (∀ k ∈ ks, ∀ (b : Nat) (A : Nat → Prop) (w : World), PlT k → PRep w A k b → Calls Tryz.prog 104 #[.pointer (some ⟨b, 0, none⟩)] w fun e w' => e = .returned (.bool (knT k)) ∧ Below w.heap.size w w') := ih
  have HV : Hid (knT (.mk n ks) = knStep n ks (ks.map knT)) := knT_eq n ks
  have HP : Hid (PlT (.mk n ks)) := hP
  have HK : Hid (∀ j (h : j < ks.length), ∃ g, so = some ⟨g, 0, none⟩ ∧ A g ∧ w.cell? ⟨g, j, none⟩ = some (.pointer (some ⟨bs j, 0, none⟩)) ∧ PRep w A ks[j] (bs j)) := h4
  obtain ⟨q, hq⟩ : ∃ q, ks.length = q := ⟨_, rfl⟩
  have HQ : Hid (ks.length = q) := hq
  rw [hq] at hblk h2 h3
  obtain ⟨kd, nm, tx, kk, pl⟩ := n
  obtain ⟨c0, c1, c2, c3, c4, c5⟩ := nine hblk
  simp only at c0 c1 c2 c3 c4 c5
  have lb : b < w.heap.size := lt_of_cell c0
  have hbr := Below.refl w.heap.size w
  clear ih hP hR h4 hq hblk c1 c2 c3 c4
  by_cases h7 : kd = 72 ∨ kd = 73 ∨ kd = 74
  · have HK9 : Hid (knT (.mk ⟨kd, nm, tx, kk, pl⟩ ks) = true) := by show _ = _; rw [HV.out]; unfold knStep; rw [if_pos h7]
    rcases h7 with rfl | rfl | rfl
    all_goals
      go_enter Tryz.func104, Tryz.ntmps104
      go_wp2
      go_ret
      exact ⟨by rw [HK9.out]; rfl, hbr⟩
  have t72 : (kd == 72) = false := by simp; omega
  have t73 : (kd == 73) = false := by simp; omega
  have t74 : (kd == 74) = false := by simp; omega
  by_cases h75 : kd = 75
  · subst h75
    have HKV : Hid (knT (.mk ⟨75, nm, tx, kk, pl⟩ ks) = !((List.range q).any fun j => !(knT (ks.getD j (.mk Nd.zero []))))) := by
      show _ = _
      rw [HV.out, range_any (p := fun k => !knT k) HQ.out]
      simp [knStep, Function.comp_def, List.all_eq_not_any_not]
    have HCN := containsK_any q sc so h3 h2 (fun j => !(knT (ks.getD j (.mk Nd.zero [])))) bs w (fun j hj => by
        obtain ⟨g, e, -, hc, -⟩ := HK.out j (by have := HQ.out; omega)
        exact ⟨g, e, hc⟩) (fun j hj wr hb => by
        have hj9 : j < ks.length := by have := HQ.out; omega
        obtain ⟨g, e, -, hc, hr⟩ := HK.out j hj9
        have e9 : ks.getD j (.mk Nd.zero []) = ks[j] := by simp [hj9]
        rw [e9]
        exact isUnknownP_of (HIH.out ks[j] (List.getElem_mem hj9) (bs j) A wr (HP.out.kid _ (List.getElem_mem hj9)) (hr.under hb)))
    obtain ⟨v, hv⟩ : ∃ v, ((List.range q).any fun j => !(knT (ks.getD j (.mk Nd.zero [])))) = v := ⟨_, rfl⟩
    rw [hv] at HCN HKV
    clear hv
    go_enter Tryz.func104, Tryz.ntmps104
    go_wp2_with fail
    refine HCN.mono ?_
    rintro e w1 ⟨rfl, hb1⟩
    clear HCN c0 c5
    go_wp2
    go_ret
    exact ⟨by rw [HKV.out]; rfl, hb1⟩
  have t75 : (kd == 75) = false := by simpa using h75
  by_cases h77 : kd = 77
  rotate_left
  · have t77 : (kd == 77) = false := by simpa using h77
    have HKV : Hid (knT (.mk ⟨kd, nm, tx, kk, pl⟩ ks) = false) := by show _ = _; rw [HV.out]; unfold knStep; rw [if_neg h7, if_neg h75]; simp [h77]
    go_enter Tryz.func104, Tryz.ntmps104
    go_wp2
    go_ret
    exact ⟨by rw [HKV.out]; rfl, hbr⟩
  subst h77
  obtain ⟨x, y, rfl, -, -⟩ := HP.out.node.code2 (.inl rfl)
  have HKV : Hid (knT (.mk ⟨77, nm, tx, kk, pl⟩ [x, y]) = (x.nd.kind == 74 && knT y)) := by show _ = _; rw [HV.out]; simp [knStep]
  obtain ⟨g, hso, -, d0, hr0⟩ := HK.out 0 (by simp)
  obtain ⟨g', hso', -, d1, hr1⟩ := HK.out 1 (by simp)
  rw [hso] at hso'
  simp only [Option.some.injEq, Addr.mk.injEq, and_true] at hso'
  subst hso'
  subst hso
  simp only [List.getElem_cons_zero, List.getElem_cons_succ] at hr0 hr1
  have hq2 : q = 2 := by have := HQ.out; simp at this; omega
  subst hq2
  have hcy := HIH.out y (by simp) (bs 1) A
  have HCY : Hid (∀ W, Below w.heap.size w W → Calls Tryz.prog 104 #[.pointer (some ⟨bs 1, 0, none⟩)] W fun e w' => e = .returned (.bool (knT y)) ∧ Below W.heap.size W w') := fun W hW => hcy W (HP.out.kid y (by simp)) (hr1.under hW)
  obtain ⟨nx, kx⟩ := x
  obtain ⟨-, so2, sc2, hb2, -⟩ := hr0.opened
  obtain ⟨e0, -⟩ := nine hb2
  simp only [Tre.nd] at HKV
  generalize bs 0 = b0 at d0 e0 hb2
  generalize bs 1 = b1 at d1 HCY
  have lg : g < w.heap.size := lt_of_cell d0
  have lb0 : b0 < w.heap.size := lt_of_cell e0
  obtain ⟨xk, hxk⟩ : ∃ xk, nx.kind = xk := ⟨_, rfl⟩
  rw [hxk] at e0 HKV
  clear hcy hr0 hr1 hb2 hxk HIH HK HP HV h7 h75
  by_cases h4 : xk = 74
  · subst h4
    have hC := HCY.out w (Below.refl _ _)
    go_enter Tryz.func104, Tryz.ntmps104
    go_wp2_with fail
    refine hC.mono ?_
    rintro e w1 ⟨rfl, hb1⟩
    clear hC c0 c5 d0 d1 e0 HCY
    go_wp2
    go_ret
    exact ⟨by rw [HKV.out]; rfl, hb1⟩
  · have t4 : (xk == 74) = false := by simpa using h4
    rw [t4] at HKV
    go_enter Tryz.func104, Tryz.ntmps104
    go_wp2
    go_ret
    exact ⟨by rw [HKV.out]; rfl, hbr⟩
set_option maxRecDepth 20000 in
set_option maxHeartbeats 2000000 in
theorem areOf1_any (kind : Int) (n : Nd) (ks : List Tre) (b bx : Nat) (A : Nat → Prop) (w : World) (hR : PRep w A (.mk n ks) b) (hk : w.cell? ⟨bx, 0, none⟩ = some (.int .i64 kind)) :
    Calls Tryz.prog 113 #[.pointer (some ⟨b, 0, none⟩), .pointer (some ⟨bx, 0, none⟩)] w fun e w' => e = .returned (.bool (n.kind != kind)) ∧ Below w.heap.size w w' := by
  obtain ⟨-, so, sc, hblk, -⟩ := hR.opened
  obtain ⟨c0, -⟩ := nine hblk
  have lb : b < w.heap.size := lt_of_cell c0
  have lx : bx < w.heap.size := lt_of_cell hk
  have bD := (Below.refl w.heap.size w).drew
  clear hR hblk
  go_enter Tryz.func113, Tryz.ntmps113
  go_wp2_with fail
  go_region
  go_wp2
  go_ret
  exact ⟨rfl, bD⟩
set_option maxRecDepth 20000 in
set_option maxHeartbeats 2000000 in
theorem areOf_any (kind : Int) (ks : List Tre) (s : Sl3) (A : Nat → Prop) (w : World) (h : PKids w A s ks) :
    Calls Tryz.prog 101 #[.int .i64 kind, .slice s.1 s.2.1 s.2.2] w fun e w' => e = .returned (.bool (ks.all fun k => k.nd.kind == kind)) ∧ Below w.heap.size w w' := by
  obtain ⟨so, sl, sc⟩ := s
  have b1 := (Below.refl w.heap.size w).alloc (Nat.le_refl _) (.cells #[.int .i64 kind] 3)
  obtain ⟨h1, h2, h3, bs, h4⟩ := h.under b1
  simp only at h1 h2
  subst h1
  have hbx : (w.alloc (.cells #[.int .i64 kind] 3)).cell? ⟨w.heap.size, 0, none⟩ = some (.int .i64 kind) := by rw [cell_of_row _ _ _ _ _ _ (heap_alloc_new _ _)]; rfl
  have HCN := containsA_any ks.length sc so h3 h2 (fun j => (ks.getD j (.mk Nd.zero [])).nd.kind != kind) bs (w.alloc (.cells #[.int .i64 kind] 3)) w.heap.size (fun j hj => by
      obtain ⟨g, e, -, hc, -⟩ := h4 j hj
      exact ⟨g, e, hc⟩) (fun j hj wr hb => by
      obtain ⟨g, e, -, hc, hr⟩ := h4 j hj
      have e9 : ks.getD j (.mk Nd.zero []) = ks[j] := by simp [hj]
      rw [e9]
      have hr9 := hr.under hb
      have hb9 := hb.block w.heap.size (by simp)
      have hx9 : wr.cell? ⟨w.heap.size, 0, none⟩ = some (.int .i64 kind) := by rw [← hbx]; simp only [World.cell?, hb9]
      generalize ks[j] = T at hr9
      obtain ⟨nT, kT⟩ := T
      exact areOf1_any kind nT kT (bs j) w.heap.size A wr hr9 hx9)
  have HV : Hid ((ks.all fun k => k.nd.kind == kind) = !((List.range ks.length).any fun j => (ks.getD j (.mk Nd.zero [])).nd.kind != kind)) := by
    show _ = _
    rw [range_any (p := fun k => k.nd.kind != kind) rfl]
    simp [List.all_eq_not_any_not, bne]
  obtain ⟨v, hv⟩ : ∃ v, ((List.range ks.length).any fun j => (ks.getD j (.mk Nd.zero [])).nd.kind != kind) = v := ⟨_, rfl⟩
  rw [hv] at HCN HV
  have HB : Hid _ := b1
  clear hv h4 hbx h b1
  go_enter Tryz.func101, Tryz.ntmps101
  go_wp2_with fail
  refine HCN.mono ?_
  rintro e w1 ⟨rfl, hb1⟩
  have hbb := Below.step HB.out hb1
  clear HCN hb1
  go_wp2
  go_ret
  exact ⟨by rw [HV.out]; rfl, hbb⟩
end Go.Proofs.YtemancdlnakkmaaGreat

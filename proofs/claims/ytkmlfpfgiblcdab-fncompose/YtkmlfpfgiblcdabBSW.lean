
import Derived.Test.YtkmlfpfgiblcdabBS
import Derived.Deep.RegionWith
namespace Go.Proofs.Ytkmlfpfgiblcdab
open Go.RowKit

theorem tys_take (bs : List (Int × List Nd)) (k : Nat) : tys (bs.take k) = (tys bs).take k := by simp [tys]

theorem tys_get (bs : List (Int × List Nd)) (k : Nat) (h : k < bs.length) : (tys bs)[k]'(by simpa [tys] using h) = bs[k].2 := by simp [tys]

set_option maxHeartbeats 400000 in
theorem szBindS_any (bs : List (Int × List Nd)) (n : Nat) (HN : Hid (bs.length = n)) (ao : Option Addr) (cap : Nat) (left : Int) (w : World) (hx : Binds w ao bs) (hs : ∀ b ∈ bs, ∀ x ∈ b.2, x.text.size ≤ maxLen)
    (hm : ∀ b ∈ bs, b.2.length ≤ 9223372036854775807) (hlen : n ≤ 9223372036854775807) (h0 : 0 ≤ left) (h1 : left ≤ 1048576) :
    Calls Try.prog 23 #[.slice ao n cap, .int .i64 left] w fun e w' =>
      (∃ r : Int, e = .returned (.int .i64 r) ∧ (r = -1 ∨ (0 ≤ r ∧ r ≤ left - n - total (tys bs)))) ∧ Below w.heap.size w w' := by
  by_cases hl : left < n
  · clear hx hs hm
    go_enter Try.func23, Try.ntmps23
    go_wp2
    go_ret
    exact ⟨⟨-1, rfl, Or.inl rfl⟩, Below.refl _ _⟩
  · go_enter Try.func23, Try.ntmps23
    go_wp2
    go_loopw [1, 5] (fun l i wr => ∃ (k : Nat) (r : Int), k ≤ n ∧ i = .int .i64 k ∧ l = .int .i64 r ∧ 0 ≤ r ∧ r ≤ left - n - total ((tys bs).take k) ∧ Below w.heap.size w wr) (fun _ i _ => n - (intOf i).toNat)
    case atStart => exact ⟨0, _, Nat.zero_le _, rfl, rfl, by omega, by simp [total], Below.refl _ _⟩
    case round =>
      obtain ⟨k, r, hk, rfl, rfl, hr0, hr1, hb⟩ := hrel
      by_cases hlt : k < n
      · have hltk : k < bs.length := by have := HN.out; omega
        obtain ⟨b, o, ai, ci, rfl, hc0, hc, hn⟩ := hx.below hb k hltk
        have hsk := hs bs[k] (List.getElem_mem hltk)
        have hmk := hm bs[k] (List.getElem_mem hltk)
        have HT : Hid (total ((tys bs).take (k + 1)) = total ((tys bs).take k) + bs[k].2.length) := by
          have h9 := total_take_succ (tys bs) k (by simpa [tys] using hltk)
          rw [tys_get bs k hltk] at h9
          exact h9
        obtain ⟨⟨bn, ks⟩, hbk⟩ : ∃ p, bs[k] = p := ⟨_, rfl⟩
        rw [hbk] at hc0 hc hn hsk hmk HT
        simp only at hc0 hc hn hsk hmk HT
        obtain ⟨l, hl9⟩ : ∃ l, ks.length = l := ⟨_, rfl⟩
        have HL : Hid (ks.length = l) := hl9
        rw [hl9] at hc hmk HT
        clear hx hs hm hbk hl9
        go_wp2_with fail
        refine (szBind_any bn ks l HL ai ci r wr hn hsk hmk hr0 (by omega)).mono ?_
        rintro e w1 ⟨⟨r', rfl, hr'⟩, hb1⟩
        rcases hr' with hr' | ⟨hr2, hr3⟩
        · subst hr'
          go_wp2
          go_ret
          exact ⟨⟨-1, rfl, Or.inl rfl⟩, Below.step hb hb1⟩
        · have hbb := Below.step hb hb1
          clear hb1 hb hc hn hc0
          go_wp2
          go_roundw
          case rel => exact ⟨k + 1, r', by omega, by go_num, rfl, hr2, by have := HT.out; omega, hbb⟩
          case measure => simp [intOf]; omega
      · have HE : Hid ((tys bs).take k = tys bs) := List.take_of_length_le (by have := HN.out; simp [tys]; omega)
        clear hx hs hm
        go_wp2
        go_ret
        exact ⟨⟨r, rfl, Or.inr ⟨hr0, by have := hr1; rw [HE.out] at this; exact this⟩⟩, hb⟩

theorem Try.infoB : (Try.prog.info? 71).map (fun i => (i.zero, i.size, i.bytes)) = some (some (.agg #[.int .i64 0, .slice none 0 0]), 2, 32) := by kernel_rfl

theorem make_binds (n : Nat) (h : n ≤ 1048576) (w : World) :
    (Instr.makeSlice 38 (.int .i64 (n : Int)) (.int .i64 (n : Int))).run Try.prog w = .ok (.slice (some ⟨w.heap.size, 0, none⟩) n n) (w.alloc (.cells (madeCells #[.int .i64 0, .slice none 0 0] (n * 2)) 71)) := by
  obtain ⟨i, hi, hzz⟩ := Option.map_eq_some_iff.1 Try.infoB
  simp only [Prod.mk.injEq] at hzz
  obtain ⟨hz, hs, hb⟩ := hzz
  have hr := run_make (P := Try.prog) w 38 71 i _ Try.underlying38 hi hz .i64 .i64 n n (by omega) (Int.le_refl _) (by rw [hb]; omega) (by omega)
  simp only [Int.toNat_natCast, hs] at hr
  exact hr

/-- A Bind that is not yet there. -/
def noBind : Value × Value := (.int .i64 0, .slice none 0 0)

theorem made_binds (n : Nat) : (madeCells #[.int .i64 0, .slice none 0 0] (n * 2)).toList = cells2 (List.replicate n noBind) := by
  apply List.ext_getElem?
  intro j
  by_cases hj : j < n * 2
  · have e : j = (j / 2) * 2 + j % 2 := by omega
    have hq : j / 2 < n := by omega
    have hr : j % 2 < 2 := by omega
    generalize j / 2 = q at *
    generalize j % 2 = r at *
    subst e
    obtain ⟨g0, g1⟩ := cells2_get (List.replicate n noBind) q (by simpa using hq)
    have em : (q * 2 + r) % 2 = r := by omega
    simp only [madeCells, Array.toList_map, List.getElem?_map, Array.toList_range]
    rw [List.getElem?_range hj]
    match r, hr with
    | 0, _ => rw [Nat.add_zero, g0]; simp [noBind]
    | 1, _ => rw [g1]; simp [noBind, em]
  · rw [List.getElem?_eq_none (by simp [madeCells]; omega), List.getElem?_eq_none (by simp [cells2_length]; omega)]

/-- The Binds that lead to the rows gs. -/
def leadP (gs : List Nat) (bs : List (Int × List Nd)) : List (Value × Value) := List.zipWith (fun h b => (.int .i64 b.1, .slice (some ⟨h, 0, none⟩) b.2.length b.2.length)) gs bs

theorem leadP_step (gs : List Nat) (bs : List (Int × List Nd)) (k g' : Nat) (hk : k < bs.length) (hg : gs.length = k) :
    (leadP gs (bs.take k) ++ List.replicate (bs.length - k) noBind).set k (.int .i64 bs[k].1, .slice (some ⟨g', 0, none⟩) bs[k].2.length bs[k].2.length) =
      leadP (gs ++ [g']) (bs.take (k + 1)) ++ List.replicate (bs.length - (k + 1)) noBind := by
  have hl : (leadP gs (bs.take k)).length = k := by simp [leadP]; omega
  rw [List.set_append_right _ _ (by omega), hl, Nat.sub_self]
  have e2 : bs.length - k = (bs.length - (k + 1)) + 1 := by omega
  rw [e2, List.replicate_succ, List.set_cons_zero, List.take_succ_eq_append_getElem hk]
  have e3 : leadP (gs ++ [g']) (bs.take k ++ [bs[k]]) = leadP gs (bs.take k) ++ [(.int .i64 bs[k].1, .slice (some ⟨g', 0, none⟩) bs[k].2.length bs[k].2.length)] := by
    unfold leadP
    rw [List.zipWith_append (by simp; omega)]
    rfl
  rw [e3, List.append_assoc]
  rfl

/-- Block g is a row of Binds of the call's own. -/
def OwnB (w : World) (g : Nat) (ps : List (Value × Value)) : Prop := OwnT 71 w g (cells2 ps)

theorem OwnB.ne {w : World} {g h : Nat} {ps : List (Value × Value)} {ds : List Value} (a : OwnB w g ps) (b : Own w h ds) : h ≠ g := by
  rintro rfl
  obtain ⟨cur, _, hg, _⟩ := a
  obtain ⟨cur', _, hg', _⟩ := b
  rw [hg] at hg'
  simp at hg'

theorem OwnB.at {w : World} {g : Nat} {ps : List (Value × Value)} (h : OwnB w g ps) (i : Nat) (hi : i < ps.length) : w.cell? ⟨g, i * 2, none⟩ = some ps[i].1 ∧ w.cell? ⟨g, i * 2 + 1, none⟩ = some ps[i].2 := by
  have hl := cells2_length ps
  obtain ⟨h1, h2⟩ := cells2_get ps i hi
  exact ⟨(OwnT.at h _ (by omega)).trans h1, (OwnT.at h _ (by omega)).trans h2⟩

theorem OwnB.put {w : World} {g : Nat} {ps : List (Value × Value)} (h : OwnB w g ps) (j : Nat) (hj : j < ps.length) (a b : Value) : OwnB ((w.setCell ⟨g, j * 2, none⟩ a).setCell ⟨g, j * 2 + 1, none⟩ b) g (ps.set j (a, b)) := by
  have hl := cells2_length ps
  have h9 := OwnT.set (OwnT.set h (j * 2) a (by omega)) (j * 2 + 1) b (by simp; omega)
  rw [cells2_set ps j (a, b)] at h9
  exact h9

/-- All of it: the row g of Binds, the rows gs of nodes, no two of them one. -/
structure TwoB (w : World) (g : Nat) (gs : List Nat) (bs : List (Int × List Nd)) : Prop where
  lead : OwnB w g (leadP gs bs)
  rows : RowsAt w gs (tys bs)
  nodup : gs.Nodup

theorem TwoB.below {w w' : World} {g : Nat} {gs : List Nat} {bs : List (Int × List Nd)} (h : TwoB w g gs bs) (hb : Below w.heap.size w w') : TwoB w' g gs bs :=
  ⟨OwnT.below h.lead hb, h.rows.below hb, h.nodup⟩

theorem TwoB.get {w : World} {g : Nat} {gs : List Nat} {bs : List (Int × List Nd)} (h : TwoB w g gs bs) (i : Nat) (hi : i < bs.length) (hi' : i < gs.length) :
    w.cell? ⟨g, i * 2, none⟩ = some (.int .i64 bs[i].1) ∧ w.cell? ⟨g, i * 2 + 1, none⟩ = some (.slice (some ⟨gs[i], 0, none⟩) bs[i].2.length bs[i].2.length) ∧ Row w gs[i] bs[i].2 := by
  obtain ⟨h1, h2⟩ := h.lead.at i (by simp [leadP]; omega)
  have hr := h.rows.2 i hi' (by simpa [tys] using hi)
  rw [tys_get bs i hi] at hr
  refine ⟨?_, ?_, hr⟩
  · rw [h1]; simp [leadP]
  · rw [h2]; simp [leadP]

theorem TwoB.binds {w : World} {g : Nat} {gs : List Nat} {bs : List (Int × List Nd)} (h : TwoB w g gs bs) : Binds w (some ⟨g, 0, none⟩) bs := by
  intro i hi
  have hi' : i < gs.length := by have h9 := h.rows.1; simp [tys] at h9; omega
  obtain ⟨h0, hc, hr⟩ := h.get i hi hi'
  exact ⟨g, 0, _, _, rfl, by rw [Nat.zero_add]; exact h0, by rw [Nat.zero_add]; exact hc, hr.nodes⟩

theorem RowsAt.putB {w : World} {gs : List Nat} {kss : List (List Nd)} {g : Nat} {ps : List (Value × Value)} (h : RowsAt w gs kss) (ho : OwnB w g ps) (j : Nat) (a b : Value) : RowsAt ((w.setCell ⟨g, j * 2, none⟩ a).setCell ⟨g, j * 2 + 1, none⟩ b) gs kss :=
  ⟨h.1, fun i hi hi' => by
    have hr := h.2 i hi hi'
    exact (((But.refl (· = g) w).setCell (p := ⟨g, j * 2, none⟩) rfl a).setCell (p := ⟨g, j * 2 + 1, none⟩) rfl b).row hr (ho.ne hr)⟩

set_option maxHeartbeats 400000 in
theorem toBindS_any (bs : List (Int × List Nd)) (n : Nat) (HN : Hid (bs.length = n)) (ao : Option Addr) (cap : Nat) (w : World) (hx : Binds w ao bs) (hm : ∀ b ∈ bs, b.2.length ≤ 1048576) (hlen : n ≤ 1048576) :
    Calls Try.prog 25 #[.slice ao n cap] w fun e w' =>
      ∃ g gs, e = .returned (.slice (some ⟨g, 0, none⟩) n n) ∧ w.heap.size ≤ g ∧ (∀ x ∈ gs, w.heap.size ≤ x) ∧ TwoB w' g gs bs ∧ Below w.heap.size w w' := by
  have hmk := make_binds n hlen
  go_enter Try.func25, Try.ntmps25
  go_wp2
  clear hmk
  go_loopw [4] (fun i wr => ∃ (k : Nat) (gs : List Nat), k ≤ n ∧ i = .int .i64 k ∧ OwnB wr w.heap.size (leadP gs (bs.take k) ++ List.replicate (bs.length - k) noBind) ∧ RowsAt wr gs ((tys bs).take k) ∧ gs.Nodup ∧
    (∀ x ∈ gs, w.heap.size ≤ x ∧ x < wr.heap.size) ∧ Below w.heap.size w wr) (fun i _ => n - (intOf i).toNat)
  case atStart => exact ⟨0, [], Nat.zero_le _, rfl, ⟨_, [], heap_alloc_new _ _, by rw [made_binds, HN.out]; simp [leadP]⟩, ⟨by simp, fun i hi => by simp at hi⟩, by simp, by simp, (Below.refl _ _).alloc (Nat.le_refl _) _⟩
  case round =>
    obtain ⟨k, gs, hk, rfl, hown, hrows, hnd, hgs, hb⟩ := hrel
    by_cases hlt : k < n
    · have hltk : k < bs.length := by have := HN.out; omega
      have hltt : k < (tys bs).length := by simpa [tys] using hltk
      obtain ⟨b, o, ai, ci, rfl, hc0, hc, hn⟩ := hx.below hb k hltk
      have hmk := hm bs[k] (List.getElem_mem hltk)
      have hgl : gs.length = k := by have := hrows.1; simp at this; omega
      have HST := leadP_step gs bs k
      have hty := tys_get bs k hltk
      obtain ⟨⟨bn, ks⟩, hbk⟩ : ∃ p, bs[k] = p := ⟨_, rfl⟩
      have HST2 : Hid (∀ g', (leadP gs (bs.take k) ++ List.replicate (bs.length - k) noBind).set k (.int .i64 bn, .slice (some ⟨g', 0, none⟩) ks.length ks.length) = leadP (gs ++ [g']) (bs.take (k + 1)) ++ List.replicate (bs.length - (k + 1)) noBind) := by
        intro g'
        have h9 := HST g' hltk hgl
        rw [hbk] at h9
        exact h9
      rw [hbk] at hc0 hc hn hmk hty
      simp only at hc0 hc hn hmk hty
      obtain ⟨l, hl9⟩ : ∃ l, ks.length = l := ⟨_, rfl⟩
      have HL : Hid (ks.length = l) := hl9
      rw [hl9] at hc hmk HST2
      have HTY : Hid ((tys bs)[k] = ks) := hty
      clear hx hm HST hl9 hbk hty
      have HGS : Hid (∀ x ∈ gs, w.heap.size ≤ x ∧ x < wr.heap.size) := hgs
      have HND : Hid gs.Nodup := hnd
      have HGL : Hid (gs.length = k) := hgl
      clear hgs hnd hgl
      go_wp2_with fail
      refine (toBind_any bn ks l HL ai ci wr hn hmk).mono ?_
      rintro e w1 ⟨g', rfl, hg', hrow, hb1⟩
      have o1 : OwnB w1 w.heap.size _ := OwnT.below hown hb1
      have f0 := OwnT.frozen o1 (k * 2)
      have f1 := OwnT.frozen o1 (k * 2 + 1)
      have hll : k < (leadP gs (bs.take k) ++ List.replicate (bs.length - k) noBind).length := by
        have := HGL.out; simp [leadP]; omega
      obtain ⟨a0, a1⟩ := o1.at k hll
      have r1 := (hrows.below hb1).snoc hltt (by rw [HTY.out]; exact hrow)
      have r2 := r1.putB o1 k (.int .i64 bn) (.slice (some ⟨g', 0, none⟩) l l)
      have o2 := o1.put k hll (.int .i64 bn) (.slice (some ⟨g', 0, none⟩) l l)
      rw [HST2.out g'] at o2
      have hbb := ((Below.step hb hb1).setCell (p := ⟨w.heap.size, k * 2, none⟩) (Nat.le_refl _) (.int .i64 bn)).setCell (p := ⟨w.heap.size, k * 2 + 1, none⟩) (Nat.le_refl _) (.slice (some ⟨g', 0, none⟩) l l)
      have HG2 : Hid (∀ x ∈ gs ++ [g'], w.heap.size ≤ x ∧ x < ((w1.setCell ⟨w.heap.size, k * 2, none⟩ (.int .i64 bn)).setCell ⟨w.heap.size, k * 2 + 1, none⟩ (.slice (some ⟨g', 0, none⟩) l l)).heap.size) := by
        intro x hx
        rw [size_setCell, size_setCell]
        rcases List.mem_append.1 hx with h | h
        · have := HGS.out x h; have := hb1.size; omega
        · simp at h; subst h; have := hb.size; have := hrow.lt; omega
      have HN2 : Hid (gs ++ [g']).Nodup := by
        refine List.nodup_append.2 ⟨HND.out, by simp, ?_⟩
        intro x hx y hy
        simp at hy
        subst hy
        have := HGS.out x hx
        omega
      generalize (leadP gs (bs.take k) ++ List.replicate (bs.length - k) noBind)[k].1 = v0 at a0
      generalize (leadP gs (bs.take k) ++ List.replicate (bs.length - k) noBind)[k].2 = v1 at a1
      clear hrow hown hrows hb hb1 o1 r1 hc hn hg' hc0 hll
      go_wp2
      go_roundw
      case rel => exact ⟨k + 1, gs ++ [g'], by omega, by go_num, o2, r2, HN2.out, HG2.out, hbb⟩
      case measure => simp [intOf]; omega
    · have hke : k = n := by omega
      subst hke
      have HE : Hid (bs.take k = bs) := List.take_of_length_le (by have := HN.out; omega)
      have HE2 : Hid ((tys bs).take k = tys bs) := List.take_of_length_le (by have := HN.out; simp [tys]; omega)
      have HT : Hid (TwoB wr w.heap.size gs bs) := by
        rw [HE.out] at hown
        rw [HE2.out] at hrows
        have e : bs.length - k = 0 := by have := HN.out; omega
        rw [e] at hown
        exact ⟨by simpa using hown, hrows, hnd⟩
      clear hx hm hown hrows hnd
      go_wp2
      go_ret
      exact ⟨_, gs, rfl, Nat.le_refl _, fun x hx => (hgs x hx).1, HT.out, hb⟩

end Go.Proofs.Ytkmlfpfgiblcdab

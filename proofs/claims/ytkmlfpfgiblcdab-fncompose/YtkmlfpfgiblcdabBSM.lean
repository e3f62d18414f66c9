
import Derived.Test.YtkmlfpfgiblcdabBSW
import Derived.Test.YtkmlfpfgiblcdabHeld
namespace Go.Proofs.Ytkmlfpfgiblcdab
open Go.RowKit

set_option maxHeartbeats 1000000 in
theorem eqBindS_same (bs : List (Int × List Nd)) (n : Nat) (HN : Hid (bs.length = n)) (ao bo : Option Addr) (cap cbp : Nat) (w : World) (hx : Binds w ao bs) (hy : Binds w bo bs) (hm : ∀ b ∈ bs, b.2.length ≤ 1048576) (hlx : n ≤ 1048576) :
    Calls Try.prog 27 #[.slice ao n cap, .slice bo n cbp] w fun e w' => e = .returned (.bool true) ∧ Below w.heap.size w w' := by
  go_enter Try.func27, Try.ntmps27
  go_wp2
  go_loopw [5] (fun i wr => ∃ (k : Nat), k ≤ n ∧ i = .int .i64 k ∧ Below w.heap.size w wr) (fun i _ => n - (intOf i).toNat)
  case atStart => exact ⟨0, Nat.zero_le _, rfl, Below.refl _ _⟩
  case round =>
    obtain ⟨k, hk, rfl, hb⟩ := hrel
    by_cases hlt : k < n
    · have hltk : k < bs.length := by have := HN.out; omega
      obtain ⟨b, o, ai, ci, rfl, hc0, hc, hn⟩ := hx.below hb k hltk
      obtain ⟨b', o', ai', ci', rfl, hc0', hc', hn'⟩ := hy.below hb k hltk
      have hmk := hm bs[k] (List.getElem_mem hltk)
      obtain ⟨⟨bn, ks⟩, hks⟩ : ∃ p, bs[k] = p := ⟨_, rfl⟩
      rw [hks] at hc hc' hn hn' hmk hc0 hc0'
      simp only at hc hc' hn hn' hmk hc0 hc0'
      obtain ⟨l, hl⟩ : ∃ l, ks.length = l := ⟨_, rfl⟩
      have HL : Hid (ks.length = l) := hl
      rw [hl] at hc hc' hmk
      have hlb : b < wr.heap.size := lt_of_cell hc
      have hlb' : b' < wr.heap.size := lt_of_cell hc'
      have hB : Below wr.heap.size wr wr.drew := (Below.refl _ _).drew
      have hnd := hn.below hB
      have hnd' := hn'.below hB
      clear hx hy hm hks hl hn hn'
      go_wp2_with fail
      go_region_with (go_at_call 58; refine (eqBind_same bn ks l HL ai ai' ci ci' _ hnd hnd' (by omega)).mono ?_; rintro e w1 ⟨rfl, hb1⟩)
      all_goals
        have hbb := Below.step hb (undrew hb1)
        clear hb hb1 hc hc' hc0 hc0' hB hnd hnd'
        go_wp2
        go_roundw
        case rel => exact ⟨k + 1, by omega, by go_num, hbb⟩
        case measure => simp [intOf]; omega
    · clear hx hy hm
      go_wp2
      go_ret
      exact ⟨rfl, hb⟩

theorem set_same {α : Type} {xs : List α} {i : Nat} {v : α} (h : xs[i]? = some v) : xs.set i v = xs := by
  apply List.ext_getElem?
  intro j
  by_cases e : i = j
  · subst e
    have hl := (List.getElem?_eq_some_iff.1 h).1
    rw [List.getElem?_set_self hl, h]
  · rw [List.getElem?_set_ne e]

set_option maxHeartbeats 1000000 in
theorem markBindS_any (bs : List (Int × List Nd)) (n : Nat) (HN : Hid (bs.length = n)) (g : Nat) (gs : List Nat) (cap k : Nat) (w : World) (hx : TwoB w g gs bs) (ht : total (tys bs) ≤ 1048576) (hlx : n ≤ 1048576) (hk : k ≤ 10000000) (hk0 : 0 < k) :
    Calls Try.prog 28 #[.slice (some ⟨g, 0, none⟩) n cap, .int .i64 k] w fun e w' => e = .returned (.int .i64 (k + n + 5 * total (tys bs) : Nat)) ∧ But (fun q => q = g ∨ q ∈ gs) w w' := by
  have HG : Hid (gs.length = n) := by have h9 := hx.rows.1; simp [tys] at h9; exact h9.trans HN.out
  go_enter Try.func28, Try.ntmps28
  go_wp2
  go_loopw [1, 5] (fun a i wr => ∃ (j : Nat), j ≤ n ∧ i = .int .i64 j ∧ a = .int .i64 (k + j + 5 * total ((tys bs).take j) : Nat) ∧ (∃ ps, ps.length = n ∧ OwnB wr g ps ∧ ∀ i (h : i < ps.length) (h' : i < (leadP gs bs).length), ps[i].2 = (leadP gs bs)[i].2) ∧ (∀ i (h : i < gs.length) (h' : i < (tys bs).length), j ≤ i → Row wr gs[i] (tys bs)[i]) ∧ But (fun q => q = g ∨ q ∈ gs) w wr) (fun _ i _ => n - (intOf i).toNat)
  case atStart => exact ⟨0, Nat.zero_le _, rfl, rfl, ⟨leadP gs bs, by have := HG.out; have := HN.out; simp [leadP]; omega, hx.lead, fun _ _ _ => rfl⟩, fun i h h' _ => hx.rows.2 i h h', But.refl _ _⟩
  case round =>
    obtain ⟨j, hj, rfl, rfl, ⟨ps, hpl, hown, hps⟩, hrows, hb⟩ := hrel
    by_cases hlt : j < n
    · have hltk : j < bs.length := by have := HN.out; omega
      have hltt : j < (tys bs).length := by simpa [tys] using hltk
      have hltg : j < gs.length := by have := HG.out; omega
      obtain ⟨a0, a1⟩ := hown.at j (by omega)
      have hle : j < (leadP gs bs).length := by simp [leadP]; omega
      rw [hps j (by omega) hle] at a1
      have hlp : (leadP gs bs)[j].2 = .slice (some ⟨gs[j], 0, none⟩) (tys bs)[j].length (tys bs)[j].length := by
        rw [tys_get bs j hltk]; simp [leadP]
      rw [hlp] at a1
      have hr := hrows j hltg hltt (Nat.le_refl _)
      have hts := total_take_succ (tys bs) j hltt
      have htl := total_take_le (tys bs) (j + 1)
      obtain ⟨q, hq⟩ : ∃ q, k + j + 5 * total ((tys bs).take j) = q := ⟨_, rfl⟩
      obtain ⟨l, hl⟩ : ∃ l, (tys bs)[j].length = l := ⟨_, rfl⟩
      have HQ : Hid (k + (j + 1) + 5 * total ((tys bs).take (j + 1)) = q + 1 + 5 * l) := by show k + (j + 1) + 5 * total ((tys bs).take (j + 1)) = q + 1 + 5 * l; omega
      have hq1 : q ≤ 20000000 := by omega
      have hl1 : l ≤ 1048576 := by omega
      have hq0 : 0 < q := by omega
      have HL : Hid ((tys bs)[j].length = l) := hl
      have hne := hown.ne hr
      have HND : Hid gs.Nodup := hx.nodup
      have f0 := OwnT.frozen hown (j * 2)
      have hgl := OwnT.lt hown
      rw [hq]
      rw [hl] at a1
      obtain ⟨v0, hv0⟩ : ∃ v, ps[j].1 = v := ⟨_, rfl⟩
      rw [hv0] at a0
      have bS : But (· = g) wr (wr.setCell ⟨g, j * 2, none⟩ (.int .i64 (q : Int))) := (But.refl (· = g) wr).setCell (p := ⟨g, j * 2, none⟩) rfl _
      have hrS := bS.row hr hne
      have HR : Hid (∀ i (h : i < gs.length) (h' : i < (tys bs).length), j ≤ i → Row (wr.setCell ⟨g, j * 2, none⟩ (.int .i64 (q : Int))) gs[i] (tys bs)[i]) := fun i h h' hi => bS.row (hrows i h h' hi) (hown.ne (hrows i h h' hi))
      have hoS : OwnB (wr.setCell ⟨g, j * 2, none⟩ (.int .i64 (q : Int))) g (ps.set j (.int .i64 (q : Int), .slice (some ⟨gs[j], 0, none⟩) l l)) := by
        have h9 := OwnT.set hown (j * 2) (.int .i64 (q : Int)) (by rw [cells2_length]; omega)
        have e9 : (cells2 ps).set (j * 2) (.int .i64 (q : Int)) = cells2 (ps.set j (.int .i64 (q : Int), .slice (some ⟨gs[j], 0, none⟩) l l)) := by
          rw [← cells2_set ps j (.int .i64 (q : Int), .slice (some ⟨gs[j], 0, none⟩) l l)]
          have h8 := (cells2_get ps j (by omega)).2
          rw [hps j (by omega) hle, hlp, hl] at h8
          have h7 : ((cells2 ps).set (j * 2) (.int .i64 (q : Int)))[j * 2 + 1]? = some (.slice (some ⟨gs[j], 0, none⟩) l l) := by
            rw [List.getElem?_set_ne (by omega)]; exact h8
          exact (set_same h7).symm
        rw [e9] at h9
        exact h9
      have HPS : Hid (∀ i (h : i < (ps.set j (.int .i64 (q : Int), .slice (some ⟨gs[j], 0, none⟩) l l)).length) (h' : i < (leadP gs bs).length), (ps.set j (.int .i64 (q : Int), .slice (some ⟨gs[j], 0, none⟩) l l))[i].2 = (leadP gs bs)[i].2) := by
        intro i h h'
        by_cases e : i = j
        · subst e
          rw [List.getElem_set_self, hlp, hl]
        · rw [List.getElem_set_ne (by omega)]
          exact hps i (by simpa using h) h'
      have bbS : But (fun q => q = g ∨ q ∈ gs) w (wr.setCell ⟨g, j * 2, none⟩ (.int .i64 (q : Int))) := hb.trans (bS.mono (fun q hq => Or.inl hq))
      clear hts htl hq hl hx hrows hps hown hlp hv0 hle hr bS
      go_wp2_with fail
      refine (markNodeS_any (tys bs)[j] l gs[j] l (q + 1) _ HL hrS (by omega) (by omega) (by omega)).mono ?_
      rintro e w1 ⟨rfl, _, hb1⟩
      have o1 : OwnB w1 g _ := OwnT.but hoS hb1 (fun e => hne e.symm)
      have bb := bbS.trans (hb1.mono (fun q hq => Or.inr (by rw [hq]; exact List.getElem_mem hltg)))
      have HR2 : Hid (∀ i (h : i < gs.length) (h' : i < (tys bs).length), j + 1 ≤ i → Row w1 gs[i] (tys bs)[i]) := by
        intro i h h' hi
        refine hb1.row (HR.out i h h' (by omega)) ?_
        intro e
        have := (List.getElem_inj (h₀ := h) (h₁ := hltg) HND.out).1 e
        omega
      clear hb hb1 hoS hne HR bbS a0 a1 f0 hrS
      go_wp2
      go_roundw
      case rel => exact ⟨j + 1, by omega, by go_num, by rw [HQ.out]; go_num, ⟨_, by simp [hpl], o1, HPS.out⟩, HR2.out, bb⟩
      case measure => simp [intOf]; omega
    · have hje : j = n := by omega
      subst hje
      have HE : Hid ((tys bs).take j = tys bs) := List.take_of_length_le (by have := HN.out; simp [tys]; omega)
      clear hx hrows hown hps
      go_wp2
      go_ret
      exact ⟨by rw [HE.out]; congr 1, hb⟩

end Go.Proofs.Ytkmlfpfgiblcdab

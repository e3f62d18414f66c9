import Derived.Test.YtljdcaoibnikjaaYAM
import Derived.Test.YtljdcaoibnikjaaYAO
import Derived.Test.YtljdcaoibnikjaaYAE
namespace Go.Proofs.Ytljdcaoibnikjaa
open Go.RowKit

/-- What l8Bound answers. -/
def boundIn (bs : List (Int × List Nd)) (x : Int) : Int := if placeIn (bs.map Prod.fst) x < bs.length then (placeIn (bs.map Prod.fst) x : Int) else -1

set_option maxHeartbeats 1000000 in
theorem bound_any (bs : List (Int × List Nd)) (n : Nat) (HM : Hid (bs.length = n)) (hn : n ≤ 1048576) (x : Int) (ao : Option Addr) (cap : Nat) (w : World) (hr : Binds w ao bs) :
    Calls Try.prog 44 #[.slice ao n cap, .int .i64 x] w fun e w' => e = .returned (.int .i64 (boundIn bs x)) ∧ Below w.heap.size w w' := by
  go_enter Try.func44, Try.ntmps44
  go_wp2
  go_loopw [5] (fun i wr => ∃ (k : Nat), k ≤ n ∧ i = .int .i64 k ∧ (∀ i (h : i < (bs.map Prod.fst).length), i < k → (bs.map Prod.fst)[i] ≠ x) ∧ Below w.heap.size w wr) (fun i _ => n - (intOf i).toNat)
  case atStart => exact ⟨0, Nat.zero_le _, rfl, fun i _ h => absurd h (by omega), Below.refl _ _⟩
  case round =>
    obtain ⟨k, hk, rfl, hall, hb⟩ := hrel
    by_cases hlt : k < n
    · have hltx : k < bs.length := by have := HM.out; omega
      have hltm : k < (bs.map Prod.fst).length := by simp; exact hltx
      obtain ⟨b, o, ai, ci, rfl, c0, _, _⟩ := hr.below hb k hltx
      have hlb : b < wr.heap.size := lt_of_cell c0
      by_cases he : bs[k].1 = x
      · have HV : Hid (boundIn bs x = (k : Int)) := by
          have h9 := placeIn_found (x := x) hltm (by simpa using he) hall
          show boundIn bs x = _
          unfold boundIn
          rw [h9, if_pos hltx]
        rw [he] at c0
        have te : ((x : Int) == x) = true := by simp
        clear hall hr he
        go_wp2
        go_ret
        exact ⟨by rw [HV.out]; rfl, hb⟩
      · have te : (bs[k].1 == x) = false := by simpa using he
        have HA : Hid (∀ i (h : i < (bs.map Prod.fst).length), i < k + 1 → (bs.map Prod.fst)[i] ≠ x) := by
          intro i h hi
          by_cases e : i = k
          · subst e; simpa using he
          · exact hall i h (by omega)
        obtain ⟨v, hv⟩ : ∃ v, bs[k].1 = v := ⟨_, rfl⟩
        rw [hv] at c0 te
        clear hall hr he hv
        go_wp2
        go_roundw
        case rel => exact ⟨k + 1, by omega, by go_num, HA.out, hb⟩
        case measure => simp [intOf]; omega
    · have HV : Hid (boundIn bs x = -1) := by
        have h9 := placeIn_none (met := bs.map Prod.fst) (x := x) (fun i h => hall i h (by have := HM.out; simp at h; omega))
        show boundIn bs x = _
        unfold boundIn
        rw [h9, if_neg (by simp)]
      clear hall hr
      go_wp2
      go_ret
      exact ⟨by rw [HV.out]; rfl, hb⟩

theorem But.cell {S : Nat → Prop} {w w' : World} (h : But S w w') {b o : Nat} (hlt : b < w.heap.size) (hn : ¬ S b) : w'.cell? ⟨b, o, none⟩ = w.cell? ⟨b, o, none⟩ :=
  World.cell?_of_block (a := ⟨b, o, none⟩) (h.block b hlt hn)

theorem Nodes.but {S : Nat → Prop} {w w' : World} {ao : Option Addr} {xs : List Nd} (h : Nodes w ao xs) (hb : But S w w') (hd : ∀ b o, ao = some ⟨b, o, none⟩ → ¬ S b) : Nodes w' ao xs := by
  intro i hi
  obtain ⟨b, o, e, c0, c1, c2, c3, c4⟩ := h i hi
  have hlt : b < w.heap.size := lt_of_cell c0
  have hn := hd b o e
  exact ⟨b, o, e, (hb.cell hlt hn).trans c0, (hb.cell hlt hn).trans c1, (hb.cell hlt hn).trans c2, (hb.cell hlt hn).trans c3, (hb.cell hlt hn).trans c4⟩

theorem But.grown {S : Nat → Prop} {w a b : World} {g : Nat} (h : But S w a) (hg : a.grownBy b (some g)) (hs : g < w.heap.size → S g) : But S w b :=
  ⟨hg.os.trans h.os, hg.tape.trans h.tape, hg.output.trans h.output, Nat.le_trans h.size hg.size, fun i hi hn => (hg.block i (Nat.lt_of_lt_of_le hi h.size) (by
    intro e
    simp only [Option.some.injEq] at e
    subst e
    exact hn (hs hi))).trans (h.block i hi hn)⟩

theorem But.alloc {S : Nat → Prop} {w a : World} (h : But S w a) (o : Obj) : But S w (a.alloc o) := h.trans (But.ofBelow ((Below.refl _ _).alloc (Nat.le_refl _) _))

/-- What Put lays in the place of a node. -/
def putSub (bs : List (Int × List Nd)) (n : Nd) : List Nd := if n.kind = 61 then ((bs[placeIn (bs.map Prod.fst) n.num]?).map Prod.snd).getD [n] else [n]

def putAll (bs : List (Int × List Nd)) (t : List Nd) : List Nd := t.flatMap (putSub bs)

/-- What Put answers. -/
def putOf (bs : List (Int × List Nd)) (t : List Nd) : List Nd := if typeb t = true ∧ (∀ b ∈ bs, typeb b.2 = true) ∧ (putAll bs t).length ≤ 300 then putAll bs t else []

theorem putAll_take (bs : List (Int × List Nd)) (t : List Nd) (k : Nat) (h : k < t.length) : putAll bs (t.take (k + 1)) = putAll bs (t.take k) ++ putSub bs t[k] := by
  rw [List.take_succ_eq_append_getElem h]
  simp only [putAll, List.flatMap_append, List.flatMap_cons, List.flatMap_nil, List.append_nil]

theorem putAll_le (bs : List (Int × List Nd)) (t : List Nd) (k : Nat) : (putAll bs (t.take k)).length ≤ (putAll bs t).length := by
  have e : putAll bs t = putAll bs (t.take k) ++ putAll bs (t.drop k) := by
    conv => lhs; rw [← List.take_append_drop k t]
    simp only [putAll, List.flatMap_append]
  rw [e]
  simp

theorem typeb_pos {t : List Nd} (h : typeb t = true) : 0 < t.length := by
  simp only [typeb, Bool.and_eq_true, decide_eq_true_eq] at h
  by_cases h0 : t.length = 0
  · have := deepOf_nil h0
    omega
  · omega

theorem typeb_len {t : List Nd} (h : typeb t = true) : t.length ≤ 300 := by
  simp only [typeb, Bool.and_eq_true, decide_eq_true_eq] at h
  exact h.1.1

theorem own_cap {w : World} {B g c l : Nat} {zs : List Nd} (h : OwnN w B g c l zs) : l ≤ c := by
  obtain ⟨_, ho⟩ := h
  rcases ho.2 with ⟨h', _⟩ | ⟨g2, cap2, cur, he, _, _, hc, _⟩
  · cases h'
  · simp only [Value.slice.injEq, Option.some.injEq, Addr.mk.injEq, and_true, true_and] at he
    obtain ⟨rfl, rfl⟩ := he
    exact hc

end Go.Proofs.Ytljdcaoibnikjaa

namespace Go.Proofs.Ytljdcaoibnikjaa
open Go.RowKit

set_option maxHeartbeats 1000000 in
theorem eqBindS_same (bs : List (Int × List Nd)) (n : Nat) (HN : Hid (bs.length = n)) (ao bo : Option Addr) (cap cbp : Nat) (w : World) (hx : Binds w ao bs) (hy : Binds w bo bs) (hm : ∀ b ∈ bs, b.2.length ≤ 1048576) (hlx : n ≤ 1048576) :
    Calls Try.prog 9 #[.slice ao n cap, .slice bo n cbp] w fun e w' => e = .returned (.bool true) ∧ Below w.heap.size w w' := by
  go_enter Try.func9, Try.ntmps9
  go_wp2
  go_loopw [5] (fun i wr => ∃ (k : Nat), k ≤ n ∧ i = .int .i64 k ∧ Below w.heap.size w wr) (fun i _ => n - (intOf i).toNat)
  case atStart => exact ⟨0, Nat.zero_le _, rfl, Below.refl _ _⟩
  case round =>
    obtain ⟨k, hk, rfl, hb⟩ := hrel
    by_cases hlt : k < n
    · have hltk : k < bs.length := by have := HN.out; omega
      obtain ⟨b, o, ai, ci, rfl, hc0, hc, hn⟩ := hx.below hb k hltk
      obtain ⟨b', o', ai', ci', rfl, hc0', hc', hn'⟩ := hy.below hb k hltk
      have hmk := hm bs[k] (List.getElem_mem hltk)
      obtain ⟨⟨bn, ks⟩, hks⟩ : ∃ p, bs[k] = p := ⟨_, rfl⟩
      rw [hks] at hc hc' hn hn' hmk hc0 hc0'
      simp only at hc hc' hn hn' hmk hc0 hc0'
      obtain ⟨l, hl⟩ : ∃ l, ks.length = l := ⟨_, rfl⟩
      have HL : Hid (ks.length = l) := hl
      rw [hl] at hc hc' hmk
      have hlb : b < wr.heap.size := lt_of_cell hc
      have hlb' : b' < wr.heap.size := lt_of_cell hc'
      have hB : Below wr.heap.size wr wr.drew := (Below.refl _ _).drew
      have hnd := hn.below hB
      have hnd' := hn'.below hB
      clear hx hy hm hks hl hn hn'
      go_wp2_with fail
      go_region_with (go_at_call 32; refine (eqBind_same bn ks l HL ai ai' ci ci' _ hnd hnd' (by omega)).mono ?_; rintro e w1 ⟨rfl, hb1⟩)
      all_goals
        have hbb := Below.step hb (undrew hb1)
        clear hb hb1 hc hc' hc0 hc0' hB hnd hnd'
        go_wp2
        go_roundw
        case rel => exact ⟨k + 1, by omega, by go_num, hbb⟩
        case measure => simp [intOf]; omega
    · clear hx hy hm
      go_wp2
      go_ret
      exact ⟨rfl, hb⟩

theorem set_same {α : Type} {xs : List α} {i : Nat} {v : α} (h : xs[i]? = some v) : xs.set i v = xs := by
  apply List.ext_getElem?
  intro j
  by_cases e : i = j
  · subst e
    have hl := (List.getElem?_eq_some_iff.1 h).1
    rw [List.getElem?_set_self hl, h]
  · rw [List.getElem?_set_ne e]

set_option maxHeartbeats 1000000 in
theorem markBindS_any (bs : List (Int × List Nd)) (n : Nat) (HN : Hid (bs.length = n)) (g : Nat) (gs : List Nat) (cap k : Nat) (w : World) (hx : TwoB w g gs bs) (ht : total (tys bs) ≤ 1048576) (hlx : n ≤ 1048576) (hk : k ≤ 10000000) (hk0 : 0 < k) :
    Calls Try.prog 12 #[.slice (some ⟨g, 0, none⟩) n cap, .int .i64 k] w fun e w' => e = .returned (.int .i64 (k + n + 5 * total (tys bs) : Nat)) ∧ But (fun q => q = g ∨ q ∈ gs) w w' := by
  have HG : Hid (gs.length = n) := by have h9 := hx.rows.1; simp [tys] at h9; exact h9.trans HN.out
  go_enter Try.func12, Try.ntmps12
  go_wp2
  go_loopw [1, 5] (fun a i wr => ∃ (j : Nat), j ≤ n ∧ i = .int .i64 j ∧ a = .int .i64 (k + j + 5 * total ((tys bs).take j) : Nat) ∧ (∃ ps, ps.length = n ∧ OwnB wr g ps ∧ ∀ i (h : i < ps.length) (h' : i < (leadP gs bs).length), ps[i].2 = (leadP gs bs)[i].2) ∧ (∀ i (h : i < gs.length) (h' : i < (tys bs).length), j ≤ i → Row wr gs[i] (tys bs)[i]) ∧ But (fun q => q = g ∨ q ∈ gs) w wr) (fun _ i _ => n - (intOf i).toNat)
  case atStart => exact ⟨0, Nat.zero_le _, rfl, rfl, ⟨leadP gs bs, by have := HG.out; have := HN.out; simp [leadP]; omega, hx.lead, fun _ _ _ => rfl⟩, fun i h h' _ => hx.rows.2 i h h', But.refl _ _⟩
  case round =>
    obtain ⟨j, hj, rfl, rfl, ⟨ps, hpl, hown, hps⟩, hrows, hb⟩ := hrel
    by_cases hlt : j < n
    · have hltk : j < bs.length := by have := HN.out; omega
      have hltt : j < (tys bs).length := by simpa [tys] using hltk
      have hltg : j < gs.length := by have := HG.out; omega
      obtain ⟨a0, a1⟩ := hown.at j (by omega)
      have hle : j < (leadP gs bs).length := by simp [leadP]; omega
      rw [hps j (by omega) hle] at a1
      have hlp : (leadP gs bs)[j].2 = .slice (some ⟨gs[j], 0, none⟩) (tys bs)[j].length (tys bs)[j].length := by
        rw [tys_get bs j hltk]; simp [leadP]
      rw [hlp] at a1
      have hr := hrows j hltg hltt (Nat.le_refl _)
      have hts := total_take_succ (tys bs) j hltt
      have htl := total_take_le (tys bs) (j + 1)
      obtain ⟨q, hq⟩ : ∃ q, k + j + 5 * total ((tys bs).take j) = q := ⟨_, rfl⟩
      obtain ⟨l, hl⟩ : ∃ l, (tys bs)[j].length = l := ⟨_, rfl⟩
      have HQ : Hid (k + (j + 1) + 5 * total ((tys bs).take (j + 1)) = q + 1 + 5 * l) := by show k + (j + 1) + 5 * total ((tys bs).take (j + 1)) = q + 1 + 5 * l; omega
      have hq1 : q ≤ 20000000 := by omega
      have hl1 : l ≤ 1048576 := by omega
      have hq0 : 0 < q := by omega
      have HL : Hid ((tys bs)[j].length = l) := hl
      have hne := hown.ne hr
      have HND : Hid gs.Nodup := hx.nodup
      have f0 := OwnT.frozen hown (j * 2)
      have hgl := OwnT.lt hown
      rw [hq]
      rw [hl] at a1
      obtain ⟨v0, hv0⟩ : ∃ v, ps[j].1 = v := ⟨_, rfl⟩
      rw [hv0] at a0
      have bS : But (· = g) wr (wr.setCell ⟨g, j * 2, none⟩ (.int .i64 (q : Int))) := (But.refl (· = g) wr).setCell (p := ⟨g, j * 2, none⟩) rfl _
      have hrS := bS.row hr hne
      have HR : Hid (∀ i (h : i < gs.length) (h' : i < (tys bs).length), j ≤ i → Row (wr.setCell ⟨g, j * 2, none⟩ (.int .i64 (q : Int))) gs[i] (tys bs)[i]) := fun i h h' hi => bS.row (hrows i h h' hi) (hown.ne (hrows i h h' hi))
      have hoS : OwnB (wr.setCell ⟨g, j * 2, none⟩ (.int .i64 (q : Int))) g (ps.set j (.int .i64 (q : Int), .slice (some ⟨gs[j], 0, none⟩) l l)) := by
        have h9 := OwnT.set hown (j * 2) (.int .i64 (q : Int)) (by rw [cells2_length]; omega)
        have e9 : (cells2 ps).set (j * 2) (.int .i64 (q : Int)) = cells2 (ps.set j (.int .i64 (q : Int), .slice (some ⟨gs[j], 0, none⟩) l l)) := by
          rw [← cells2_set ps j (.int .i64 (q : Int), .slice (some ⟨gs[j], 0, none⟩) l l)]
          have h8 := (cells2_get ps j (by omega)).2
          rw [hps j (by omega) hle, hlp, hl] at h8
          have h7 : ((cells2 ps).set (j * 2) (.int .i64 (q : Int)))[j * 2 + 1]? = some (.slice (some ⟨gs[j], 0, none⟩) l l) := by
            rw [List.getElem?_set_ne (by omega)]; exact h8
          exact (set_same h7).symm
        rw [e9] at h9
        exact h9
      have HPS : Hid (∀ i (h : i < (ps.set j (.int .i64 (q : Int), .slice (some ⟨gs[j], 0, none⟩) l l)).length) (h' : i < (leadP gs bs).length), (ps.set j (.int .i64 (q : Int), .slice (some ⟨gs[j], 0, none⟩) l l))[i].2 = (leadP gs bs)[i].2) := by
        intro i h h'
        by_cases e : i = j
        · subst e
          rw [List.getElem_set_self, hlp, hl]
        · rw [List.getElem_set_ne (by omega)]
          exact hps i (by simpa using h) h'
      have bbS : But (fun q => q = g ∨ q ∈ gs) w (wr.setCell ⟨g, j * 2, none⟩ (.int .i64 (q : Int))) := hb.trans (bS.mono (fun q hq => Or.inl hq))
      clear hts htl hq hl hx hrows hps hown hlp hv0 hle hr bS
      go_wp2_with fail
      refine (markNodeS_any (tys bs)[j] l gs[j] l (q + 1) _ HL hrS (by omega) (by omega) (by omega)).mono ?_
      rintro e w1 ⟨rfl, _, hb1⟩
      have o1 : OwnB w1 g _ := OwnT.but hoS hb1 (fun e => hne e.symm)
      have bb := bbS.trans (hb1.mono (fun q hq => Or.inr (by rw [hq]; exact List.getElem_mem hltg)))
      have HR2 : Hid (∀ i (h : i < gs.length) (h' : i < (tys bs).length), j + 1 ≤ i → Row w1 gs[i] (tys bs)[i]) := by
        intro i h h' hi
        refine hb1.row (HR.out i h h' (by omega)) ?_
        intro e
        have := (List.getElem_inj (h₀ := h) (h₁ := hltg) HND.out).1 e
        omega
      clear hb hb1 hoS hne HR bbS a0 a1 f0 hrS
      go_wp2
      go_roundw
      case rel => exact ⟨j + 1, by omega, by go_num, by rw [HQ.out]; go_num, ⟨_, by simp [hpl], o1, HPS.out⟩, HR2.out, bb⟩
      case measure => simp [intOf]; omega
    · have hje : j = n := by omega
      subst hje
      have HE : Hid ((tys bs).take j = tys bs) := List.take_of_length_le (by have := HN.out; simp [tys]; omega)
      clear hx hrows hown hps
      go_wp2
      go_ret
      exact ⟨by rw [HE.out]; congr 1, hb⟩

end Go.Proofs.Ytljdcaoibnikjaa

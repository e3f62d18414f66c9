import Derived.Test.YtljdcaoibnikjaaWAO
import Derived.Deep.RegionWith
import Derived.Test.YtljdcaoibnikjaaWAD
namespace Go.Proofs.Ytljdcaoibnikjaa

open Go.RowKit

theorem tys_get (bs : List (Int × List Nd)) (k : Nat) (h : k < bs.length) : (tys bs)[k]'(by simpa [tys] using h) = bs[k].2 := by simp [tys]

theorem Try.infoB : (Try.prog.info? 52).map (fun i => (i.zero, i.size, i.bytes)) = some (some (.agg #[.int .i64 0, .slice none 0 0]), 2, 32) := by kernel_rfl

/-- The Binds that lead to the rows gs. -/
def leadP (gs : List Nat) (bs : List (Int × List Nd)) : List (Value × Value) := List.zipWith (fun h b => (.int .i64 b.1, .slice (some ⟨h, 0, none⟩) b.2.length b.2.length)) gs bs

/-- Block g is a row of Binds of the call's own. -/
def OwnB (w : World) (g : Nat) (ps : List (Value × Value)) : Prop := OwnT 52 w g (cells2 ps)

theorem OwnB.ne {w : World} {g h : Nat} {ps : List (Value × Value)} {ds : List Value} (a : OwnB w g ps) (b : Own w h ds) : h ≠ g := by
  rintro rfl
  obtain ⟨cur, _, hg, _⟩ := a
  obtain ⟨cur', _, hg', _⟩ := b
  rw [hg] at hg'
  simp at hg'

theorem OwnB.at {w : World} {g : Nat} {ps : List (Value × Value)} (h : OwnB w g ps) (i : Nat) (hi : i < ps.length) : w.cell? ⟨g, i * 2, none⟩ = some ps[i].1 ∧ w.cell? ⟨g, i * 2 + 1, none⟩ = some ps[i].2 := by
  have hl := cells2_length ps
  obtain ⟨h1, h2⟩ := cells2_get ps i hi
  exact ⟨(OwnT.at h _ (by omega)).trans h1, (OwnT.at h _ (by omega)).trans h2⟩

theorem OwnB.put {w : World} {g : Nat} {ps : List (Value × Value)} (h : OwnB w g ps) (j : Nat) (hj : j < ps.length) (a b : Value) : OwnB ((w.setCell ⟨g, j * 2, none⟩ a).setCell ⟨g, j * 2 + 1, none⟩ b) g (ps.set j (a, b)) := by
  have hl := cells2_length ps
  have h9 := OwnT.set (OwnT.set h (j * 2) a (by omega)) (j * 2 + 1) b (by simp; omega)
  rw [cells2_set ps j (a, b)] at h9
  exact h9

/-- All of it: the row g of Binds, the rows gs of nodes, no two of them one. -/
structure TwoB (w : World) (g : Nat) (gs : List Nat) (bs : List (Int × List Nd)) : Prop where
  lead : OwnB w g (leadP gs bs)
  rows : RowsAt w gs (tys bs)
  nodup : gs.Nodup

theorem TwoB.below {w w' : World} {g : Nat} {gs : List Nat} {bs : List (Int × List Nd)} (h : TwoB w g gs bs) (hb : Below w.heap.size w w') : TwoB w' g gs bs :=
  ⟨OwnT.below h.lead hb, h.rows.below hb, h.nodup⟩

theorem TwoB.get {w : World} {g : Nat} {gs : List Nat} {bs : List (Int × List Nd)} (h : TwoB w g gs bs) (i : Nat) (hi : i < bs.length) (hi' : i < gs.length) :
    w.cell? ⟨g, i * 2, none⟩ = some (.int .i64 bs[i].1) ∧ w.cell? ⟨g, i * 2 + 1, none⟩ = some (.slice (some ⟨gs[i], 0, none⟩) bs[i].2.length bs[i].2.length) ∧ Row w gs[i] bs[i].2 := by
  obtain ⟨h1, h2⟩ := h.lead.at i (by simp [leadP]; omega)
  have hr := h.rows.2 i hi' (by simpa [tys] using hi)
  rw [tys_get bs i hi] at hr
  refine ⟨?_, ?_, hr⟩
  · rw [h1]; simp [leadP]
  · rw [h2]; simp [leadP]

theorem TwoB.binds {w : World} {g : Nat} {gs : List Nat} {bs : List (Int × List Nd)} (h : TwoB w g gs bs) : Binds w (some ⟨g, 0, none⟩) bs := by
  intro i hi
  have hi' : i < gs.length := by have h9 := h.rows.1; simp [tys] at h9; omega
  obtain ⟨h0, hc, hr⟩ := h.get i hi hi'
  exact ⟨g, 0, _, _, rfl, by rw [Nat.zero_add]; exact h0, by rw [Nat.zero_add]; exact hc, hr.nodes⟩

set_option maxHeartbeats 1000000 in
theorem eqBindS_same (bs : List (Int × List Nd)) (n : Nat) (HN : Hid (bs.length = n)) (ao bo : Option Addr) (cap cbp : Nat) (w : World) (hx : Binds w ao bs) (hy : Binds w bo bs) (hm : ∀ b ∈ bs, b.2.length ≤ 1048576) (hlx : n ≤ 1048576) :
    Calls Try.prog 9 #[.slice ao n cap, .slice bo n cbp] w fun e w' => e = .returned (.bool true) ∧ Below w.heap.size w w' := by
  go_enter Try.func9, Try.ntmps9
  go_wp2
  go_loopw [5] (fun i wr => ∃ (k : Nat), k ≤ n ∧ i = .int .i64 k ∧ Below w.heap.size w wr) (fun i _ => n - (intOf i).toNat)
  case atStart => exact ⟨0, Nat.zero_le _, rfl, Below.refl _ _⟩
  case round =>
    obtain ⟨k, hk, rfl, hb⟩ := hrel
    by_cases hlt : k < n
    · have hltk : k < bs.length := by have := HN.out; omega
      obtain ⟨b, o, ai, ci, rfl, hc0, hc, hn⟩ := hx.below hb k hltk
      obtain ⟨b', o', ai', ci', rfl, hc0', hc', hn'⟩ := hy.below hb k hltk
      have hmk := hm bs[k] (List.getElem_mem hltk)
      obtain ⟨⟨bn, ks⟩, hks⟩ : ∃ p, bs[k] = p := ⟨_, rfl⟩
      rw [hks] at hc hc' hn hn' hmk hc0 hc0'
      simp only at hc hc' hn hn' hmk hc0 hc0'
      obtain ⟨l, hl⟩ : ∃ l, ks.length = l := ⟨_, rfl⟩
      have HL : Hid (ks.length = l) := hl
      rw [hl] at hc hc' hmk
      have hlb : b < wr.heap.size := lt_of_cell hc
      have hlb' : b' < wr.heap.size := lt_of_cell hc'
      have hB : Below wr.heap.size wr wr.drew := (Below.refl _ _).drew
      have hnd := hn.below hB
      have hnd' := hn'.below hB
      clear hx hy hm hks hl hn hn'
      go_wp2_with fail
      go_region_with (go_at_call 32; refine (eqBind_same bn ks l HL ai ai' ci ci' _ hnd hnd' (by omega)).mono ?_; rintro e w1 ⟨rfl, hb1⟩)
      all_goals
        have hbb := Below.step hb (undrew hb1)
        clear hb hb1 hc hc' hc0 hc0' hB hnd hnd'
        go_wp2
        go_roundw
        case rel => exact ⟨k + 1, by omega, by go_num, hbb⟩
        case measure => simp [intOf]; omega
    · clear hx hy hm
      go_wp2
      go_ret
      exact ⟨rfl, hb⟩

theorem set_same {α : Type} {xs : List α} {i : Nat} {v : α} (h : xs[i]? = some v) : xs.set i v = xs := by
  apply List.ext_getElem?
  intro j
  by_cases e : i = j
  · subst e
    have hl := (List.getElem?_eq_some_iff.1 h).1
    rw [List.getElem?_set_self hl, h]
  · rw [List.getElem?_set_ne e]

/-- What l8Bound answers. -/
def boundIn (bs : List (Int × List Nd)) (x : Int) : Int := if placeIn (bs.map Prod.fst) x < bs.length then (placeIn (bs.map Prod.fst) x : Int) else -1

set_option maxHeartbeats 1000000 in
theorem bound_any (bs : List (Int × List Nd)) (n : Nat) (HM : Hid (bs.length = n)) (hn : n ≤ 1048576) (x : Int) (ao : Option Addr) (cap : Nat) (w : World) (hr : Binds w ao bs) :
    Calls Try.prog 44 #[.slice ao n cap, .int .i64 x] w fun e w' => e = .returned (.int .i64 (boundIn bs x)) ∧ Below w.heap.size w w' := by
  go_enter Try.func44, Try.ntmps44
  go_wp2
  go_loopw [5] (fun i wr => ∃ (k : Nat), k ≤ n ∧ i = .int .i64 k ∧ (∀ i (h : i < (bs.map Prod.fst).length), i < k → (bs.map Prod.fst)[i] ≠ x) ∧ Below w.heap.size w wr) (fun i _ => n - (intOf i).toNat)
  case atStart => exact ⟨0, Nat.zero_le _, rfl, fun i _ h => absurd h (by omega), Below.refl _ _⟩
  case round =>
    obtain ⟨k, hk, rfl, hall, hb⟩ := hrel
    by_cases hlt : k < n
    · have hltx : k < bs.length := by have := HM.out; omega
      have hltm : k < (bs.map Prod.fst).length := by simp; exact hltx
      obtain ⟨b, o, ai, ci, rfl, c0, _, _⟩ := hr.below hb k hltx
      have hlb : b < wr.heap.size := lt_of_cell c0
      by_cases he : bs[k].1 = x
      · have HV : Hid (boundIn bs x = (k : Int)) := by
          have h9 := placeIn_found (x := x) hltm (by simpa using he) hall
          show boundIn bs x = _
          unfold boundIn
          rw [h9, if_pos hltx]
        rw [he] at c0
        have te : ((x : Int) == x) = true := by simp
        clear hall hr he
        go_wp2
        go_ret
        exact ⟨by rw [HV.out]; rfl, hb⟩
      · have te : (bs[k].1 == x) = false := by simpa using he
        have HA : Hid (∀ i (h : i < (bs.map Prod.fst).length), i < k + 1 → (bs.map Prod.fst)[i] ≠ x) := by
          intro i h hi
          by_cases e : i = k
          · subst e; simpa using he
          · exact hall i h (by omega)
        obtain ⟨v, hv⟩ : ∃ v, bs[k].1 = v := ⟨_, rfl⟩
        rw [hv] at c0 te
        clear hall hr he hv
        go_wp2
        go_roundw
        case rel => exact ⟨k + 1, by omega, by go_num, HA.out, hb⟩
        case measure => simp [intOf]; omega
    · have HV : Hid (boundIn bs x = -1) := by
        have h9 := placeIn_none (met := bs.map Prod.fst) (x := x) (fun i h => hall i h (by have := HM.out; simp at h; omega))
        show boundIn bs x = _
        unfold boundIn
        rw [h9, if_neg (by simp)]
      clear hall hr
      go_wp2
      go_ret
      exact ⟨by rw [HV.out]; rfl, hb⟩

theorem But.cell {S : Nat → Prop} {w w' : World} (h : But S w w') {b o : Nat} (hlt : b < w.heap.size) (hn : ¬ S b) : w'.cell? ⟨b, o, none⟩ = w.cell? ⟨b, o, none⟩ :=
  World.cell?_of_block (a := ⟨b, o, none⟩) (h.block b hlt hn)

theorem Nodes.but {S : Nat → Prop} {w w' : World} {ao : Option Addr} {xs : List Nd} (h : Nodes w ao xs) (hb : But S w w') (hd : ∀ b o, ao = some ⟨b, o, none⟩ → ¬ S b) : Nodes w' ao xs := by
  intro i hi
  obtain ⟨b, o, e, c0, c1, c2, c3, c4⟩ := h i hi
  have hlt : b < w.heap.size := lt_of_cell c0
  have hn := hd b o e
  exact ⟨b, o, e, (hb.cell hlt hn).trans c0, (hb.cell hlt hn).trans c1, (hb.cell hlt hn).trans c2, (hb.cell hlt hn).trans c3, (hb.cell hlt hn).trans c4⟩

theorem But.grown {S : Nat → Prop} {w a b : World} {g : Nat} (h : But S w a) (hg : a.grownBy b (some g)) (hs : g < w.heap.size → S g) : But S w b :=
  ⟨hg.os.trans h.os, hg.tape.trans h.tape, hg.output.trans h.output, Nat.le_trans h.size hg.size, fun i hi hn => (hg.block i (Nat.lt_of_lt_of_le hi h.size) (by
    intro e
    simp only [Option.some.injEq] at e
    subst e
    exact hn (hs hi))).trans (h.block i hi hn)⟩

theorem But.alloc {S : Nat → Prop} {w a : World} (h : But S w a) (o : Obj) : But S w (a.alloc o) := h.trans (But.ofBelow ((Below.refl _ _).alloc (Nat.le_refl _) _))

end Go.Proofs.Ytljdcaoibnikjaa

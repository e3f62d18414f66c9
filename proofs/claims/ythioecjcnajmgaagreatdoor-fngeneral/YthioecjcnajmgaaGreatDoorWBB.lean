import Derived.Test.YthioecjcnajmgaaGreatDoorWAY
import Derived.Deep.RegionWith
import Derived.Deep.RegionLaw
import Derived.Test.YthioecjcnajmgaaGreatDoorWAA
import Derived.Test.YthioecjcnajmgaaGreatDoorWBA
namespace Go.Proofs.YthioecjcnajmgaaGreatDoor

open Go.RowKit

/-- Behind calls that only shorten ways. -/
def Shortened (X : Nat → Prop) (f : Nat → CC) (lk : Nat → Option Nat) (d : Nat → Nat) (w w' : World) : Prop := ∃ lk', Cells w' X f lk' ∧ SameHd lk lk' ∧ Acyc lk' d ∧ But X w w'

/-- How long a slice is. -/
def lenOf : Value → Nat
  | .slice _ n _ => n
  | _ => 0

theorem But.undrew {S : Nat → Prop} {w w' : World} (h : But S w.drew w') : But S w w' := ⟨h.os, h.tape, h.output, h.size, h.block⟩

theorem Shortened.undrew {X : Nat → Prop} {f : Nat → CC} {lk : Nat → Option Nat} {d : Nat → Nat} {w w' : World} (h : Shortened X f lk d w.drew w') : Shortened X f lk d w w' := by
  obtain ⟨lk', h1, h2, h3, h4⟩ := h
  exact ⟨lk', h1, h2, h3, h4.undrew⟩

set_option maxRecDepth 20000 in
set_option maxHeartbeats 2000000 in
theorem lower1_any (X : Nat → Prop) (f : Nat → CC) (lk : Nat → Option Nat) (d : Nat → Nat) (HA : Hid (Acyc lk d)) (w : World) (hC : Cells w X f lk) (c : Nat) (hX : X c) (hl : lk c = none) (bx : Nat) (level : Int) (hbx : w.cell? ⟨bx, 0, none⟩ = some (.int .i64 level)) (hbX : ¬ X bx) (hle : (f c).lv ≤ level) :
    Calls Tryz.prog 94 #[.pointer (some ⟨c, 0, none⟩), .pointer (some ⟨bx, 0, none⟩)] w fun e w' => e = .returned (.slice none 0 0) ∧ Shortened X f lk d w w' := by
  go_enter Tryz.func94, Tryz.ntmps94
  go_wp2_with fail
  refine (head_any X f lk d HA w hC c c hX (Hd.root hl)).mono ?_
  rintro e w1 ⟨rfl, lk1, hC1, hS1, hA1, hB1, hz1⟩
  have hbx1 : w1.cell? ⟨bx, 0, none⟩ = some (.int .i64 level) := (hB1.cellB (lt_of_cell hbx) hbX).trans hbx
  obtain ⟨_, _, _, _, _, _, _, _, c8, _, _, _, _, _⟩ := (hC1.at' c hX).cell
  have H9 : Hid (Shortened X f lk d w w1) := ⟨lk1, hC1, hS1, hA1, hB1⟩
  have tle : decide ((f c).lv ≤ level) = true := decide_eq_true hle
  clear hC hC1 hS1 hA1 hB1 hbx
  go_wp2
  go_quiet (fail)
  go_wp2
  go_ret
  obtain ⟨lk1, h1, h2, h3, h4⟩ := H9.out
  exact ⟨rfl, lk1, h1.drewN _, h2, h3, h4.drewN _⟩

set_option maxRecDepth 20000 in
set_option maxHeartbeats 2000000 in
theorem until1_any (X : Nat → Prop) (f : Nat → CC) (lk : Nat → Option Nat) (d : Nat → Nat) (HA : Hid (Acyc lk d)) (w : World) (hC : Cells w X f lk) (c : Nat) (hX : X c) (hl : lk c = none) (bx g : Nat) (level : Int) (hbx : w.cell? ⟨bx, 0, none⟩ = some (.int .i64 level)) (hbX : ¬ X bx) (hle : (f c).lv ≤ level)
    (hg : w.cell? ⟨g, 0, none⟩ = some (.pointer (some ⟨c, 0, none⟩))) :
    Calls Tryz.prog 93 #[.slice (some ⟨g, 0, none⟩) 1 1, .func (.func 94) #[] #[.pointer (some ⟨bx, 0, none⟩)]] w fun e w' => e = .returned (.tuple #[]) ∧ Shortened X f lk d w w' := by
  have HC := lower1_any X f lk d HA w.drew hC.drew c hX hl bx level hbx hbX hle
  go_enter Tryz.func93, Tryz.ntmps93
  go_wp2
  go_loopw [0] (fun v wr => (v = .slice (some ⟨g, 0, none⟩) 1 1 ∧ wr = w) ∨ (v = .slice (some ⟨g, 0, none⟩) 0 1 ∧ Shortened X f lk d w wr)) (fun v _ => lenOf v)
  case atStart => exact .inl ⟨rfl, rfl⟩
  case round =>
    rcases hrel with ⟨rfl, rfl⟩ | ⟨rfl, hS⟩
    · go_wp2_with fail
      go_region_law (go_simp; refine HC.mono ?_; rintro e w1 ⟨rfl, hS⟩)
      all_goals
        have hS := hS.undrew
        clear HC
        simp only [Act.put, List.getElem_toArray, List.getElem_cons_succ, List.getElem_cons_zero, List.setIfInBounds_toArray, List.set_cons_zero]
        go_wp2
        go_roundw
        case rel => exact .inr ⟨rfl, hS⟩
        case measure => simp [lenOf]
    · clear HC
      go_wp2
      go_end0
      exact ⟨rfl, hS⟩

set_option maxRecDepth 20000 in
set_option maxHeartbeats 2000000 in
theorem lower_any (X : Nat → Prop) (f : Nat → CC) (lk : Nat → Option Nat) (d : Nat → Nat) (HA : Hid (Acyc lk d)) (w : World) (hC : Cells w X f lk) (hlt : ∀ b, X b → b < w.heap.size) (c : Nat) (hX : X c) (hl : lk c = none) (level : Int) (hle : (f c).lv ≤ level) :
    Calls Tryz.prog 72 #[.pointer (some ⟨c, 0, none⟩), .int .i64 level] w fun e w' => e = .returned (.tuple #[]) ∧ Shortened X f lk d w w' := by
  have hb0 : Below w.heap.size w (w.alloc (.cells #[.int .i64 level] 3)) := (Below.refl _ w).alloc (Nat.le_refl _) _
  have hb1 := hb0.alloc hb0.size (.cells #[.pointer (some ⟨c, 0, none⟩)] 69)
  have hB : But (fun _ => False) w ((w.alloc (.cells #[.int .i64 level] 3)).alloc (.cells #[.pointer (some ⟨c, 0, none⟩)] 69)) := But.ofBelow hb1
  have hC1 := hC.but hB (fun _ _ h => h)
  have k0 : ((w.alloc (.cells #[.int .i64 level] 3)).alloc (.cells #[.pointer (some ⟨c, 0, none⟩)] 69)).cell? ⟨w.heap.size, 0, none⟩ = some (.int .i64 level) := by
    have h8 := heap_alloc_new w (.cells #[.int .i64 level] 3)
    have h9 := (heap_alloc_old (w.alloc (.cells #[.int .i64 level] 3)) (.cells #[.pointer (some ⟨c, 0, none⟩)] 69) (r := w.heap.size) (by simp)).trans h8
    rw [cell_of_row _ _ _ _ 3 (0, 0) h9]
    rfl
  have k1 : ((w.alloc (.cells #[.int .i64 level] 3)).alloc (.cells #[.pointer (some ⟨c, 0, none⟩)] 69)).cell? ⟨w.heap.size + 1, 0, none⟩ = some (.pointer (some ⟨c, 0, none⟩)) := by
    have h9 := heap_alloc_new (w.alloc (.cells #[.int .i64 level] 3)) (.cells #[.pointer (some ⟨c, 0, none⟩)] 69)
    rw [World.size_alloc] at h9
    rw [cell_of_row _ _ _ _ 69 (0, 0) h9]
    rfl
  have HU := until1_any X f lk d HA _ hC1 c hX hl w.heap.size (w.heap.size + 1) level k0 (fun h => Nat.lt_irrefl _ (hlt _ h)) hle k1
  clear hC hC1 k0 k1 hb0 hb1
  go_enter Tryz.func72, Tryz.ntmps72
  go_wp2_with fail
  refine HU.mono ?_
  rintro e w1 ⟨rfl, lk1, h1, h2, h3, h4⟩
  clear HU
  have HR : Hid (Shortened X f lk d w w1) := ⟨lk1, h1, h2, h3, (hB.mono (fun _ h => h.elim)).trans h4⟩
  clear h1 h2 h3 h4 hB
  go_wp2
  go_end0
  exact ⟨rfl, HR.out⟩

/-! A term as it is written, whatever its nodes are: what stands at each place. -/

def OtF (R : List Nd × DT → Prop) (x : List Nd × DT) : Prop :=
  (∃ (n : Nd) (xss : List (List Nd)) (ds : List DT), x = (xss.flatten ++ [n], con n ds) ∧ (n.kids = (ds.length : Int)) ∧ (ds.length = xss.length) ∧ (∀ i (h1 : i < xss.length) (h2 : i < ds.length), R (xss[i], ds[i])))

structure Ot (xs : List Nd) (d : DT) : Prop where
  of ::
  lfp : Lfp (OtF) (xs, d)

theorem Ot.grows : Grows (OtF) := by
  rintro R R' x h0 ⟨n, xss, ds, e0, hn, hl, h⟩
  · exact ⟨n, xss, ds, e0, hn, hl, fun i h1 h2 => h0 _ (h i h1 h2)⟩

theorem Ot.node (n : Nd) (xss : List (List Nd)) (ds : List DT) (hn : n.kids = (ds.length : Int)) (hl : ds.length = xss.length) (h : ∀ i (h1 : i < xss.length) (h2 : i < ds.length), Ot (xss[i]) (ds[i])) : Ot (xss.flatten ++ [n]) (con n ds) :=
  ⟨Lfp.fold (Ot.grows) (⟨n, xss, ds, rfl, hn, hl, fun i h1 h2 => (h i h1 h2).lfp⟩)⟩

theorem Ot.elim {motive : ∀ xs d, Ot xs d → Prop}
    (node : ∀ (n : Nd) (xss : List (List Nd)) (ds : List DT) (hn : n.kids = (ds.length : Int)) (hl : ds.length = xss.length) (h : ∀ i (h1 : i < xss.length) (h2 : i < ds.length), Ot (xss[i]) (ds[i])), (∀ i (h1 : i < xss.length) (h2 : i < ds.length), motive (xss[i]) (ds[i]) (h i h1 h2)) → motive (xss.flatten ++ [n]) (con n ds) (Ot.node n xss ds hn hl h))
    {xs : List Nd} {d : DT} (h : Ot xs d) : motive xs d h := by
  have key : ∀ h, motive (xs, d).1 (xs, d).2 h := Lfp.ind (Ot.grows) (p := fun x => ∀ h, motive x.1 x.2 h) (by
    rintro x ⟨n, xss, ds, e0, hn, hl, h⟩ h9
    · subst e0; exact node n xss ds hn hl (fun i h1 h2 => ⟨(h i h1 h2).1⟩) (fun i h1 h2 => (h i h1 h2).2 _)) h.lfp
  exact key h

theorem Ot.inv {motive : ∀ xs d, Ot xs d → Prop}
    (node : ∀ (n : Nd) (xss : List (List Nd)) (ds : List DT) (hn : n.kids = (ds.length : Int)) (hl : ds.length = xss.length) (h : ∀ i (h1 : i < xss.length) (h2 : i < ds.length), Ot (xss[i]) (ds[i])), motive (xss.flatten ++ [n]) (con n ds) (Ot.node n xss ds hn hl h))
    {xs : List Nd} {d : DT} (h : Ot xs d) : motive xs d h := by
  induction h using Ot.elim with
  | node n xss ds hn hl h _ => exact node n xss ds hn hl h

theorem Ot.last {xs : List Nd} {d : DT} (h : Ot xs d) : ∃ (n : Nd) (xss : List (List Nd)) (ds : List DT), n.kids = (ds.length : Int) ∧ ds.length = xss.length ∧ (∀ i (h1 : i < xss.length) (h2 : i < ds.length), Ot xss[i] ds[i]) ∧ xs = xss.flatten ++ [n] ∧ d = con n ds := by
  cases h using Ot.inv with
  | node n xss ds hn hl h => exact ⟨n, xss, ds, hn, hl, h, rfl, rfl⟩

theorem Ot.one {xs : List Nd} {d : DT} (h : Ot xs d) : One xs := by
  induction h using Ot.elim with
  | node n xss ds hn hl h ih =>
    refine One.join (fun x hx => ?_) (by rw [hn, hl])
    obtain ⟨i, hi, rfl⟩ := List.getElem_of_mem hx
    exact ih i hi (by omega)

theorem ot_ones {xss : List (List Nd)} {ds : List DT} (hl : ds.length = xss.length) (h : ∀ i (h1 : i < xss.length) (h2 : i < ds.length), Ot xss[i] ds[i]) : ∀ x ∈ xss, One x := by
  intro x hx
  obtain ⟨i, hi, rfl⟩ := List.getElem_of_mem hx
  exact (h i hi (by omega)).one

theorem Ot.fun {xs : List Nd} {d : DT} (h : Ot xs d) : ∀ {d' : DT}, Ot xs d' → d = d' := by
  induction h using Ot.elim with
  | node n xss ds hn hl h ih =>
    intro d' h'
    obtain ⟨m, yss, es, hn', hl', h2, e, rfl⟩ := h'.last
    obtain ⟨e1, e2⟩ := List.append_inj' e rfl
    simp at e2
    subst e2
    have e3 := ones_same (ot_ones hl h) (ot_ones hl' h2) e1
    subst e3
    have : ds = es := by
      apply List.ext_getElem (by omega)
      intro i h3 h4
      exact ih i (by omega) h3 (h2 i (by omega) h4)
    rw [this]

theorem Ot.fin {xs : List Nd} {d : DT} (h : Ot xs d) : Fin' d xs := by
  induction h using Ot.elim with
  | node n xss ds hn hl h ih => exact .mk n ds xss hl fun i h1 h2 => ih i h2 h1

theorem ot_span {t : List Nd} {S ys : List Sp} {n : Nat} (h : after t n = some (S, ys)) : ∀ i, i < n → ∀ s, ys[i]? = some s → ∃ d, Ot (span t s.fr i) d := by
  intro i
  induction i using Nat.strongRecOn with
  | ind i ih =>
    intro hi s hs
    have hle := after_le h
    have hit : i < t.length := by omega
    obtain ⟨K, hK, hsp, hO⟩ := span_kids h hi hs hit
    obtain ⟨_, hn⟩ := hK.num
    rw [hsp]
    have hk : ∀ r, ∃ d, ∀ hr : r < K.length, Ot (span t K[r].fr K[r].rt) d := by
      intro r
      by_cases hr : r < K.length
      · have hm := hK.mem r hr
        obtain ⟨d, hd⟩ := ih K[r].rt hm.2.2 (by omega) K[r] hm.1
        exact ⟨d, fun _ => hd⟩
      · exact ⟨fun _ => none, fun h => absurd h hr⟩
    obtain ⟨F, hF⟩ := Classical.axiomOfChoice hk
    refine ⟨con t[i] ((List.range K.length).map F), Ot.node t[i] (kidsIn t K) _ (by simpa using hn) (by simp [kidsIn]) (fun r h1 h2 => ?_)⟩
    have hr : r < K.length := by simpa using h2
    simp only [kidsIn, List.getElem_map, List.getElem_range]
    exact hF r hr

theorem ot_of {t : List Nd} (h : One t) : ∃ d, Ot t d := by
  have hne := List.length_pos_iff.2 h.ne
  obtain ⟨s, ys, hA⟩ := h
  have hf := after_fine hA
  have hc := hf.chain.2.2.1 (by simp)
  simp only [List.getElem_cons_zero, List.length_cons, List.length_nil, Nat.zero_add, Nat.sub_self] at hc
  have hm := hf.mem 0 (by simp)
  simp only [List.getElem_cons_zero] at hm
  have hrt : s.rt = t.length - 1 := by omega
  rw [hrt] at hm
  have hsp : span t s.fr (t.length - 1) = t := by
    unfold span
    rw [hc.1, List.drop_zero, List.take_of_length_le (by omega)]
  obtain ⟨d, hd⟩ := ot_span hA (t.length - 1) (by omega) s hm
  rw [hsp] at hd
  exact ⟨d, hd⟩

/-- From what its unknowns are written as, to what a term is written as. -/
theorem Ev.written {σ : Nd → DT} {g : List Nd} {d : DT} (h : Ev σ g d) {ρ : Int → List Nd} (hρ : ∀ n ∈ g, n.kind = 61 → Ot (ρ n.num) (σ n)) : Ot (fill ρ g) d := by
  induction h using Ev.elim with
  | leaf n hk h0 =>
    have h1 := hρ n (by simp) hk
    simp only [fill, fillN, List.flatMap_cons, List.flatMap_nil, hk, if_true, List.append_nil]
    exact h1
  | node n hk xss ds hn hl h ih =>
    rw [fill_append, fill_flatten]
    have e3 : fill ρ [n] = [n] := by simp [fill, fillN, hk]
    rw [e3]
    refine Ot.node n _ ds hn (by simp [hl]) (fun i h1 h2 => ?_)
    simp only [List.getElem_map]
    have hi : i < xss.length := by simpa using h1
    exact ih i hi h2 (fun m hm hm61 => hρ m (List.mem_append_left _ (List.mem_flatten.2 ⟨_, List.getElem_mem hi, hm⟩)) hm61)

/-- A term that is written in two ways is the same. -/
theorem Ot.same {xs ys : List Nd} {d : DT} (h : Ot xs d) (h' : Ot ys d) : xs = ys := h.fin.one h'.fin

/-- What solves a pair makes it hold. -/
theorem holds_of {g g' : List Nd} {ρ : Int → List Nd} {σ : Nd → DT} (hσ : ∀ n, Ot (ρ n.num) (σ n)) {d d' : DT} (h : Ev σ g d) (h' : Ev σ g' d') (e : fill ρ g = fill ρ g') : Holds σ (g, g') := by
  have h1 := h.written (ρ := ρ) fun n _ _ => hσ n
  have h2 := h'.written (ρ := ρ) fun n _ _ => hσ n
  rw [e] at h1
  have := h1.fun h2
  subst this
  exact ⟨d, h, h'⟩

/-- What makes a pair hold and is written solves it. -/
theorem solves_of {p : List Nd × List Nd} {ρ : Int → List Nd} {σ : Nd → DT} (h : Holds σ p) (hσ : ∀ n, n ∈ p.1 ∨ n ∈ p.2 → n.kind = 61 → Ot (ρ n.num) (σ n)) : fill ρ p.1 = fill ρ p.2 := by
  obtain ⟨d, h1, h2⟩ := h
  exact (h1.written fun n hn hk => hσ n (.inl hn) hk).same (h2.written fun n hn hk => hσ n (.inr hn) hk)

/-- A pointer that may be nil, held against nil. -/
theorem ptr_some (j : Nat) : ptr (some j) = .pointer (some ⟨j, 0, none⟩) := rfl

theorem ptr_none : ptr none = .pointer none := rfl

set_option maxRecDepth 20000 in
set_option maxHeartbeats 2000000 in
theorem headAt_any (X : Nat → Prop) (f : Nat → CC) (lk : Nat → Option Nat) (t : Int) (d : Nat → Nat) (HA : Hid (Acyc (tdAt Classical.propDecidable X f t) d)) (HI : Hid (∀ b j, X b → (f b).td = some j → X j)) (w : World) (hC : Cells w X f lk) (b r : Nat) (hX : X b) (hr : Hd (tdAt Classical.propDecidable X f t) b r) :
    Calls Tryz.prog 105 #[.pointer (some ⟨b, 0, none⟩), .int .i64 t] w fun e w' => e = .returned (.pointer (some ⟨r, 0, none⟩)) ∧ w' = w := by
  go_enter Tryz.func105, Tryz.ntmps105
  go_wp2
  go_loopw [0] (fun v wr => ∃ (k : Nat), X k ∧ v = .pointer (some ⟨k, 0, none⟩) ∧ Hd (tdAt Classical.propDecidable X f t) k r ∧ wr = w) (fun v _ => d (blk v))
  case atStart => exact ⟨b, hX, rfl, hr, rfl⟩
  case round =>
    obtain ⟨k, hk, rfl, hrt, rfl⟩ := hrel
    obtain ⟨_, _, _, _, _, _, _, _, _, _, _, c11, c12, _⟩ := (hC.at' k hk).cell
    cases htd : (f k).td with
    | none =>
      have e : k = r := by
        cases hrt using Hd.inv with
        | root _ => rfl
        | step h1 _ => rw [tdAt_some, htd] at h1; cases h1.2.2
      subst e
      rw [htd, ptr_none] at c11
      clear hrt hr htd
      go_wp2
      go_ret
      exact ⟨rfl, rfl⟩
    | some j =>
      rw [htd, ptr_some] at c11
      by_cases hsi : (f k).si ≤ t
      · have tsi : decide ((f k).si ≤ t) = true := decide_eq_true hsi
        have e9 : tdAt Classical.propDecidable X f t k = some j := tdAt_some.2 ⟨hk, hsi, htd⟩
        have hj := HI.out k j hk htd
        have hrj : Hd (tdAt Classical.propDecidable X f t) j r := by
          cases hrt using Hd.inv with
          | root h1 => rw [e9] at h1; cases h1
          | step h1 h2 => rw [e9] at h1; cases h1; exact h2
        have hdj := HA.out k j e9
        clear hrt hr htd e9
        go_wp2
        go_roundw
        case rel => exact ⟨j, hj, rfl, hrj, trivial⟩
        case measure => simpa [blk] using hdj
      · have tsi : decide ((f k).si ≤ t) = false := decide_eq_false hsi
        have e : k = r := by
          cases hrt using Hd.inv with
          | root _ => rfl
          | step h1 _ => rw [tdAt_some] at h1; exact absurd h1.2.1 hsi
        subst e
        clear hrt hr htd
        go_wp2
        go_ret
        exact ⟨rfl, rfl⟩

end Go.Proofs.YthioecjcnajmgaaGreatDoor

namespace Go.Proofs.YthioecjcnajmgaaGreatDoor

/-! A walk that goes down first: what it is in is a path, what it has left leads to no circle. -/

/-- One step down, and more. -/
def Down (kids : Nat → List Nat) (hf : Nat → Nat) (a b : Nat) : Prop := ∃ k ∈ kids a, hf k = b

def DownsF (kids : Nat → List Nat) (hf : Nat → Nat) (R : Nat × Nat → Prop) (x : Nat × Nat) : Prop :=
  (∃ (a b : Nat), x = (a, b) ∧ (Down kids hf a b)) ∨
  (∃ (a b c : Nat), x = (a, c) ∧ (Down kids hf a b) ∧ (R (b, c)))

structure Downs (kids : Nat → List Nat) (hf : Nat → Nat) (a : Nat) (b : Nat) : Prop where
  of ::
  lfp : Lfp (DownsF kids hf) (a, b)

theorem Downs.grows (kids : Nat → List Nat) (hf : Nat → Nat) : Grows (DownsF kids hf) := by
  rintro R R' x h0 (⟨a, b, e0, h⟩ | ⟨a, b, c, e0, h, k⟩)
  · exact .inl ⟨a, b, e0, h⟩
  · exact .inr (⟨a, b, c, e0, h, h0 _ k⟩)

theorem Downs.one {kids : Nat → List Nat} {hf : Nat → Nat} {a b : Nat} (h : Down kids hf a b) : Downs kids hf a b :=
  ⟨Lfp.fold (Downs.grows kids hf) (.inl ⟨a, b, rfl, h⟩)⟩

theorem Downs.more {kids : Nat → List Nat} {hf : Nat → Nat} {a b c : Nat} (h : Down kids hf a b) (k : Downs kids hf b c) : Downs kids hf a c :=
  ⟨Lfp.fold (Downs.grows kids hf) (.inr (⟨a, b, c, rfl, h, k.lfp⟩))⟩

theorem Downs.elim {kids : Nat → List Nat} {hf : Nat → Nat} {motive : ∀ a b, Downs kids hf a b → Prop}
    (one : ∀ {a b : Nat} (h : Down kids hf a b), motive a b (Downs.one (a := a) (b := b) h))
    (more : ∀ {a b c : Nat} (h : Down kids hf a b) (k : Downs kids hf b c), motive b c (k) → motive a c (Downs.more (a := a) (b := b) (c := c) h k))
    {a : Nat} {b : Nat} (h : Downs kids hf a b) : motive a b h := by
  have key : ∀ h, motive (a, b).1 (a, b).2 h := Lfp.ind (Downs.grows kids hf) (p := fun x => ∀ h, motive x.1 x.2 h) (by
    rintro x (⟨a, b, e0, h⟩ | ⟨a, b, c, e0, h, k⟩) h9
    · subst e0; exact one (a := a) (b := b) h
    · subst e0; exact more (a := a) (b := b) (c := c) h ⟨k.1⟩ (k.2 _)) h.lfp
  exact key h

theorem Downs.inv {kids : Nat → List Nat} {hf : Nat → Nat} {motive : ∀ a b, Downs kids hf a b → Prop}
    (one : ∀ {a b : Nat} (h : Down kids hf a b), motive a b (Downs.one (a := a) (b := b) h))
    (more : ∀ {a b c : Nat} (h : Down kids hf a b) (k : Downs kids hf b c), motive a c (Downs.more (a := a) (b := b) (c := c) h k))
    {a : Nat} {b : Nat} (h : Downs kids hf a b) : motive a b h := by
  induction h using Downs.elim with
  | one h => exact one h
  | more h k _ => exact more h k

theorem Downs.snoc {kids : Nat → List Nat} {hf : Nat → Nat} {a b c : Nat} (h : Downs kids hf a b) (h2 : Down kids hf b c) : Downs kids hf a c := by
  induction h using Downs.elim with
  | one h1 => exact .more h1 (.one h2)
  | more h1 _ ih => exact .more h1 (ih h2)

/-- The path, its top first: each cell with its kids that are still to come; those ahead of them have been left, or are the next on the path. -/
def PathOk (kids : Nat → List Nat) (hf : Nat → Nat) (Lf : Nat → Prop) : Option Nat → List (Nat × List Nat) → Prop
  | _, [] => True
  | nx, (h, rest) :: p => (∃ done, kids h = done ++ rest ∧ (∀ k ∈ done, Lf (hf k) ∨ nx = some (hf k)) ∧ ∀ x, nx = some x → ∃ k ∈ done, hf k = x) ∧ PathOk kids hf Lf (some h) p

/-- What a walk leaves behind. -/
structure LeftOk (kids : Nat → List Nat) (hf : Nat → Nat) (Lf : Nat → Prop) (rk : Nat → Nat) : Prop where
  down : ∀ h, Lf h → ∀ k ∈ kids h, Lf (hf k) ∧ rk (hf k) < rk h

section
variable {kids : Nat → List Nat} {hf : Nat → Nat} {Lf : Nat → Prop}

theorem PathOk.push {h k : Nat} {rest : List Nat} {p : List (Nat × List Nat)} (H : PathOk kids hf Lf none ((h, k :: rest) :: p)) : PathOk kids hf Lf none ((hf k, kids (hf k)) :: (h, rest) :: p) := by
  obtain ⟨⟨done, h1, h2, _⟩, h4⟩ := H
  refine ⟨⟨[], rfl, by simp, (fun x e => by cases e)⟩, ⟨done ++ [k], by simp [h1], fun j hj => ?_, fun x e => ?_⟩, h4⟩
  · rcases List.mem_append.1 hj with hj | hj
    · rcases h2 j hj with h9 | h9
      · exact .inl h9
      · cases h9
    · simp only [List.mem_singleton] at hj
      subst hj
      exact .inr rfl
  · simp only [Option.some.injEq] at e
    exact ⟨k, by simp, e⟩

theorem PathOk.skip {h k : Nat} {rest : List Nat} {p : List (Nat × List Nat)} (H : PathOk kids hf Lf none ((h, k :: rest) :: p)) (hk : Lf (hf k)) : PathOk kids hf Lf none ((h, rest) :: p) := by
  obtain ⟨⟨done, h1, h2, _⟩, h4⟩ := H
  refine ⟨⟨done ++ [k], by simp [h1], fun j hj => ?_, (fun x e => by cases e)⟩, h4⟩
  rcases List.mem_append.1 hj with hj | hj
  · exact h2 j hj
  · simp only [List.mem_singleton] at hj
    subst hj
    exact .inl hk

theorem PathOk.mono {Lf' : Nat → Prop} (hL : ∀ x, Lf x → Lf' x) : ∀ {p : List (Nat × List Nat)} {nx : Option Nat}, PathOk kids hf Lf nx p → PathOk kids hf Lf' nx p := by
  intro p
  induction p with
  | nil => exact fun _ => trivial
  | cons a p ih =>
    intro nx H
    obtain ⟨⟨done, h1, h2, h3⟩, h4⟩ := H
    exact ⟨⟨done, h1, fun k hk => (h2 k hk).imp (hL _) id, h3⟩, ih h4⟩

theorem PathOk.pop {h : Nat} {p : List (Nat × List Nat)} (H : PathOk kids hf Lf none ((h, []) :: p)) : PathOk kids hf (fun x => Lf x ∨ x = h) none p := by
  obtain ⟨_, h4⟩ := H
  cases p with
  | nil => trivial
  | cons a p =>
    obtain ⟨⟨done, h1, h2, h3⟩, h5⟩ := h4
    refine ⟨⟨done, h1, fun k hk => .inl ?_, (fun x e => by cases e)⟩, h5.mono (fun x hx => .inl hx)⟩
    rcases h2 k hk with h9 | h9
    · exact .inl h9
    · simp only [Option.some.injEq] at h9
      exact .inr h9.symm

theorem sum_mem (r : Nat → Nat) {l : List Nat} {k : Nat} (h : k ∈ l) : r k ≤ (l.map r).sum := by
  induction l with
  | nil => simp at h
  | cons a l ih =>
    simp only [List.map_cons, List.sum_cons]
    rcases List.mem_cons.1 h with rfl | h
    · omega
    · have := ih h
      omega

theorem LeftOk.pop {rk : Nat → Nat} (L : LeftOk kids hf Lf rk) {h : Nat} {p : List (Nat × List Nat)} (H : PathOk kids hf Lf none ((h, []) :: p)) (hn : ¬ Lf h) : ∃ rk', LeftOk kids hf (fun x => Lf x ∨ x = h) rk' := by
  obtain ⟨⟨done, h1, h2, _⟩, _⟩ := H
  rw [List.append_nil] at h1
  have hall : ∀ k ∈ kids h, Lf (hf k) := by
    intro k hk
    rw [h1] at hk
    rcases h2 k hk with h9 | h9
    · exact h9
    · cases h9
  refine ⟨fun x => if x = h then 1 + ((kids h).map (fun k => rk (hf k))).sum else rk x, ⟨fun x hx k hk => ?_⟩⟩
  rcases hx with hx | rfl
  · obtain ⟨a1, a2⟩ := L.down x hx k hk
    have n1 : x ≠ h := fun e => hn (e ▸ hx)
    have n2 : hf k ≠ h := fun e => hn (e ▸ a1)
    simp only [n1, n2, if_false]
    exact ⟨.inl a1, a2⟩
  · have a1 := hall k hk
    have n2 : hf k ≠ x := fun e => hn (e ▸ a1)
    simp only [n2, if_false, if_true]
    have := sum_mem (fun k => rk (hf k)) hk
    exact ⟨.inl a1, by omega⟩

/-- What is on the path leads to its top. -/
theorem PathOk.downs : ∀ {p : List (Nat × List Nat)} {h : Nat}, PathOk kids hf Lf (some h) p → ∀ x ∈ p.map Prod.fst, Downs kids hf x h := by
  intro p
  induction p with
  | nil => intro h _ x hx; simp at hx
  | cons a p ih =>
    intro h H x hx
    obtain ⟨⟨done, h1, _, h3⟩, h4⟩ := H
    obtain ⟨k, hk, e⟩ := h3 h rfl
    have hd : Down kids hf a.1 h := ⟨k, by rw [h1]; exact List.mem_append_left _ hk, e⟩
    rw [List.map_cons, List.mem_cons] at hx
    rcases hx with rfl | hx
    · exact .one hd
    · exact (ih h4 x hx).snoc hd

theorem PathOk.circle {h k : Nat} {rest : List Nat} {p : List (Nat × List Nat)} (H : PathOk kids hf Lf none ((h, k :: rest) :: p)) (hk : hf k = h ∨ hf k ∈ p.map Prod.fst) : Downs kids hf (hf k) (hf k) := by
  obtain ⟨⟨done, h1, _, _⟩, h4⟩ := H
  have hd : Down kids hf h (hf k) := ⟨k, by rw [h1]; simp, rfl⟩
  rcases hk with e | hx
  · rw [e] at hd ⊢
    exact .one hd
  · exact (h4.downs _ hx).snoc hd

theorem PathOk.reach {h k r : Nat} {rest : List Nat} {p : List (Nat × List Nat)} (H : PathOk kids hf Lf none ((h, k :: rest) :: p)) (hr : r = h ∨ r ∈ p.map Prod.fst) : Downs kids hf r (hf k) := by
  obtain ⟨⟨done, h1, _, _⟩, h4⟩ := H
  have hd : Down kids hf h (hf k) := ⟨k, by rw [h1]; simp, rfl⟩
  rcases hr with e | hx
  · rw [e]
    exact .one hd
  · exact (h4.downs _ hx).snoc hd

end

end Go.Proofs.YthioecjcnajmgaaGreatDoor

import Derived.Test.YthioecjcnajmgaaGreatDoorWAA
import Derived.Test.YthioecjcnajmgaaGreatDoorWAB
import Derived.Test.YthioecjcnajmgaaGreatDoorWAC
namespace Go.Proofs.YthioecjcnajmgaaGreatDoor

open Go.RowKit

/-- A slice of slices of nodes. -/
def Lists (w : World) (ao : Option Addr) (kss : List (List Nd)) : Prop :=
  ∀ i (h : i < kss.length), ∃ b o ai ci, ao = some ⟨b, o, none⟩ ∧ w.cell? ⟨b, o + i, none⟩ = some (.slice ai kss[i].length ci) ∧ Nodes w ai kss[i]

theorem Lists.below {w w' : World} {ao : Option Addr} {kss : List (List Nd)} (h : Lists w ao kss) (hb : Below w.heap.size w w') : Lists w' ao kss := by
  intro i hi
  obtain ⟨b, o, ai, ci, e, hc, hn⟩ := h i hi
  exact ⟨b, o, ai, ci, e, (hb.cell (p := ⟨b, o + i, none⟩) (lt_of_cell hc)).trans hc, hn.below hb⟩

/-- How many nodes there are. -/
def total (kss : List (List Nd)) : Nat := (kss.map List.length).sum

theorem total_take_succ (kss : List (List Nd)) (k : Nat) (h : k < kss.length) : total (kss.take (k + 1)) = total (kss.take k) + kss[k].length := by
  rw [List.take_succ_eq_append_getElem h]
  simp only [total, List.map_append, List.sum_append, List.map_cons, List.map_nil, List.sum_cons, List.sum_nil, Nat.add_zero]

theorem total_take_le (kss : List (List Nd)) (k : Nat) : total (kss.take k) ≤ total kss := by
  have e : total kss = total (kss.take k) + total (kss.drop k) := by
    conv => lhs; rw [← List.take_append_drop k kss]
    simp only [total, List.map_append, List.sum_append]
  omega

theorem length_le_total (kss : List (List Nd)) (k : Nat) (h : k < kss.length) : kss[k].length ≤ total kss := by
  have h1 := total_take_succ kss k h
  have h2 := total_take_le kss (k + 1)
  omega

/-- The slices that lead to the rows gs. -/
def leads (gs : List Nat) (kss : List (List Nd)) : List Value := List.zipWith (fun h ks => .slice (some ⟨h, 0, none⟩) ks.length ks.length) gs kss

/-- Block g is a row of slices of the call's own. -/
def OwnS (w : World) (g : Nat) (cs : List Value) : Prop := ∃ cur, w.heap[g]? = some (.cells cur 27 (0, 0)) ∧ cur.toList = cs

theorem OwnS.lt {w : World} {g : Nat} {cs : List Value} (h : OwnS w g cs) : g < w.heap.size := by
  obtain ⟨cur, hg, _⟩ := h
  exact (Array.getElem?_eq_some_iff.1 hg).1

theorem OwnS.set {w : World} {g : Nat} {cs : List Value} (h : OwnS w g cs) (j : Nat) (v : Value) : OwnS (w.setCell ⟨g, j, none⟩ v) g (cs.set j v) := by
  obtain ⟨cur, hg, hc⟩ := h
  exact ⟨_, heap_setCell_same _ g _ _ 27 _ hg, by rw [Array.toList_setIfInBounds, hc]⟩

theorem OwnS.at {w : World} {g : Nat} {cs : List Value} (h : OwnS w g cs) (j : Nat) : w.cell? ⟨g, j, none⟩ = cs[j]? := by
  obtain ⟨cur, hg, hc⟩ := h
  rw [cell_of_row w g _ cur 27 (0, 0) hg, ← Array.getElem?_toList, hc]

theorem OwnS.frozen {w : World} {g : Nat} {cs : List Value} (h : OwnS w g cs) (j : Nat) : w.frozen? ⟨g, j, none⟩ = false := by
  obtain ⟨cur, hg, _⟩ := h
  exact frozen_of_row w g j cur 27 hg

theorem OwnS.below {w w' : World} {g : Nat} {cs : List Value} (h : OwnS w g cs) (hb : Below w.heap.size w w') : OwnS w' g cs := by
  have hlt := h.lt
  obtain ⟨cur, hg, hc⟩ := h
  exact ⟨cur, (hb.block g hlt).trans hg, hc⟩

theorem OwnS.but {S : Nat → Prop} {w w' : World} {g : Nat} {cs : List Value} (h : OwnS w g cs) (hb : But S w w') (hs : ¬ S g) : OwnS w' g cs := by
  have hlt := h.lt
  obtain ⟨cur, hg, hc⟩ := h
  exact ⟨cur, (hb.block g hlt hs).trans hg, hc⟩

/-- A row of slices is no row of nodes. -/
theorem OwnS.ne {w : World} {g h : Nat} {cs ds : List Value} (a : OwnS w g cs) (b : Own w h ds) : h ≠ g := by
  rintro rfl
  obtain ⟨cur, hg, _⟩ := a
  obtain ⟨cur', _, hg', _⟩ := b
  rw [hg] at hg'
  simp at hg'

/-- Each of the rows gs holds its nodes. -/
def RowsAt (w : World) (gs : List Nat) (kss : List (List Nd)) : Prop := gs.length = kss.length ∧ ∀ i (h : i < gs.length) (h' : i < kss.length), Row w gs[i] kss[i]

theorem RowsAt.below {w w' : World} {gs : List Nat} {kss : List (List Nd)} (h : RowsAt w gs kss) (hb : Below w.heap.size w w') : RowsAt w' gs kss :=
  ⟨h.1, fun i hi hi' => (h.2 i hi hi').below hb⟩

/-- All of it: the row g of slices, the rows gs of nodes, no two of them one. -/
structure Two (w : World) (g : Nat) (gs : List Nat) (kss : List (List Nd)) : Prop where
  lead : OwnS w g (leads gs kss)
  rows : RowsAt w gs kss
  nodup : gs.Nodup

theorem Two.below {w w' : World} {g : Nat} {gs : List Nat} {kss : List (List Nd)} (h : Two w g gs kss) (hb : Below w.heap.size w w') : Two w' g gs kss :=
  ⟨h.lead.below hb, h.rows.below hb, h.nodup⟩

theorem Two.get {w : World} {g : Nat} {gs : List Nat} {kss : List (List Nd)} (h : Two w g gs kss) (i : Nat) (hi : i < kss.length) (hi' : i < gs.length) :
    w.cell? ⟨g, i, none⟩ = some (.slice (some ⟨gs[i], 0, none⟩) kss[i].length kss[i].length) ∧ Row w gs[i] kss[i] := by
  refine ⟨?_, h.rows.2 i hi' hi⟩
  rw [h.lead.at i]
  simp [leads, List.getElem?_zipWith, List.getElem?_eq_getElem hi, List.getElem?_eq_getElem hi']

theorem Two.lists {w : World} {g : Nat} {gs : List Nat} {kss : List (List Nd)} (h : Two w g gs kss) : Lists w (some ⟨g, 0, none⟩) kss := by
  intro i hi
  have hi' : i < gs.length := by rw [h.rows.1]; exact hi
  obtain ⟨hc, hr⟩ := h.get i hi hi'
  exact ⟨g, 0, _, _, rfl, by simpa using hc, hr.nodes⟩

theorem RowsAt.snoc {w : World} {gs : List Nat} {kss : List (List Nd)} {k g' : Nat} (h : RowsAt w gs (kss.take k)) (hk : k < kss.length) (hr : Row w g' kss[k]) : RowsAt w (gs ++ [g']) (kss.take (k + 1)) := by
  have hg : gs.length = k := by have := h.1; simp at this; omega
  refine ⟨by simp; omega, ?_⟩
  intro i hi hi'
  by_cases hik : i < k
  · have h1 := h.2 i (by omega) (by simp; omega)
    simp only [List.getElem_take] at h1 ⊢
    rw [List.getElem_append_left (by omega)]
    exact h1
  · have e : i = k := by simp at hi; omega
    subst e
    simp only [List.getElem_take]
    rw [List.getElem_append_right (by omega)]
    simpa using hr

theorem RowsAt.put {w : World} {gs : List Nat} {kss : List (List Nd)} {g : Nat} {cs : List Value} (h : RowsAt w gs kss) (ho : OwnS w g cs) (j : Nat) (v : Value) : RowsAt (w.setCell ⟨g, j, none⟩ v) gs kss :=
  ⟨h.1, fun i hi hi' => by
    have hr := h.2 i hi hi'
    exact ((But.refl (· = g) w).setCell (p := ⟨g, j, none⟩) rfl v).row hr (ho.ne hr)⟩

end Go.Proofs.YthioecjcnajmgaaGreatDoor

namespace Go.Proofs.YthioecjcnajmgaaGreatDoor

/-- What a store says, read as types without end: hd tells each cell's head. -/
def val (g : Nat → GC) (hd : Nat → Nat) : List Nat → Nat → Option Nd
  | [], i => some (g (hd i)).nd
  | j :: p, i => match (g (hd i)).ks[j]? with
    | some k => val g hd p k
    | none => none

theorem val_con (g : Nat → GC) (hd : Nat → Nat) (i : Nat) : (fun p => val g hd p i) = con (g (hd i)).nd ((g (hd i)).ks.map fun k => fun p => val g hd p k) := by
  funext p
  cases p with
  | nil => rfl
  | cons j p =>
    simp only [val, con, List.getElem?_map]
    cases (g (hd i)).ks[j]? <;> rfl

/-- It agrees with what the cells say: a store that was equated to its end has a solution. -/
theorem sat_val {X : Nat → Prop} {g : Nat → GC} {lk : Nat → Option Nat} {hd : Nat → Nat} (h1 : ∀ i j, lk i = some j → hd i = hd j) (h2 : ∀ i, lk i = none → hd i = i) : SatC X g lk (fun i p => val g hd p i) := by
  refine ⟨fun i j e => ?_, fun i _ hl _ => ?_⟩
  · show (fun p => val g hd p i) = fun p => val g hd p j
    rw [val_con, val_con, h1 i j e]
  · have := val_con g hd i
    rw [h2 i hl] at this
    exact this

/-- A type without end that has one, written out behind its kids. -/
def Fin'F (R : DT × List Nd → Prop) (x : DT × List Nd) : Prop :=
  (∃ (n : Nd) (ds : List DT) (xss : List (List Nd)), x = (con n ds, xss.flatten ++ [n]) ∧ (ds.length = xss.length) ∧ (∀ i (h1 : i < ds.length) (h2 : i < xss.length), R (ds[i], xss[i])))

structure Fin' (d : DT) (xs : List Nd) : Prop where
  of ::
  lfp : Lfp (Fin'F) (d, xs)

theorem Fin'.grows : Grows (Fin'F) := by
  rintro R R' x h0 ⟨n, ds, xss, e0, hl, h⟩
  · exact ⟨n, ds, xss, e0, hl, fun i h1 h2 => h0 _ (h i h1 h2)⟩

theorem Fin'.mk (n : Nd) (ds : List DT) (xss : List (List Nd)) (hl : ds.length = xss.length) (h : ∀ i (h1 : i < ds.length) (h2 : i < xss.length), Fin' (ds[i]) (xss[i])) : Fin' (con n ds) (xss.flatten ++ [n]) :=
  ⟨Lfp.fold (Fin'.grows) (⟨n, ds, xss, rfl, hl, fun i h1 h2 => (h i h1 h2).lfp⟩)⟩

theorem Fin'.elim {motive : ∀ d xs, Fin' d xs → Prop}
    (mk : ∀ (n : Nd) (ds : List DT) (xss : List (List Nd)) (hl : ds.length = xss.length) (h : ∀ i (h1 : i < ds.length) (h2 : i < xss.length), Fin' (ds[i]) (xss[i])), (∀ i (h1 : i < ds.length) (h2 : i < xss.length), motive (ds[i]) (xss[i]) (h i h1 h2)) → motive (con n ds) (xss.flatten ++ [n]) (Fin'.mk n ds xss hl h))
    {d : DT} {xs : List Nd} (h : Fin' d xs) : motive d xs h := by
  have key : ∀ h, motive (d, xs).1 (d, xs).2 h := Lfp.ind (Fin'.grows) (p := fun x => ∀ h, motive x.1 x.2 h) (by
    rintro x ⟨n, ds, xss, e0, hl, h⟩ h9
    · subst e0; exact mk n ds xss hl (fun i h1 h2 => ⟨(h i h1 h2).1⟩) (fun i h1 h2 => (h i h1 h2).2 _)) h.lfp
  exact key h

theorem Fin'.inv {motive : ∀ d xs, Fin' d xs → Prop}
    (mk : ∀ (n : Nd) (ds : List DT) (xss : List (List Nd)) (hl : ds.length = xss.length) (h : ∀ i (h1 : i < ds.length) (h2 : i < xss.length), Fin' (ds[i]) (xss[i])), motive (con n ds) (xss.flatten ++ [n]) (Fin'.mk n ds xss hl h))
    {d : DT} {xs : List Nd} (h : Fin' d xs) : motive d xs h := by
  induction h using Fin'.elim with
  | mk n ds xss hl h _ => exact mk n ds xss hl h

theorem Fin'.root {d : DT} {xs : List Nd} (h : Fin' d xs) : ∃ n, d [] = some n := by
  cases h using Fin'.inv with
  | mk n ds xss _ _ => exact ⟨n, rfl⟩

theorem con_len {n m : Nd} {ds es : List DT} (h : con n ds = con m es) (h1 : ∀ d ∈ ds, ∃ k, d [] = some k) (h2 : ∀ d ∈ es, ∃ k, d [] = some k) : ds.length = es.length := by
  have key : ∀ {n m : Nd} {ds es : List DT}, con n ds = con m es → (∀ d ∈ es, ∃ k, d [] = some k) → ¬ ds.length < es.length := by
    intro n m ds es h h2 hlt
    have h9 := congrFun h [ds.length]
    obtain ⟨k, hk⟩ := h2 es[ds.length] (List.getElem_mem hlt)
    simp [con, List.getElem?_eq_getElem hlt, hk] at h9
  have a := key h h2
  have b := key h.symm h1
  omega

/-- A type has one way of being written. -/
theorem Fin'.one {d : DT} {xs : List Nd} (h : Fin' d xs) : ∀ {ys : List Nd}, Fin' d ys → xs = ys := by
  induction h using Fin'.elim with
  | mk n ds xss hl h1 ih =>
    intro ys h'
    generalize hd : con n ds = d at h'
    cases h' using Fin'.inv with
    | mk m es yss hl' h2 =>
      obtain rfl := con_nd hd
      have r1 : ∀ d ∈ ds, ∃ k, d [] = some k := by
        intro d hm
        obtain ⟨i, hi, rfl⟩ := List.getElem_of_mem hm
        exact (h1 i hi (by omega)).root
      have r2 : ∀ d ∈ es, ∃ k, d [] = some k := by
        intro d hm
        obtain ⟨i, hi, rfl⟩ := List.getElem_of_mem hm
        exact (h2 i hi (by omega)).root
      have hlE := con_len hd r1 r2
      obtain rfl := con_kids hd hlE
      have : xss = yss := by
        apply List.ext_getElem (by omega)
        intro i h3 h4
        exact ih i (by omega) h3 (h2 i (by omega) h4)
      rw [this]

end Go.Proofs.YthioecjcnajmgaaGreatDoor

namespace Go.Proofs.YthioecjcnajmgaaGreatDoor
open Go.RowKit

/-! What a store was at a time. -/

/-- What a cell was tied to at a time. -/
def tdAt (dec : ∀ p : Prop, Decidable p) (X : Nat → Prop) (f : Nat → CC) (t : Int) (b : Nat) : Option Nat := @ite _ (X b ∧ (f b).si ≤ t) (dec _) (f b).td none

/-- What a cell said at a time. -/
def gcAt (K : (Option Addr × Nat × Nat) → List Nat) (f : Nat → CC) (t : Int) : Nat → GC := fun i => ⟨(f i).nd, K (f i).ks, decide (t < (f i).told) || (f i).open?⟩

theorem tdAt_some {X : Nat → Prop} {f : Nat → CC} {t : Int} {b j : Nat} : tdAt Classical.propDecidable X f t b = some j ↔ X b ∧ (f b).si ≤ t ∧ (f b).td = some j := by
  unfold tdAt
  by_cases h : X b ∧ (f b).si ≤ t
  · rw [if_pos h]
    exact ⟨fun e => ⟨h.1, h.2, e⟩, fun e => e.2.2⟩
  · rw [if_neg h]
    exact ⟨(fun e => by cases e), fun e => absurd ⟨e.1, e.2.1⟩ h⟩

theorem tdAt_none {X : Nat → Prop} {f : Nat → CC} {t : Int} {b : Nat} : tdAt Classical.propDecidable X f t b = none ↔ (X b → (f b).si ≤ t → (f b).td = none) := by
  unfold tdAt
  by_cases h : X b ∧ (f b).si ≤ t
  · rw [if_pos h]
    exact ⟨fun e _ _ => e, fun e => e h.1 h.2⟩
  · rw [if_neg h]
    exact ⟨fun _ h1 h2 => absurd ⟨h1, h2⟩ h, fun _ => rfl⟩

/-- What holds of a store's times; all its unknowns may be told. -/
structure Hist (X : Nat → Prop) (f : Nat → CC) (lk : Nat → Option Nat) (now : Int) : Prop where
  now0 : 0 ≤ now
  hd : SameHd lk (tdAt Classical.propDecidable X f now)
  acyc : ∃ d, Acyc (tdAt Classical.propDecidable X f now) d
  inX : ∀ b j, X b → (f b).td = some j → X j
  si : ∀ b j, X b → (f b).td = some j → (f b).si ≤ now
  told : ∀ b, X b → 0 ≤ (f b).told ∧ (f b).told ≤ now
  open' : ∀ b, X b → (f b).nd.kind = 61 → (f b).lv = 1

theorem Hist.isOpen {X : Nat → Prop} {f : Nat → CC} {lk : Nat → Option Nat} {now : Int} (h : Hist X f lk now) {b : Nat} (hb : X b) : (f b).open? = decide ((f b).nd.kind = 61) := by
  unfold CC.open?
  by_cases hk : (f b).nd.kind = 61
  · simp [hk, h.open' b hb hk]
  · simp [hk]

/-- Where a tie leads to another head. -/
theorem hd_tied {lk : Nat → Option Nat} {h q : Nat} (hh : lk h = none) (hq : lk q = none) (hne : h ≠ q) (i r : Nat) : Hd (tied lk h q) i r ↔ (Hd lk i r ∧ r ≠ q) ∨ (Hd lk i q ∧ r = h) := by
  have hth : tied lk h q h = none := by simp [tied, hne, hh]
  constructor
  · intro H
    induction H using Hd.elim with
    | @root i e =>
      have hiq : i ≠ q := fun e9 => by subst e9; simp [tied] at e
      simp only [tied, hiq, if_false] at e
      exact .inl ⟨.root e, hiq⟩
    | @step i j r e _ ih =>
      by_cases hiq : i = q
      · subst hiq
        simp only [tied, if_true, Option.some.injEq] at e
        subst e
        rcases ih with ⟨h1, h2⟩ | ⟨h1, h2⟩
        · exact .inr ⟨.root hq, h1.fun (.root hh)⟩
        · exact absurd ((Hd.root hh).fun h1) hne
      · simp only [tied, hiq, if_false] at e
        rcases ih with ⟨h1, h2⟩ | ⟨h1, h2⟩
        · exact .inl ⟨.step e h1, h2⟩
        · exact .inr ⟨.step e h1, h2⟩
  · have key : ∀ {i r}, Hd lk i r → r ≠ q → Hd (tied lk h q) i r := by
      intro i r H
      induction H using Hd.elim with
      | @root i e => exact fun hr => .root (by simp [tied, hr, e])
      | @step i j r e _ ih =>
        intro hr
        have hiq : i ≠ q := fun e9 => by subst e9; rw [hq] at e; cases e
        exact .step (by simp [tied, hiq, e]) (ih hr)
    have key2 : ∀ {i r}, Hd lk i r → r = q → Hd (tied lk h q) i h := by
      intro i r H
      induction H using Hd.elim with
      | @root i e => exact fun hr => by subst hr; exact .step (j := h) (by simp [tied]) (.root hth)
      | @step i j r e _ ih =>
        intro hr
        have hiq : i ≠ q := fun e9 => by subst e9; rw [hq] at e; cases e
        exact .step (by simp [tied, hiq, e]) (ih hr)
    rintro (⟨h1, h2⟩ | ⟨h1, rfl⟩)
    · exact key h1 h2
    · exact key2 h1 rfl

theorem SameHd.tied {lk lk' : Nat → Option Nat} (hs : SameHd lk lk') {h q : Nat} (hh : lk h = none) (hq : lk q = none) (hne : h ≠ q) : SameHd (tied lk h q) (tied lk' h q) := by
  have hh' : lk' h = none := (root_iff lk' h).2 ((hs h h).1 ((root_iff lk h).1 hh))
  have hq' : lk' q = none := (root_iff lk' q).2 ((hs q q).1 ((root_iff lk q).1 hq))
  intro i r
  rw [hd_tied hh hq hne, hd_tied hh' hq' hne, hs i r, hs i q]

theorem SameHd.rootN {lk lk' : Nat → Option Nat} (hs : SameHd lk lk') {i : Nat} (h : lk i = none) : lk' i = none := (root_iff lk' i).2 ((hs i i).1 ((root_iff lk i).1 h))

section
variable {X : Nat → Prop} {f : Nat → CC} {lk : Nat → Option Nat} {now : Int}

theorem Hist.tdNone (H : Hist X f lk now) {b : Nat} (hb : X b) (hl : lk b = none) : (f b).td = none := by
  have h9 := H.hd.rootN hl
  cases e : (f b).td with
  | none => rfl
  | some j => rw [tdAt_none] at h9; have := h9 hb (H.si b j hb e); rw [e] at this; cases this

theorem tdAt_tied {a h q : Nat} {r : Int} (hXq : X q) (hhq : h ≠ q) (tdq : (f q).td = none) (t : Int) : (t < now → tdAt Classical.propDecidable X (tiedF f a h q r now) t = tdAt Classical.propDecidable X f t) ∧ (now ≤ t → tdAt Classical.propDecidable X (tiedF f a h q r now) t = tied (tdAt Classical.propDecidable X f t) h q) := by
  have e1 : ∀ i, i ≠ q → ((tiedF f a h q r now i).td = (f i).td ∧ (tiedF f a h q r now i).si = (f i).si) := by
    intro i hi
    unfold tiedF
    rw [if_neg hi]
    split
    · rename_i e
      subst e
      split <;> exact ⟨rfl, rfl⟩
    · exact ⟨rfl, rfl⟩
  have e2 : (tiedF f a h q r now q).td = some h ∧ (tiedF f a h q r now q).si = now := by
    unfold tiedF
    rw [if_pos rfl]
    exact ⟨rfl, rfl⟩
  refine ⟨fun ht => ?_, fun ht => ?_⟩
  · funext i
    by_cases hi : i = q
    · subst hi
      have h1 : tdAt Classical.propDecidable X (tiedF f a h i r now) t i = none := tdAt_none.2 (fun _ h9 => by rw [e2.2] at h9; omega)
      have h2 : tdAt Classical.propDecidable X f t i = none := tdAt_none.2 (fun _ _ => tdq)
      rw [h1, h2]
    · unfold tdAt
      rw [(e1 i hi).1, (e1 i hi).2]
  · funext i
    by_cases hi : i = q
    · subst hi
      have h1 : tdAt Classical.propDecidable X (tiedF f a h i r now) t i = some h := tdAt_some.2 ⟨hXq, by rw [e2.2]; exact ht, e2.1⟩
      rw [h1]
      simp [tied]
    · simp only [tied, hi, if_false]
      unfold tdAt
      rw [(e1 i hi).1, (e1 i hi).2]

theorem Hist.step (H : Hist X f lk now) {lk2 : Nat → Option Nat} {a b h q : Nat} {r : Int} (hXa : X a) (hXb : X b) (hab : a ≠ b) (ha : lk a = none) (hb : lk b = none) (hq : h = a ∧ q = b ∨ h = b ∧ q = a) (hs : SameHd (tied lk h q) lk2) : Hist X (tiedF f a h q r now) lk2 now := by
  have hhq : h ≠ q := by
    rcases hq with ⟨rfl, rfl⟩ | ⟨rfl, rfl⟩
    · exact hab
    · exact fun e => hab e.symm
  have hlq : lk q = none := by rcases hq with ⟨rfl, rfl⟩ | ⟨rfl, rfl⟩ <;> assumption
  have hlh : lk h = none := by rcases hq with ⟨rfl, rfl⟩ | ⟨rfl, rfl⟩ <;> assumption
  have hXq : X q := by rcases hq with ⟨rfl, rfl⟩ | ⟨rfl, rfl⟩ <;> assumption
  have hXh : X h := by rcases hq with ⟨rfl, rfl⟩ | ⟨rfl, rfl⟩ <;> assumption
  have ht := (tdAt_tied (f := f) (now := now) (a := a) (r := r) hXq hhq (H.tdNone hXq hlq) now).2 (Int.le_refl _)
  refine ⟨H.now0, ?_, ?_, fun i j hi e => ?_, fun i j hi e => ?_, fun i hi => ?_, fun i hi e => ?_⟩
  · rw [ht]
    exact hs.symm.trans (H.hd.tied hlh hlq hhq)
  · rw [ht]
    obtain ⟨d, hd⟩ := H.acyc
    exact acyc_tied hd (H.hd.rootN hlh) (H.hd.rootN hlq) hhq
  · by_cases hiq : i = q
    · subst hiq
      simp only [tiedF, if_true, Option.some.injEq] at e
      rw [← e]; exact hXh
    · unfold tiedF at e
      rw [if_neg hiq] at e
      split at e
      · rename_i e9
        subst e9
        split at e <;> exact H.inX i j hi e
      · exact H.inX i j hi e
  · by_cases hiq : i = q
    · subst hiq
      simp [tiedF]
    · unfold tiedF at e ⊢
      rw [if_neg hiq] at e ⊢
      split at e
      · rename_i e9
        subst e9
        simp only [if_true]
        split at e
        · rename_i hk; rw [if_pos hk]; exact H.si i j hi e
        · rename_i hk; rw [if_neg hk]; exact H.si i j hi e
      · rename_i hih
        rw [if_neg hih]
        exact H.si i j hi e
  · unfold tiedF
    split
    · rename_i e9; subst e9; exact H.told i hi
    · split
      · rename_i e9
        subst e9
        split
        · exact ⟨H.now0, Int.le_refl _⟩
        · exact H.told i hi
      · exact H.told i hi
  · unfold tiedF at e ⊢
    by_cases hiq : i = q
    · subst hiq
      rw [if_pos rfl] at e ⊢
      exact H.open' i hi e
    · rw [if_neg hiq] at e ⊢
      by_cases hih : i = h
      · subst hih
        rw [if_pos rfl] at e ⊢
        by_cases hk : (f i).nd.kind = 61
        · rw [if_pos hk] at e ⊢
          exact H.open' a hXa e
        · rw [if_neg hk] at e ⊢
          exact H.open' i hi e
      · rw [if_neg hih] at e ⊢
        exact H.open' i hi e

/-- What was so at an earlier time stays as it was. -/
theorem satAt_step (K : (Option Addr × Nat × Nat) → List Nat) (H : Hist X f lk now) {a b h q : Nat} {r : Int} (hXa : X a) (hXb : X b) (hab : a ≠ b) (ha : lk a = none) (hb : lk b = none) (hq : h = a ∧ q = b ∨ h = b ∧ q = a) (t : Int) (ht : t < now) (θ : Nat → DT) : SatC X (gcAt K (tiedF f a h q r now) t) (tdAt Classical.propDecidable X (tiedF f a h q r now) t) θ ↔ SatC X (gcAt K f t) (tdAt Classical.propDecidable X f t) θ := by
  have hhq : h ≠ q := by
    rcases hq with ⟨rfl, rfl⟩ | ⟨rfl, rfl⟩
    · exact hab
    · exact fun e => hab e.symm
  have hlq : lk q = none := by rcases hq with ⟨rfl, rfl⟩ | ⟨rfl, rfl⟩ <;> assumption
  have hXq : X q := by rcases hq with ⟨rfl, rfl⟩ | ⟨rfl, rfl⟩ <;> assumption
  have hXh : X h := by rcases hq with ⟨rfl, rfl⟩ | ⟨rfl, rfl⟩ <;> assumption
  rw [(tdAt_tied (f := f) (now := now) (a := a) (r := r) hXq hhq (H.tdNone hXq hlq) t).1 ht]
  have key : ∀ i, X i → (gcAt K (tiedF f a h q r now) t i = gcAt K f t i) ∨ ((gcAt K (tiedF f a h q r now) t i).op = true ∧ (gcAt K f t i).op = true) := by
    intro i hi
    unfold gcAt tiedF
    by_cases hiq : i = q
    · subst hiq
      left
      simp [CC.open?]
    · by_cases hih : i = h
      · subst hih
        by_cases hk : (f i).nd.kind = 61
        · right
          have h1 := H.isOpen hi
          simp only [hk, decide_true] at h1
          simp [hiq, hk, h1, ht]
        · left
          simp [hiq, hk, CC.open?]
      · left
        simp [hiq, hih]
  constructor
  · rintro ⟨h1, h2⟩
    refine ⟨h1, fun i hi hl ho => ?_⟩
    rcases key i hi with e | ⟨e1, e2⟩
    · rw [← e] at ho ⊢
      exact h2 i hi hl ho
    · rw [e2] at ho; cases ho
  · rintro ⟨h1, h2⟩
    refine ⟨h1, fun i hi hl ho => ?_⟩
    rcases key i hi with e | ⟨e1, e2⟩
    · rw [e] at ho ⊢
      exact h2 i hi hl ho
    · rw [e1] at ho; cases ho

/-- Now it is as the store says. -/
theorem Hist.satNow (K : (Option Addr × Nat × Nat) → List Nat) (H : Hist X f lk now) {d : Nat → Nat} (ha : Acyc lk d) (θ : Nat → DT) : SatC X (gcAt K f now) (tdAt Classical.propDecidable X f now) θ ↔ SatC X (gc K f) lk θ := by
  obtain ⟨d', hd'⟩ := H.acyc
  rw [H.hd.sat (g := gcAt K f now) ha hd']
  have key : ∀ i, X i → gcAt K f now i = gc K f i := by
    intro i hi
    have := (H.told i hi).2
    unfold gcAt gc
    have h9 : decide (now < (f i).told) = false := decide_eq_false (by omega)
    rw [h9, Bool.false_or]
  constructor
  · rintro ⟨h1, h2⟩
    refine ⟨h1, fun i hi hl ho => ?_⟩
    rw [← key i hi] at ho ⊢
    exact h2 i hi hl ho
  · rintro ⟨h1, h2⟩
    refine ⟨h1, fun i hi hl ho => ?_⟩
    rw [key i hi] at ho ⊢
    exact h2 i hi hl ho

theorem Hist.short (H : Hist X f lk now) {lk2 : Nat → Option Nat} (hs : SameHd lk lk2) : Hist X f lk2 now :=
  { H with hd := hs.symm.trans H.hd }

theorem Ties.hist {f' : Nat → CC} {lk' : Nat → Option Nat} (h : Ties X now f lk f' lk') (H : Hist X f lk now) : Hist X f' lk' now ∧ ∀ K t θ, t < now → (SatC X (gcAt K f' t) (tdAt Classical.propDecidable X f' t) θ ↔ SatC X (gcAt K f t) (tdAt Classical.propDecidable X f t) θ) := by
  induction h using Ties.elim with
  | same hs => exact ⟨H.short hs, fun _ _ _ _ => Iff.rfl⟩
  | step _ hXa hXb hab ha hb hq _ hs ih =>
    obtain ⟨h1, h2⟩ := ih
    exact ⟨h1.step hXa hXb hab ha hb hq hs, fun K t θ ht => (satAt_step K h1 hXa hXb hab ha hb hq t ht θ).trans (h2 K t θ ht)⟩

/-- The numbers of open heads: the lowest of all unknowns that have them. -/
structure NumOk (X : Nat → Prop) (U : Int → Option Nat) (f : Nat → CC) (lk : Nat → Option Nat) : Prop where
  low : ∀ x b r, U x = some b → Hd lk b r → (f r).open? = true → (f r).nd.num ≤ x
  has : ∀ r, X r → lk r = none → (f r).open? = true → ∃ b, U (f r).nd.num = some b ∧ Hd lk b r

theorem NumOk.short {U : Int → Option Nat} (H : NumOk X U f lk) {lk2 : Nat → Option Nat} (hs : SameHd lk lk2) : NumOk X U f lk2 := by
  refine ⟨fun x b r hu hr ho => H.low x b r hu ((hs b r).2 hr) ho, fun r hX hl ho => ?_⟩
  obtain ⟨b, h1, h2⟩ := H.has r hX (hs.symm.rootN hl) ho
  exact ⟨b, h1, (hs b r).1 h2⟩

theorem open_core {c d : CC} (h : c.core = d.core) : c.open? = d.open? ∧ c.nd = d.nd := by
  obtain ⟨n1, n2, n3⟩ := core_parts h
  exact ⟨by simp [CC.open?, n1, n3], n1⟩

theorem NumOk.step {U : Int → Option Nat} (hU : NumOk X U f lk) (H : Hist X f lk now) {lk2 : Nat → Option Nat} {a b h q : Nat} {r : Int} (hXa : X a) (hXb : X b) (hab : a ≠ b) (ha : lk a = none) (hb : lk b = none) (hq : h = a ∧ q = b ∨ h = b ∧ q = a) (hm : MayTie (f a) (f b)) (hs : SameHd (tied lk h q) lk2) : NumOk X U (tiedF f a h q r now) lk2 := by
  have hhq : h ≠ q := by
    rcases hq with ⟨rfl, rfl⟩ | ⟨rfl, rfl⟩
    · exact hab
    · exact fun e => hab e.symm
  have hlq : lk q = none := by rcases hq with ⟨rfl, rfl⟩ | ⟨rfl, rfl⟩ <;> assumption
  have hlh : lk h = none := by rcases hq with ⟨rfl, rfl⟩ | ⟨rfl, rfl⟩ <;> assumption
  have hXh : X h := by rcases hq with ⟨rfl, rfl⟩ | ⟨rfl, rfl⟩ <;> assumption
  have hop : ∀ i, i ≠ h → (tiedF f a h q r now i).open? = (f i).open? ∧ (tiedF f a h q r now i).nd = (f i).nd := fun i hi => open_core (tiedF_rest f r now i hi)
  have hoh : (tiedF f a h q r now h).open? = true → (f a).open? = true ∧ (f b).open? = true ∧ (tiedF f a h q r now h).nd = (f a).nd := by
    intro ho
    have hc := tiedF_head f (a := a) hhq r now
    have ha61 := H.isOpen hXa
    have hb61 := H.isOpen hXb
    have hh61 := H.isOpen hXh
    by_cases hk : (f h).nd.kind = 61
    · rw [if_pos hk] at hc
      have hc := open_core hc
      rw [hc.1] at ho
      refine ⟨ho, ?_, hc.2⟩
      rcases hm with ⟨h1, _⟩ | ⟨h1, _⟩
      · exact h1
      · rw [h1] at ho; cases ho
    · rw [if_neg hk] at hc
      have hc := open_core hc
      rw [hc.1, hh61] at ho
      simp [hk] at ho
  refine NumOk.short ⟨fun x c r' hu hr ho => ?_, fun r' hX hl ho => ?_⟩ hs
  · rw [hd_tied hlh hlq hhq] at hr
    by_cases hrh : r' = h
    · subst hrh
      obtain ⟨o1, o2, o3⟩ := hoh ho
      rw [o3]
      have hle : (f a).nd.num ≤ (f b).nd.num := by
        rcases hm with ⟨_, h2⟩ | ⟨h1, _⟩
        · exact h2 o1
        · rw [h1] at o1; cases o1
      have hab' : Hd lk c a ∨ Hd lk c b := by
        rcases hq with ⟨rfl, rfl⟩ | ⟨rfl, rfl⟩
        · rcases hr with ⟨h1, _⟩ | ⟨h1, _⟩
          · exact .inl h1
          · exact .inr h1
        · rcases hr with ⟨h1, _⟩ | ⟨h1, _⟩
          · exact .inr h1
          · exact .inl h1
      rcases hab' with h1 | h1
      · exact hU.low x c a hu h1 o1
      · have := hU.low x c b hu h1 o2
        omega
    · rcases hr with ⟨h1, h2⟩ | ⟨_, h2⟩
      · rw [(hop r' hrh).1] at ho
        rw [(hop r' hrh).2]
        exact hU.low x c r' hu h1 ho
      · exact absurd h2 hrh
  · have hrq : r' ≠ q := fun e9 => by subst e9; simp [tied] at hl
    simp only [tied, hrq, if_false] at hl
    by_cases hrh : r' = h
    · subst hrh
      obtain ⟨o1, o2, o3⟩ := hoh ho
      obtain ⟨c, c1, c2⟩ := hU.has a hXa ha o1
      refine ⟨c, by rw [o3]; exact c1, ?_⟩
      rw [hd_tied hlh hlq hhq]
      rcases hq with ⟨rfl, rfl⟩ | ⟨rfl, rfl⟩
      · exact .inl ⟨c2, hab⟩
      · exact .inr ⟨c2, rfl⟩
    · rw [(hop r' hrh).1] at ho
      obtain ⟨c, c1, c2⟩ := hU.has r' hX hl ho
      refine ⟨c, by rw [(hop r' hrh).2]; exact c1, ?_⟩
      rw [hd_tied hlh hlq hhq]
      exact .inl ⟨c2, hrq⟩

theorem Ties.num {U : Int → Option Nat} {f' : Nat → CC} {lk' : Nat → Option Nat} (h : Ties X now f lk f' lk') (H : Hist X f lk now) (hU : NumOk X U f lk) : NumOk X U f' lk' := by
  induction h using Ties.elim with
  | same hs => exact hU.short hs
  | step h1 hXa hXb hab ha hb hq hm hs ih => exact ih.step (h1.hist H).1 hXa hXb hab ha hb hq hm hs

end

end Go.Proofs.YthioecjcnajmgaaGreatDoor

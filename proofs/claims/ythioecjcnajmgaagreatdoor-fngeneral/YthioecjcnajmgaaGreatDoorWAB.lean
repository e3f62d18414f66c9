import Derived.Test.YthioecjcnajmgaaGreatDoorWAA
import Derived.Deep.QuietTactic
import Derived.BigQuiet
namespace Go.Proofs.YthioecjcnajmgaaGreatDoor

/-- Types, perhaps without end: what stands at each place. -/
abbrev DT := List Nat → Option Nd

/-- A node over its kids. -/
def con (n : Nd) (ds : List DT) : DT
  | [] => some n
  | i :: p => match ds[i]? with
    | some d => d p
    | none => none

theorem con_nd {n m : Nd} {ds es : List DT} (h : con n ds = con m es) : n = m := by
  have := congrFun h []
  simpa [con] using this

theorem con_kids {n m : Nd} {ds es : List DT} (h : con n ds = con m es) (hl : ds.length = es.length) : ds = es := by
  apply List.ext_getElem hl
  intro i h1 h2
  funext p
  have := congrFun h (i :: p)
  simpa [con, List.getElem?_eq_getElem h1, List.getElem?_eq_getElem h2] using this

/-- What a cell says, without the store: its node, its kids, and whether it is an unknown that may be told. -/
structure GC where
  nd : Nd
  ks : List Nat
  op : Bool

/-- The types of all cells agree with what the cells say: linked ones are the same, and a head that isn't open is its node over its kids. -/
def SatC (X : Nat → Prop) (g : Nat → GC) (lk : Nat → Option Nat) (θ : Nat → DT) : Prop :=
  (∀ i j, lk i = some j → θ i = θ j) ∧ ∀ i, X i → lk i = none → (g i).op = false → θ i = con (g i).nd ((g i).ks.map θ)

/-- The same, but for what one cell says. -/
def SatW (X : Nat → Prop) (g : Nat → GC) (lk : Nat → Option Nat) (b : Nat) (θ : Nat → DT) : Prop :=
  (∀ i j, lk i = some j → θ i = θ j) ∧ ∀ i, X i → i ≠ b → lk i = none → (g i).op = false → θ i = con (g i).nd ((g i).ks.map θ)

theorem sat_w {X : Nat → Prop} {g : Nat → GC} {lk : Nat → Option Nat} {b : Nat} {θ : Nat → DT} (hX : X b) (hb : lk b = none) : SatC X g lk θ ↔ SatW X g lk b θ ∧ ((g b).op = false → θ b = con (g b).nd ((g b).ks.map θ)) := by
  constructor
  · rintro ⟨h1, h2⟩
    exact ⟨⟨h1, fun i hi _ => h2 i hi⟩, h2 b hX hb⟩
  · rintro ⟨⟨h1, h2⟩, h3⟩
    refine ⟨h1, fun i hi hl ho => ?_⟩
    by_cases hib : i = b
    · subst hib; exact h3 ho
    · exact h2 i hi hib hl ho

/-- A forest in which a head is linked to another. -/
def tied (lk : Nat → Option Nat) (h q : Nat) : Nat → Option Nat := fun i => if i = q then some h else lk i

theorem sat_tie {X : Nat → Prop} {g g' : Nat → GC} {lk : Nat → Option Nat} {a b h q : Nat} (hXa : X a) (hXb : X b) (hab : a ≠ b) (ha : lk a = none) (hb : lk b = none) (hq : h = a ∧ q = b ∨ h = b ∧ q = a) (hg : g' h = g a) (hg' : ∀ i, i ≠ h → g' i = g i) (θ : Nat → DT) :
    SatC X g' (tied lk h q) θ ↔ SatW X g lk b θ ∧ θ a = θ b := by
  have hhq : h ≠ q := by
    rcases hq with ⟨rfl, rfl⟩ | ⟨rfl, rfl⟩
    · exact hab
    · exact fun e => hab e.symm
  have hlq : lk q = none := by rcases hq with ⟨rfl, rfl⟩ | ⟨rfl, rfl⟩ <;> assumption
  have hlh : lk h = none := by rcases hq with ⟨rfl, rfl⟩ | ⟨rfl, rfl⟩ <;> assumption
  have hXh : X h := by rcases hq with ⟨rfl, rfl⟩ | ⟨rfl, rfl⟩ <;> assumption
  have hth : tied lk h q h = none := by simp [tied, hhq, hlh]
  have hother : ∀ i, i ≠ h → i ≠ q → i ≠ a ∧ i ≠ b := by rcases hq with ⟨rfl, rfl⟩ | ⟨rfl, rfl⟩ <;> exact fun i h1 h2 => by simp_all
  have habq : ∀ i, i ≠ a → i ≠ b → i ≠ h ∧ i ≠ q := by rcases hq with ⟨rfl, rfl⟩ | ⟨rfl, rfl⟩ <;> exact fun i h1 h2 => by simp_all
  constructor
  · rintro ⟨h1, h2⟩
    have e0 : θ q = θ h := h1 q h (by simp [tied])
    have e1 : θ a = θ b := by rcases hq with ⟨rfl, rfl⟩ | ⟨rfl, rfl⟩ <;> simp [e0]
    have eh : θ h = θ a := by rcases hq with ⟨rfl, rfl⟩ | ⟨rfl, rfl⟩ <;> simp [e1]
    refine ⟨⟨fun i j e => ?_, fun i hi hib hl ho => ?_⟩, e1⟩
    · refine h1 i j ?_
      have : i ≠ q := fun e9 => by subst e9; rw [hlq] at e; cases e
      simp [tied, this, e]
    · by_cases hia : i = a
      · subst hia
        have := h2 h hXh hth (by rw [hg]; exact ho)
        rw [hg, eh] at this
        exact this
      · obtain ⟨n1, n2⟩ := habq i hia hib
        have := h2 i hi (by simp [tied, n2, hl]) (by rw [hg' i n1]; exact ho)
        rw [hg' i n1] at this
        exact this
  · rintro ⟨⟨h1, h2⟩, e1⟩
    have eh : θ h = θ a := by rcases hq with ⟨rfl, rfl⟩ | ⟨rfl, rfl⟩ <;> simp [e1]
    have eq : θ q = θ a := by rcases hq with ⟨rfl, rfl⟩ | ⟨rfl, rfl⟩ <;> simp [e1]
    refine ⟨fun i j e => ?_, fun i hi hl ho => ?_⟩
    · by_cases hiq : i = q
      · subst hiq
        simp [tied] at e
        subst e
        rw [eq, eh]
      · simp only [tied, hiq, if_false] at e
        exact h1 i j e
    · have hiq : i ≠ q := fun e9 => by subst e9; simp [tied] at hl
      simp only [tied, hiq, if_false] at hl
      by_cases hih : i = h
      · subst hih
        rw [hg] at ho ⊢
        rw [eh]
        exact h2 a hXa hab ha ho
      · obtain ⟨n1, n2⟩ := hother i hih hiq
        rw [hg' i hih] at ho ⊢
        exact h2 i hi n2 hl ho

/-- The second one is open: no more is asked. -/
theorem sat_open {X : Nat → Prop} {g g' : Nat → GC} {lk : Nat → Option Nat} {a b h q : Nat} (hXa : X a) (hXb : X b) (hab : a ≠ b) (ha : lk a = none) (hb : lk b = none) (hq : h = a ∧ q = b ∨ h = b ∧ q = a) (hg : g' h = g a) (hg' : ∀ i, i ≠ h → g' i = g i) (ho : (g b).op = true) (θ : Nat → DT) :
    SatC X g' (tied lk h q) θ ↔ SatC X g lk θ ∧ θ a = θ b := by
  rw [sat_tie hXa hXb hab ha hb hq hg hg', sat_w (g := g) hXb hb]
  constructor
  · rintro ⟨h1, h2⟩
    exact ⟨⟨h1, fun e => by rw [ho] at e; cases e⟩, h2⟩
  · rintro ⟨⟨h1, _⟩, h2⟩
    exact ⟨h1, h2⟩

/-- Neither is open and their nodes are the same: their kids are the same too. -/
theorem sat_both {X : Nat → Prop} {g g' : Nat → GC} {lk : Nat → Option Nat} {a b h q : Nat} (hXa : X a) (hXb : X b) (hab : a ≠ b) (ha : lk a = none) (hb : lk b = none) (hq : h = a ∧ q = b ∨ h = b ∧ q = a) (hg : g' h = g a) (hg' : ∀ i, i ≠ h → g' i = g i) (hoa : (g a).op = false) (hob : (g b).op = false) (hn : (g a).nd = (g b).nd) (hl : (g a).ks.length = (g b).ks.length) (θ : Nat → DT) :
    (SatC X g' (tied lk h q) θ ∧ (g a).ks.map θ = (g b).ks.map θ) ↔ SatC X g lk θ ∧ θ a = θ b := by
  rw [sat_tie hXa hXb hab ha hb hq hg hg', sat_w (g := g) hXb hb]
  constructor
  · rintro ⟨⟨h1, h2⟩, h3⟩
    refine ⟨⟨h1, fun _ => ?_⟩, h2⟩
    rw [← h2, ← hn, ← h3]
    exact h1.2 a hXa hab ha hoa
  · rintro ⟨⟨h1, h3⟩, h2⟩
    refine ⟨⟨h1, h2⟩, ?_⟩
    have e1 := h1.2 a hXa hab ha hoa
    have e2 := h3 hob
    rw [← h2, e1] at e2
    exact con_kids e2 (by simpa using hl)

/-- Neither is open and their nodes are not the same. -/
theorem sat_clash {X : Nat → Prop} {g : Nat → GC} {lk : Nat → Option Nat} {a b : Nat} (hXa : X a) (hXb : X b) (ha : lk a = none) (hb : lk b = none) (hoa : (g a).op = false) (hob : (g b).op = false) (hn : (g a).nd ≠ (g b).nd) (θ : Nat → DT) (hs : SatC X g lk θ) : θ a ≠ θ b := by
  intro e
  have e1 := hs.2 a hXa ha hoa
  have e2 := hs.2 b hXb hb hob
  rw [← e, e1] at e2
  exact hn (con_nd e2)

/-- A cell and its head are the same. -/
theorem SatC.head {X : Nat → Prop} {g : Nat → GC} {lk : Nat → Option Nat} {θ : Nat → DT} (hs : SatC X g lk θ) {P : Nat → Nat → Prop} (hP : ∀ i r, P i r → i = r ∨ ∃ j, lk i = some j ∧ P j r) (d : Nat → Nat) (hd : ∀ i j, lk i = some j → d j < d i) : ∀ n i r, d i < n → P i r → θ i = θ r := by
  intro n
  induction n with
  | zero => intro i r h; omega
  | succ n ih =>
    intro i r h hp
    rcases hP i r hp with e | ⟨j, e, hj⟩
    · rw [e]
    · rw [hs.1 i j e]
      exact ih j r (by have := hd i j e; omega) hj

end Go.Proofs.YthioecjcnajmgaaGreatDoor

namespace Go.Proofs.YthioecjcnajmgaaGreatDoor

open Go.RowKit

/-- Is the cell an unknown that isn't held? -/
def CC.open? (c : CC) : Bool := c.nd.kind == 61 && decide (1 ≤ c.lv)

set_option maxRecDepth 20000 in
set_option maxHeartbeats 2000000 in
theorem isOpen_any (w : World) (b : Nat) (c : CC) (l : Option Nat) (hc : CellAt w b c l) :
    Calls Tryz.prog 71 #[.pointer (some ⟨b, 0, none⟩)] w fun e w' => e = .returned (.bool c.open?) ∧ w' = w := by
  obtain ⟨_, c0, _, _, _, _, _, _, c6, _, _, _, _, _⟩ := hc.cell
  go_enter Tryz.func71, Tryz.ntmps71
  go_wp2
  · rename_i h9
    go_ret
    exact ⟨by simp [CC.open?, h9], rfl⟩
  · rename_i h9
    go_ret
    exact ⟨by simp [CC.open?, h9], rfl⟩

theorem Cells.drewN {w : World} {X : Nat → Prop} {f : Nat → CC} {lk : Nat → Option Nat} (h : Cells w X f lk) (n : Nat) : Cells (w.drewN n) X f lk := ⟨fun b hb => h.at' b hb, h.link⟩

theorem Cells.drew {w : World} {X : Nat → Prop} {f : Nat → CC} {lk : Nat → Option Nat} (h : Cells w X f lk) : Cells w.drew X f lk := ⟨fun b hb => h.at' b hb, h.link⟩

theorem But.drew {S : Nat → Prop} {a w : World} (h : But S a w) : But S a w.drew := ⟨h.os, h.tape, h.output, h.size, h.block⟩

theorem But.drewN {S : Nat → Prop} {a w : World} (h : But S a w) (n : Nat) : But S a (w.drewN n) := ⟨h.os, h.tape, h.output, h.size, h.block⟩

theorem But.cellB {S : Nat → Prop} {w w' : World} (h : But S w w') {b o : Nat} (hl : b < w.heap.size) (hn : ¬ S b) : w'.cell? ⟨b, o, none⟩ = w.cell? ⟨b, o, none⟩ := by
  unfold World.cell?
  rw [h.block b hl hn]

/-- A cell's block is written anew. -/
theorem Cells.upd {w w' : World} {X : Nat → Prop} {f : Nat → CC} {lk : Nat → Option Nat} (h : Cells w X f lk) {b : Nat} {c' : CC} (hc : CellAt w' b c' (lk b)) (hb : But (· = b) w w') : Cells w' X (fun i => if i = b then c' else f i) lk := by
  refine ⟨fun x hx => ?_, h.link⟩
  by_cases hxb : x = b
  · subst hxb
    rw [if_pos rfl]
    exact hc
  · rw [if_neg hxb]
    exact (h.at' x hx).but hb hxb

/-- A cell's rank is stored anew. -/
theorem Cells.rerank {w : World} {X : Nat → Prop} {f : Nat → CC} {lk : Nat → Option Nat} (h : Cells w X f lk) {b : Nat} (hb : X b) (r : Int) : Cells (w.setCell ⟨b, 10, none⟩ (.int .i64 r)) X (fun i => if i = b then { f b with rk := r } else f i) lk := by
  refine h.upd ?_ ((But.refl (· = b) w).setCell (p := ⟨b, 10, none⟩) rfl _)
  have h9 := heap_setCell_same w b 10 _ 109 (.int .i64 r) (h.at' b hb)
  simpa [CellAt] using h9

/-- What another cell says is written into a cell. -/
theorem Cells.says {w : World} {X : Nat → Prop} {f : Nat → CC} {lk : Nat → Option Nat} (h : Cells w X f lk) {b : Nat} (hb : X b) (c : CC) (t : Int) :
    Cells ((((((((w.setCell ⟨b, 1, none⟩ (.int .i64 c.nd.kind)).setCell ⟨b, 2, none⟩ (.int .i64 c.nd.num)).setCell ⟨b, 3, none⟩ (.string c.nd.text)).setCell ⟨b, 4, none⟩ (.int .i64 c.nd.kids)).setCell ⟨b, 5, none⟩ (.int .i64 c.nd.place)).setCell ⟨b, 6, none⟩ (.slice c.ks.1 c.ks.2.1 c.ks.2.2)).setCell ⟨b, 8, none⟩ (.int .i64 c.lv)).setCell ⟨b, 7, none⟩ (.int .i64 t)) X
      (fun i => if i = b then { f b with nd := c.nd, ks := c.ks, lv := c.lv, told := t } else f i) lk := by
  refine h.upd ?_ ?_
  · have h0 := heap_setCell_same w b 1 _ 109 (.int .i64 c.nd.kind) (h.at' b hb)
    have h1 := heap_setCell_same _ b 2 _ 109 (.int .i64 c.nd.num) h0
    have h2 := heap_setCell_same _ b 3 _ 109 (.string c.nd.text) h1
    have h3 := heap_setCell_same _ b 4 _ 109 (.int .i64 c.nd.kids) h2
    have h4 := heap_setCell_same _ b 5 _ 109 (.int .i64 c.nd.place) h3
    have h5 := heap_setCell_same _ b 6 _ 109 (.slice c.ks.1 c.ks.2.1 c.ks.2.2) h4
    have h6 := heap_setCell_same _ b 8 _ 109 (.int .i64 c.lv) h5
    have h7 := heap_setCell_same _ b 7 _ 109 (.int .i64 t) h6
    simpa [CellAt] using h7
  · exact (((((((((But.refl (· = b) w).setCell (p := ⟨b, 1, none⟩) rfl (.int .i64 c.nd.kind)).setCell (p := ⟨b, 2, none⟩) rfl (.int .i64 c.nd.num)).setCell (p := ⟨b, 3, none⟩) rfl (.string c.nd.text)).setCell (p := ⟨b, 4, none⟩) rfl (.int .i64 c.nd.kids)).setCell (p := ⟨b, 5, none⟩) rfl (.int .i64 c.nd.place)).setCell (p := ⟨b, 6, none⟩) rfl (.slice c.ks.1 c.ks.2.1 c.ks.2.2)).setCell (p := ⟨b, 8, none⟩) rfl (.int .i64 c.lv)).setCell (p := ⟨b, 7, none⟩) rfl (.int .i64 t))

/-- A head is linked to another, and it is kept beside since when. -/
theorem Cells.ties {w : World} {X : Nat → Prop} {f : Nat → CC} {lk : Nat → Option Nat} (h : Cells w X f lk) {b j : Nat} (hb : X b) (hj : X j) (t : Int) :
    Cells (((w.setCell ⟨b, 9, none⟩ (ptr (some j))).setCell ⟨b, 11, none⟩ (ptr (some j))).setCell ⟨b, 12, none⟩ (.int .i64 t)) X
      (fun i => if i = b then { f b with td := some j, si := t } else f i) (fun i => if i = b then some j else lk i) := by
  have h1 := h.relink hb hj
  refine h1.upd ?_ ?_
  · have h2 := heap_setCell_same _ b 11 _ 109 (ptr (some j)) (h1.at' b hb)
    have h3 := heap_setCell_same _ b 12 _ 109 (.int .i64 t) h2
    simpa [CellAt] using h3
  · exact ((But.refl (· = b) _).setCell (p := ⟨b, 11, none⟩) rfl _).setCell (p := ⟨b, 12, none⟩) rfl _

/-- The cells behind a tie: q is linked to h, which has got what a says where it was an unknown. -/
def tiedF (f : Nat → CC) (a h q : Nat) (r t : Int) : Nat → CC := fun i => if i = q then { f q with td := some h, si := t } else if i = h then (if (f h).nd.kind = 61 then { f h with rk := r, nd := (f a).nd, ks := (f a).ks, lv := (f a).lv, told := t } else { f h with rk := r }) else f i

set_option maxRecDepth 20000 in
set_option maxHeartbeats 2000000 in
theorem tie_any (X : Nat → Prop) (f : Nat → CC) (lk : Nat → Option Nat) (w : World) (hC : Cells w X f lk) (sb : Nat) (t : Int) (hsX : ¬ X sb) (hst : w.cell? ⟨sb, 1, none⟩ = some (.int .i64 t)) (a b : Nat) (hXa : X a) (hXb : X b) (hab : a ≠ b) (ha : lk a = none) (hb : lk b = none) :
    Calls Tryz.prog 73 #[.pointer (some ⟨sb, 0, none⟩), .pointer (some ⟨a, 0, none⟩), .pointer (some ⟨b, 0, none⟩)] w fun e w' => e = .returned (.tuple #[]) ∧ ∃ h q r, (h = a ∧ q = b ∨ h = b ∧ q = a) ∧ Cells w' X (tiedF f a h q r t) (fun i => if i = q then some h else lk i) ∧ But X w w' ∧ w'.heap.size = w.heap.size := by
  obtain ⟨a0, a1, a2, a3, a4, a5, a6, a7, a8, a9, a10, a11, a12, a13⟩ := (hC.at' a hXa).cell
  obtain ⟨b0, b1, b2, b3, b4, b5, b6, b7, b8, b9, b10, b11, b12, b13⟩ := (hC.at' b hXb).cell
  have fa := (hC.at' a hXa).frozen
  have fb := (hC.at' b hXb).frozen
  have hsa : sb ≠ a := fun e => hsX (e ▸ hXa)
  have hsb : sb ≠ b := fun e => hsX (e ▸ hXb)
  go_enter Tryz.func73, Tryz.ntmps73
  rcases Int.lt_trichotomy (f a).rk (f b).rk with hlt | heq | hgt
  · by_cases hm : (f b).nd.kind = 61
    · go_wp2
      go_quiet (fail)
      go_wp2
      go_quiet (fail)
      go_wp2
      generalize hW : World.setCell _ _ _ = w5
      obtain ⟨f5, hf5, hC5⟩ : ∃ f5, f5 = (fun i => if i = a then { f a with td := some b, si := t } else f i) ∧ Cells w5 X f5 (fun i => if i = a then some b else lk i) := by
        subst hW
        exact ⟨_, rfl, (hC.drewN _).ties hXa hXb t⟩
      have hB5 : But X w w5 := by
        subst hW
        exact ((((But.refl X w).drewN _).setCell (p := ⟨a, 9, none⟩) hXa _).setCell (p := ⟨a, 11, none⟩) hXa _).setCell (p := ⟨a, 12, none⟩) hXa _
      have hz5 : w5.heap.size = w.heap.size := by
        subst hW
        simp [World.drewN]
      have hst5 : w5.cell? ⟨sb, 1, none⟩ = some (.int .i64 t) := (hB5.cellB (lt_of_cell hst) hsX).trans hst
      have HF5 : Hid (f5 = (fun i => if i = a then { f a with td := some b, si := t } else f i)) := hf5
      clear hW hC a0 a1 a2 a3 a4 a5 a6 a7 a8 a9 a10 a11 a12 a13 b0 b1 b2 b3 b4 b5 b6 b7 b8 b9 b10 b11 b12 b13 fa fb hf5 hst
      obtain ⟨a0, a1, a2, a3, a4, a5, a6, a7, a8, a9, a10, a11, a12, a13⟩ := (hC5.at' a hXa).cell
      obtain ⟨b0, b1, b2, b3, b4, b5, b6, b7, b8, b9, b10, b11, b12, b13⟩ := (hC5.at' b hXb).cell
      have fa := (hC5.at' a hXa).frozen
      have fb := (hC5.at' b hXb).frozen
      go_region
      go_end0
      refine ⟨rfl, b, a, (f b).rk, .inr ⟨rfl, rfl⟩, ?_, ?_, ?_⟩
      · have h9 := (hC5.says hXb (f5 a) t).drew
        have e9 : (fun i => if i = b then { f5 b with nd := (f5 a).nd, ks := (f5 a).ks, lv := (f5 a).lv, told := t } else f5 i) = tiedF f a b a (f b).rk t := by
          funext i
          rw [HF5.out]
          unfold tiedF
          by_cases i1 : i = a
          · subst i1
            simp [hab]
          · by_cases i2 : i = b
            · subst i2
              simp [hab.symm, hm]
            · simp [i1, i2]
        rw [e9] at h9
        exact h9
      · refine hB5.trans ?_
        exact (((((((((But.refl X w5).setCell (p := ⟨b, 1, none⟩) hXb _).setCell (p := ⟨b, 2, none⟩) hXb _).setCell (p := ⟨b, 3, none⟩) hXb _).setCell (p := ⟨b, 4, none⟩) hXb _).setCell (p := ⟨b, 5, none⟩) hXb _).setCell (p := ⟨b, 6, none⟩) hXb _).setCell (p := ⟨b, 8, none⟩) hXb _).setCell (p := ⟨b, 7, none⟩) hXb _).drew
      · simp [World.drew, hz5]
    · have tm : ((f b).nd.kind == 61) = false := by simpa using hm
      go_wp2
      go_quiet (fail)
      go_wp2
      go_quiet (fail)
      go_wp2
      generalize hW : World.setCell _ _ _ = w5
      obtain ⟨f5, hf5, hC5⟩ : ∃ f5, f5 = (fun i => if i = a then { f a with td := some b, si := t } else f i) ∧ Cells w5 X f5 (fun i => if i = a then some b else lk i) := by
        subst hW
        exact ⟨_, rfl, (hC.drewN _).ties hXa hXb t⟩
      have hB5 : But X w w5 := by
        subst hW
        exact ((((But.refl X w).drewN _).setCell (p := ⟨a, 9, none⟩) hXa _).setCell (p := ⟨a, 11, none⟩) hXa _).setCell (p := ⟨a, 12, none⟩) hXa _
      have hz5 : w5.heap.size = w.heap.size := by
        subst hW
        simp [World.drewN]
      clear hW
      go_end0
      refine ⟨rfl, b, a, (f b).rk, .inr ⟨rfl, rfl⟩, ?_, hB5, hz5⟩
      have e9 : (fun i => if i = a then { f a with td := some b, si := t } else f i) = tiedF f a b a (f b).rk t := by
          funext i
          unfold tiedF
          by_cases i1 : i = a
          · subst i1
            simp
          · by_cases i2 : i = b
            · subst i2
              simp [hab.symm, hm]
            · simp [i1, i2]
      rw [hf5, e9] at hC5
      exact hC5
  · by_cases hm : (f a).nd.kind = 61
    · go_wp2
      go_quiet (fail)
      go_wp2
      go_quiet (fail)
      go_wp2
      generalize hW : World.setCell _ _ _ = w5
      obtain ⟨r, f5, hf5, hC5⟩ : ∃ r f5, f5 = (fun i => if i = b then { (fun i => if i = a then { f a with rk := r } else f i) b with td := some a, si := t } else (fun i => if i = a then { f a with rk := r } else f i) i) ∧ Cells w5 X f5 (fun i => if i = b then some a else lk i) := by
        subst hW
        exact ⟨_, _, rfl, ((hC.drewN _).rerank hXa _).ties hXb hXa t⟩
      have hB5 : But X w w5 := by
        subst hW
        exact (((((But.refl X w).drewN _).setCell (p := ⟨a, 10, none⟩) hXa _).setCell (p := ⟨b, 9, none⟩) hXb _).setCell (p := ⟨b, 11, none⟩) hXb _).setCell (p := ⟨b, 12, none⟩) hXb _
      have hz5 : w5.heap.size = w.heap.size := by
        subst hW
        simp [World.drewN]
      have hst5 : w5.cell? ⟨sb, 1, none⟩ = some (.int .i64 t) := (hB5.cellB (lt_of_cell hst) hsX).trans hst
      have HF5 : Hid (f5 = (fun i => if i = b then { (fun i => if i = a then { f a with rk := r } else f i) b with td := some a, si := t } else (fun i => if i = a then { f a with rk := r } else f i) i)) := hf5
      clear hW hC a0 a1 a2 a3 a4 a5 a6 a7 a8 a9 a10 a11 a12 a13 b0 b1 b2 b3 b4 b5 b6 b7 b8 b9 b10 b11 b12 b13 fa fb hf5 hst
      obtain ⟨a0, a1, a2, a3, a4, a5, a6, a7, a8, a9, a10, a11, a12, a13⟩ := (hC5.at' a hXa).cell
      obtain ⟨b0, b1, b2, b3, b4, b5, b6, b7, b8, b9, b10, b11, b12, b13⟩ := (hC5.at' b hXb).cell
      have fa := (hC5.at' a hXa).frozen
      have fb := (hC5.at' b hXb).frozen
      go_region
      go_end0
      refine ⟨rfl, a, b, r, .inl ⟨rfl, rfl⟩, ?_, ?_, ?_⟩
      · have h9 := (hC5.says hXa (f5 a) t).drew
        have e9 : (fun i => if i = a then { f5 a with nd := (f5 a).nd, ks := (f5 a).ks, lv := (f5 a).lv, told := t } else f5 i) = tiedF f a a b r t := by
          funext i
          rw [HF5.out]
          unfold tiedF
          by_cases i1 : i = b
          · subst i1
            simp [hab.symm]
          · by_cases i2 : i = a
            · subst i2
              simp [hab, hm]
            · simp [i1, i2]
        rw [e9] at h9
        exact h9
      · refine hB5.trans ?_
        exact (((((((((But.refl X w5).setCell (p := ⟨a, 1, none⟩) hXa _).setCell (p := ⟨a, 2, none⟩) hXa _).setCell (p := ⟨a, 3, none⟩) hXa _).setCell (p := ⟨a, 4, none⟩) hXa _).setCell (p := ⟨a, 5, none⟩) hXa _).setCell (p := ⟨a, 6, none⟩) hXa _).setCell (p := ⟨a, 8, none⟩) hXa _).setCell (p := ⟨a, 7, none⟩) hXa _).drew
      · simp [World.drew, hz5]
    · have tm : ((f a).nd.kind == 61) = false := by simpa using hm
      go_wp2
      go_quiet (fail)
      go_wp2
      go_quiet (fail)
      go_wp2
      generalize hW : World.setCell _ _ _ = w5
      obtain ⟨r, f5, hf5, hC5⟩ : ∃ r f5, f5 = (fun i => if i = b then { (fun i => if i = a then { f a with rk := r } else f i) b with td := some a, si := t } else (fun i => if i = a then { f a with rk := r } else f i) i) ∧ Cells w5 X f5 (fun i => if i = b then some a else lk i) := by
        subst hW
        exact ⟨_, _, rfl, ((hC.drewN _).rerank hXa _).ties hXb hXa t⟩
      have hB5 : But X w w5 := by
        subst hW
        exact (((((But.refl X w).drewN _).setCell (p := ⟨a, 10, none⟩) hXa _).setCell (p := ⟨b, 9, none⟩) hXb _).setCell (p := ⟨b, 11, none⟩) hXb _).setCell (p := ⟨b, 12, none⟩) hXb _
      have hz5 : w5.heap.size = w.heap.size := by
        subst hW
        simp [World.drewN]
      clear hW
      go_end0
      refine ⟨rfl, a, b, r, .inl ⟨rfl, rfl⟩, ?_, hB5, hz5⟩
      have e9 : (fun i => if i = b then { (fun i => if i = a then { f a with rk := r } else f i) b with td := some a, si := t } else (fun i => if i = a then { f a with rk := r } else f i) i) = tiedF f a a b r t := by
          funext i
          unfold tiedF
          by_cases i1 : i = b
          · subst i1
            simp [hab.symm]
          · by_cases i2 : i = a
            · subst i2
              simp [hab, hm]
            · simp [i1, i2]
      rw [hf5, e9] at hC5
      exact hC5
  · by_cases hm : (f a).nd.kind = 61
    · go_wp2
      go_quiet (fail)
      go_wp2
      go_quiet (fail)
      go_wp2
      generalize hW : World.setCell _ _ _ = w5
      obtain ⟨f5, hf5, hC5⟩ : ∃ f5, f5 = (fun i => if i = b then { f b with td := some a, si := t } else f i) ∧ Cells w5 X f5 (fun i => if i = b then some a else lk i) := by
        subst hW
        exact ⟨_, rfl, (hC.drewN _).ties hXb hXa t⟩
      have hB5 : But X w w5 := by
        subst hW
        exact ((((But.refl X w).drewN _).setCell (p := ⟨b, 9, none⟩) hXb _).setCell (p := ⟨b, 11, none⟩) hXb _).setCell (p := ⟨b, 12, none⟩) hXb _
      have hz5 : w5.heap.size = w.heap.size := by
        subst hW
        simp [World.drewN]
      have hst5 : w5.cell? ⟨sb, 1, none⟩ = some (.int .i64 t) := (hB5.cellB (lt_of_cell hst) hsX).trans hst
      have HF5 : Hid (f5 = (fun i => if i = b then { f b with td := some a, si := t } else f i)) := hf5
      clear hW hC a0 a1 a2 a3 a4 a5 a6 a7 a8 a9 a10 a11 a12 a13 b0 b1 b2 b3 b4 b5 b6 b7 b8 b9 b10 b11 b12 b13 fa fb hf5 hst
      obtain ⟨a0, a1, a2, a3, a4, a5, a6, a7, a8, a9, a10, a11, a12, a13⟩ := (hC5.at' a hXa).cell
      obtain ⟨b0, b1, b2, b3, b4, b5, b6, b7, b8, b9, b10, b11, b12, b13⟩ := (hC5.at' b hXb).cell
      have fa := (hC5.at' a hXa).frozen
      have fb := (hC5.at' b hXb).frozen
      go_region
      go_end0
      refine ⟨rfl, a, b, (f a).rk, .inl ⟨rfl, rfl⟩, ?_, ?_, ?_⟩
      · have h9 := (hC5.says hXa (f5 a) t).drew
        have e9 : (fun i => if i = a then { f5 a with nd := (f5 a).nd, ks := (f5 a).ks, lv := (f5 a).lv, told := t } else f5 i) = tiedF f a a b (f a).rk t := by
          funext i
          rw [HF5.out]
          unfold tiedF
          by_cases i1 : i = b
          · subst i1
            simp [hab.symm]
          · by_cases i2 : i = a
            · subst i2
              simp [hab, hm]
            · simp [i1, i2]
        rw [e9] at h9
        exact h9
      · refine hB5.trans ?_
        exact (((((((((But.refl X w5).setCell (p := ⟨a, 1, none⟩) hXa _).setCell (p := ⟨a, 2, none⟩) hXa _).setCell (p := ⟨a, 3, none⟩) hXa _).setCell (p := ⟨a, 4, none⟩) hXa _).setCell (p := ⟨a, 5, none⟩) hXa _).setCell (p := ⟨a, 6, none⟩) hXa _).setCell (p := ⟨a, 8, none⟩) hXa _).setCell (p := ⟨a, 7, none⟩) hXa _).drew
      · simp [World.drew, hz5]
    · have tm : ((f a).nd.kind == 61) = false := by simpa using hm
      go_wp2
      go_quiet (fail)
      go_wp2
      go_quiet (fail)
      go_wp2
      generalize hW : World.setCell _ _ _ = w5
      obtain ⟨f5, hf5, hC5⟩ : ∃ f5, f5 = (fun i => if i = b then { f b with td := some a, si := t } else f i) ∧ Cells w5 X f5 (fun i => if i = b then some a else lk i) := by
        subst hW
        exact ⟨_, rfl, (hC.drewN _).ties hXb hXa t⟩
      have hB5 : But X w w5 := by
        subst hW
        exact ((((But.refl X w).drewN _).setCell (p := ⟨b, 9, none⟩) hXb _).setCell (p := ⟨b, 11, none⟩) hXb _).setCell (p := ⟨b, 12, none⟩) hXb _
      have hz5 : w5.heap.size = w.heap.size := by
        subst hW
        simp [World.drewN]
      clear hW
      go_end0
      refine ⟨rfl, a, b, (f a).rk, .inl ⟨rfl, rfl⟩, ?_, hB5, hz5⟩
      have e9 : (fun i => if i = b then { f b with td := some a, si := t } else f i) = tiedF f a a b (f a).rk t := by
          funext i
          unfold tiedF
          by_cases i1 : i = b
          · subst i1
            simp
          · by_cases i2 : i = a
            · subst i2
              simp [hab, hm]
            · simp [i1, i2]
      rw [hf5, e9] at hC5
      exact hC5

end Go.Proofs.YthioecjcnajmgaaGreatDoor

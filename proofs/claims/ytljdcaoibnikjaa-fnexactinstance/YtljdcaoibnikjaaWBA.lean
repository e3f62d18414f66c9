import Derived.Test.YtljdcaoibnikjaaNB
import Derived.Test.YtljdcaoibnikjaaUTree
import Derived.Deep.RegionWith
import Derived.Deep.RegionLaw
namespace Go.Proofs.Ytljdcaoibnikjaa

open Go.RowKit

/-- A cell's kids: a slice of pointers in a block that isn't a cell's. -/
def KidRow (w : World) (X : Nat → Prop) (s : Option Addr × Nat × Nat) (l : List Nat) : Prop :=
  (s.2.1 = l.length ∧ l.length ≤ 20000 ∧ l.length ≤ s.2.2) ∧ (l = [] ∨ ∃ g cur, s.1 = some ⟨g, 0, none⟩ ∧ ¬ X g ∧ g < w.heap.size ∧ w.heap[g]? = some (.cells cur 60 (0, 0)) ∧ ∀ i (h : i < l.length), cur[i]? = some (.pointer (some ⟨l[i], 0, none⟩)))

/-- The store: its cells, their forest, their kids. -/
structure CSto (w : World) (X : Nat → Prop) (f : Nat → CC) (lk : Nat → Option Nat) (d : Nat → Nat) (K : (Option Addr × Nat × Nat) → List Nat) : Prop where
  cells : Cells w X f lk
  acyc : Acyc lk d
  rows : ∀ b, X b → KidRow w X (f b).ks (K (f b).ks)
  inX : ∀ b, X b → ∀ k ∈ K (f b).ks, X k
  arity : ∀ b, X b → ((K (f b).ks).length : Int) = (f b).nd.kids
  met : ∀ b, X b → (f b).nd.kind = 61 → K (f b).ks = []
  low : ∀ b, X b → (f b).lv ≤ 1

/-- What a cell says. -/
def gc (K : (Option Addr × Nat × Nat) → List Nat) (f : Nat → CC) : Nat → GC := fun i => ⟨(f i).nd, K (f i).ks, (f i).open?⟩

theorem KidRow.but {w w' : World} {X : Nat → Prop} {s : Option Addr × Nat × Nat} {l : List Nat} (h : KidRow w X s l) (hb : But X w w') : KidRow w' X s l := by
  refine ⟨h.1, ?_⟩
  rcases h.2 with e | ⟨g, cur, h1, h2, h3, h4, h5⟩
  · exact .inl e
  · exact .inr ⟨g, cur, h1, h2, Nat.lt_of_lt_of_le h3 hb.size, (hb.block g h3 h2).trans h4, h5⟩

/-- Every cell has a head. -/
theorem Acyc.head {lk : Nat → Option Nat} {d : Nat → Nat} (ha : Acyc lk d) : ∀ n i, d i < n → ∃ r, Hd lk i r := by
  intro n
  induction n with
  | zero => intro i h; omega
  | succ n ih =>
    intro i h
    cases e : lk i with
    | none => exact ⟨i, .root e⟩
    | some j =>
      obtain ⟨r, hr⟩ := ih j (by have := ha i j e; omega)
      exact ⟨r, .step e hr⟩

theorem Hd.inX {w : World} {X : Nat → Prop} {f : Nat → CC} {lk : Nat → Option Nat} (h : Cells w X f lk) {i r : Nat} (hr : Hd lk i r) (hi : X i) : X r := by
  induction hr using Hd.elim with
  | root _ => exact hi
  | step h1 _ ih => exact ih (h.link _ _ h1).2

theorem Hd.sat {X : Nat → Prop} {g : Nat → GC} {lk : Nat → Option Nat} {θ : Nat → DT} (hs : SatC X g lk θ) {i r : Nat} (hr : Hd lk i r) : θ i = θ r := by
  induction hr using Hd.elim with
  | root _ => rfl
  | step h1 _ ih => exact (hs.1 _ _ h1).trans ih

theorem sat_links {lk : Nat → Option Nat} {d : Nat → Nat} (ha : Acyc lk d) {θ : Nat → DT} : (∀ i j, lk i = some j → θ i = θ j) ↔ ∀ i r, Hd lk i r → θ i = θ r := by
  constructor
  · intro h i r hr
    induction hr using Hd.elim with
    | root _ => rfl
    | step h1 _ ih => exact (h _ _ h1).trans ih
  · intro h i j e
    obtain ⟨r, hr⟩ := ha.head _ j (Nat.lt_succ_self _)
    rw [h i r (.step e hr), h j r hr]

theorem root_iff (lk : Nat → Option Nat) (i : Nat) : lk i = none ↔ Hd lk i i := by
  constructor
  · exact fun h => .root h
  · exact fun h => h.is_root

/-- Forests with the same heads ask the same. -/
theorem SameHd.sat {X : Nat → Prop} {g : Nat → GC} {lk lk' : Nat → Option Nat} {d d' : Nat → Nat} (h : SameHd lk lk') (ha : Acyc lk d) (ha' : Acyc lk' d') (θ : Nat → DT) : SatC X g lk' θ ↔ SatC X g lk θ := by
  unfold SatC
  rw [sat_links ha, sat_links ha']
  constructor
  · rintro ⟨h1, h2⟩
    exact ⟨fun i r hr => h1 i r ((h i r).1 hr), fun i hi hl => h2 i hi ((root_iff lk' i).2 ((h i i).1 ((root_iff lk i).1 hl)))⟩
  · rintro ⟨h1, h2⟩
    exact ⟨fun i r hr => h1 i r ((h i r).2 hr), fun i hi hl => h2 i hi ((root_iff lk i).2 ((h i i).2 ((root_iff lk' i).1 hl)))⟩

/-- Two heads are tied: links lead somewhere still. -/
theorem acyc_tied {lk : Nat → Option Nat} {d : Nat → Nat} (ha : Acyc lk d) {h q : Nat} (hh : lk h = none) (hq : lk q = none) (hne : h ≠ q) : ∃ d', Acyc (tied lk h q) d' := by
  classical
  refine ⟨fun i => d i + if Hd lk i q then d h + 1 else 0, fun i j e => ?_⟩
  by_cases hi : i = q
  · subst hi
    simp [tied] at e
    subst e
    have h1 : Hd lk i i := .root hq
    have h2 : ¬ Hd lk h i := fun h9 => hne ((Hd.root hh).fun h9)
    simp [h1, h2]
    omega
  · simp only [tied, hi, if_false] at e
    have h1 : Hd lk i q ↔ Hd lk j q := by
      constructor
      · intro h9
        cases h9 using Hd.inv with
        | root h8 => rw [h8] at e; cases e
        | step h8 h7 => rw [h8] at e; cases e; exact h7
      · exact fun h9 => .step e h9
    have := ha i j e
    by_cases h9 : Hd lk j q
    · simp [h1.2 h9, h9]; omega
    · have : ¬ Hd lk i q := fun h8 => h9 (h1.1 h8)
      simp [this, h9]; omega

/-- Behind a head's call. -/
theorem CSto.short {w w' : World} {X : Nat → Prop} {f : Nat → CC} {lk lk' : Nat → Option Nat} {d : Nat → Nat} {K : (Option Addr × Nat × Nat) → List Nat} (h : CSto w X f lk d K) (hc : Cells w' X f lk') (ha : Acyc lk' d) (hb : But X w w') : CSto w' X f lk' d K :=
  ⟨hc, ha, fun b hx => (h.rows b hx).but hb, h.inX, h.arity, h.met, h.low⟩

/-- What a cell says: its node, its kids, its level. -/
def CC.core (c : CC) : Nd × (Option Addr × Nat × Nat) × Int := (c.nd, c.ks, c.lv)

theorem core_parts {c d : CC} (h : c.core = d.core) : c.nd = d.nd ∧ c.ks = d.ks ∧ c.lv = d.lv := by
  simp only [CC.core, Prod.mk.injEq] at h
  exact ⟨h.1, h.2.1, h.2.2⟩

theorem tiedF_rest (f : Nat → CC) {a h q : Nat} (r t : Int) : ∀ i, i ≠ h → (tiedF f a h q r t i).core = (f i).core := by
  intro i hi
  unfold tiedF
  by_cases e : i = q
  · subst e
    rw [if_pos rfl]
    rfl
  · rw [if_neg e, if_neg hi]

theorem tiedF_head (f : Nat → CC) {a h q : Nat} (hne : h ≠ q) (r t : Int) : (tiedF f a h q r t h).core = if (f h).nd.kind = 61 then (f a).core else (f h).core := by
  unfold tiedF
  rw [if_neg hne, if_pos rfl]
  split <;> rfl

/-- Behind a tie. -/
theorem CSto.tied {w w' : World} {X : Nat → Prop} {f f' : Nat → CC} {lk : Nat → Option Nat} {d : Nat → Nat} {K : (Option Addr × Nat × Nat) → List Nat} (H : CSto w X f lk d K) {a b h q : Nat} (hXa : X a) (hXh : X h) (hab : a ≠ b) (ha : lk a = none) (hb : lk b = none) (hq : h = a ∧ q = b ∨ h = b ∧ q = a)
    (hc : Cells w' X f' (tied lk h q)) (hf : ∀ i, i ≠ h → (f' i).core = (f i).core) (e1 : (f' h).core = (f a).core ∨ (f' h).core = (f h).core) (hB : But X w w') : ∃ d', CSto w' X f' (tied lk h q) d' K := by
  have hhq : h ≠ q := by
    rcases hq with ⟨rfl, rfl⟩ | ⟨rfl, rfl⟩
    · exact hab
    · exact fun e => hab e.symm
  have hlq : lk q = none := by rcases hq with ⟨rfl, rfl⟩ | ⟨rfl, rfl⟩ <;> assumption
  have hlh : lk h = none := by rcases hq with ⟨rfl, rfl⟩ | ⟨rfl, rfl⟩ <;> assumption
  obtain ⟨d', hd'⟩ := acyc_tied H.acyc hlh hlq hhq
  have key : ∀ x, X x → ∃ y, X y ∧ (f' x).core = (f y).core := by
    intro x hx
    by_cases e : x = h
    · subst e
      rcases e1 with e1 | e1
      · exact ⟨a, hXa, e1⟩
      · exact ⟨x, hXh, e1⟩
    · exact ⟨x, hx, hf x e⟩
  refine ⟨d', hc, hd', fun x hx => ?_, fun x hx => ?_, fun x hx => ?_, fun x hx => ?_, fun x hx => ?_⟩
  all_goals
    obtain ⟨y, hy, e9⟩ := key x hx
    obtain ⟨n1, n2, n3⟩ := core_parts e9
  · rw [n2]; exact (H.rows y hy).but hB
  · rw [n2]; exact H.inX y hy
  · rw [n1, n2]; exact H.arity y hy
  · rw [n1, n2]; exact H.met y hy
  · rw [n3]; exact H.low y hy

theorem gc_core {K : (Option Addr × Nat × Nat) → List Nat} {f f' : Nat → CC} {a h : Nat} (e : (f' h).core = (f a).core) : gc K f' h = gc K f a := by
  obtain ⟨n1, n2, n3⟩ := core_parts e
  simp [gc, CC.open?, n1, n2, n3]

/-- Behind calls that only shorten ways. -/
def Shortened (X : Nat → Prop) (f : Nat → CC) (lk : Nat → Option Nat) (d : Nat → Nat) (w w' : World) : Prop := ∃ lk', Cells w' X f lk' ∧ SameHd lk lk' ∧ Acyc lk' d ∧ But X w w'

/-- How long a slice is. -/
def lenOf : Value → Nat
  | .slice _ n _ => n
  | _ => 0

theorem But.undrew {S : Nat → Prop} {w w' : World} (h : But S w.drew w') : But S w w' := ⟨h.os, h.tape, h.output, h.size, h.block⟩

theorem Shortened.undrew {X : Nat → Prop} {f : Nat → CC} {lk : Nat → Option Nat} {d : Nat → Nat} {w w' : World} (h : Shortened X f lk d w.drew w') : Shortened X f lk d w w' := by
  obtain ⟨lk', h1, h2, h3, h4⟩ := h
  exact ⟨lk', h1, h2, h3, h4.undrew⟩

set_option maxRecDepth 20000 in
set_option maxHeartbeats 2000000 in
theorem lower1_any (X : Nat → Prop) (f : Nat → CC) (lk : Nat → Option Nat) (d : Nat → Nat) (HA : Hid (Acyc lk d)) (w : World) (hC : Cells w X f lk) (c : Nat) (hX : X c) (hl : lk c = none) (bx : Nat) (level : Int) (hbx : w.cell? ⟨bx, 0, none⟩ = some (.int .i64 level)) (hbX : ¬ X bx) (hle : (f c).lv ≤ level) :
    Calls Try.prog 78 #[.pointer (some ⟨c, 0, none⟩), .pointer (some ⟨bx, 0, none⟩)] w fun e w' => e = .returned (.slice none 0 0) ∧ Shortened X f lk d w w' := by
  go_enter Try.func78, Try.ntmps78
  go_wp2_with fail
  refine (head_any X f lk d HA w hC c c hX (Hd.root hl)).mono ?_
  rintro e w1 ⟨rfl, lk1, hC1, hS1, hA1, hB1, hz1⟩
  have hbx1 : w1.cell? ⟨bx, 0, none⟩ = some (.int .i64 level) := (hB1.cellB (lt_of_cell hbx) hbX).trans hbx
  obtain ⟨_, _, _, _, _, _, _, _, c8, _, _, _, _, _⟩ := (hC1.at' c hX).cell
  have H9 : Hid (Shortened X f lk d w w1) := ⟨lk1, hC1, hS1, hA1, hB1⟩
  have tle : decide ((f c).lv ≤ level) = true := decide_eq_true hle
  clear hC hC1 hS1 hA1 hB1 hbx
  go_wp2
  go_quiet (fail)
  go_wp2
  go_ret
  obtain ⟨lk1, h1, h2, h3, h4⟩ := H9.out
  exact ⟨rfl, lk1, h1.drewN _, h2, h3, h4.drewN _⟩

set_option maxRecDepth 20000 in
set_option maxHeartbeats 2000000 in
theorem until1_any (X : Nat → Prop) (f : Nat → CC) (lk : Nat → Option Nat) (d : Nat → Nat) (HA : Hid (Acyc lk d)) (w : World) (hC : Cells w X f lk) (c : Nat) (hX : X c) (hl : lk c = none) (bx g : Nat) (level : Int) (hbx : w.cell? ⟨bx, 0, none⟩ = some (.int .i64 level)) (hbX : ¬ X bx) (hle : (f c).lv ≤ level)
    (hg : w.cell? ⟨g, 0, none⟩ = some (.pointer (some ⟨c, 0, none⟩))) :
    Calls Try.prog 77 #[.slice (some ⟨g, 0, none⟩) 1 1, .func (.func 78) #[] #[.pointer (some ⟨bx, 0, none⟩)]] w fun e w' => e = .returned (.tuple #[]) ∧ Shortened X f lk d w w' := by
  have HC := lower1_any X f lk d HA w.drew hC.drew c hX hl bx level hbx hbX hle
  go_enter Try.func77, Try.ntmps77
  go_wp2
  go_loopw [0] (fun v wr => (v = .slice (some ⟨g, 0, none⟩) 1 1 ∧ wr = w) ∨ (v = .slice (some ⟨g, 0, none⟩) 0 1 ∧ Shortened X f lk d w wr)) (fun v _ => lenOf v)
  case atStart => exact .inl ⟨rfl, rfl⟩
  case round =>
    rcases hrel with ⟨rfl, rfl⟩ | ⟨rfl, hS⟩
    · go_wp2_with fail
      go_region_law (go_simp; refine HC.mono ?_; rintro e w1 ⟨rfl, hS⟩)
      all_goals
        have hS := hS.undrew
        clear HC
        simp only [Act.put, List.getElem_toArray, List.getElem_cons_succ, List.getElem_cons_zero, List.setIfInBounds_toArray, List.set_cons_zero]
        go_wp2
        go_roundw
        case rel => exact .inr ⟨rfl, hS⟩
        case measure => simp [lenOf]
    · clear HC
      go_wp2
      go_end0
      exact ⟨rfl, hS⟩

set_option maxRecDepth 20000 in
set_option maxHeartbeats 2000000 in
theorem lower_any (X : Nat → Prop) (f : Nat → CC) (lk : Nat → Option Nat) (d : Nat → Nat) (HA : Hid (Acyc lk d)) (w : World) (hC : Cells w X f lk) (hlt : ∀ b, X b → b < w.heap.size) (c : Nat) (hX : X c) (hl : lk c = none) (level : Int) (hle : (f c).lv ≤ level) :
    Calls Try.prog 71 #[.pointer (some ⟨c, 0, none⟩), .int .i64 level] w fun e w' => e = .returned (.tuple #[]) ∧ Shortened X f lk d w w' := by
  have hb0 : Below w.heap.size w (w.alloc (.cells #[.int .i64 level] 3)) := (Below.refl _ w).alloc (Nat.le_refl _) _
  have hb1 := hb0.alloc hb0.size (.cells #[.pointer (some ⟨c, 0, none⟩)] 60)
  have hB : But (fun _ => False) w ((w.alloc (.cells #[.int .i64 level] 3)).alloc (.cells #[.pointer (some ⟨c, 0, none⟩)] 60)) := But.ofBelow hb1
  have hC1 := hC.but hB (fun _ _ h => h)
  have k0 : ((w.alloc (.cells #[.int .i64 level] 3)).alloc (.cells #[.pointer (some ⟨c, 0, none⟩)] 60)).cell? ⟨w.heap.size, 0, none⟩ = some (.int .i64 level) := by
    have h8 := heap_alloc_new w (.cells #[.int .i64 level] 3)
    have h9 := (heap_alloc_old (w.alloc (.cells #[.int .i64 level] 3)) (.cells #[.pointer (some ⟨c, 0, none⟩)] 60) (r := w.heap.size) (by simp)).trans h8
    rw [cell_of_row _ _ _ _ 3 (0, 0) h9]
    rfl
  have k1 : ((w.alloc (.cells #[.int .i64 level] 3)).alloc (.cells #[.pointer (some ⟨c, 0, none⟩)] 60)).cell? ⟨w.heap.size + 1, 0, none⟩ = some (.pointer (some ⟨c, 0, none⟩)) := by
    have h9 := heap_alloc_new (w.alloc (.cells #[.int .i64 level] 3)) (.cells #[.pointer (some ⟨c, 0, none⟩)] 60)
    rw [World.size_alloc] at h9
    rw [cell_of_row _ _ _ _ 60 (0, 0) h9]
    rfl
  have HU := until1_any X f lk d HA _ hC1 c hX hl w.heap.size (w.heap.size + 1) level k0 (fun h => Nat.lt_irrefl _ (hlt _ h)) hle k1
  clear hC hC1 k0 k1 hb0 hb1
  go_enter Try.func71, Try.ntmps71
  go_wp2_with fail
  refine HU.mono ?_
  rintro e w1 ⟨rfl, lk1, h1, h2, h3, h4⟩
  clear HU
  have HR : Hid (Shortened X f lk d w w1) := ⟨lk1, h1, h2, h3, (hB.mono (fun _ h => h.elim)).trans h4⟩
  clear h1 h2 h3 h4 hB
  go_wp2
  go_end0
  exact ⟨rfl, HR.out⟩

end Go.Proofs.Ytljdcaoibnikjaa

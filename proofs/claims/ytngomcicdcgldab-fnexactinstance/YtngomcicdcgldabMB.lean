import Derived.Test.YtngomcicdcgldabMA
import Derived.Test.YtngomcicdcgldabInstMath
import Derived.Maps.OwnSet
import Derived.Maps.OwnOps
import Derived.Maps.OwnIn
import Derived.DeepKeys4
import Derived.Test.YtngomcicdcgldabApp
import Derived.Deep.RegionLaw
import Derived.Test.YtngomcicdcgldabCopy
namespace Go.Proofs.Ytngomcicdcgldab

/-- What a store says, read as types without end: hd tells each cell's head. -/
def val (g : Nat → GC) (hd : Nat → Nat) : List Nat → Nat → Option Nd
  | [], i => some (g (hd i)).nd
  | j :: p, i => match (g (hd i)).ks[j]? with
    | some k => val g hd p k
    | none => none

theorem val_con (g : Nat → GC) (hd : Nat → Nat) (i : Nat) : (fun p => val g hd p i) = con (g (hd i)).nd ((g (hd i)).ks.map fun k => fun p => val g hd p k) := by
  funext p
  cases p with
  | nil => rfl
  | cons j p =>
    simp only [val, con, List.getElem?_map]
    cases (g (hd i)).ks[j]? <;> rfl

/-- It agrees with what the cells say: a store that was equated to its end has a solution. -/
theorem sat_val {X : Nat → Prop} {g : Nat → GC} {lk : Nat → Option Nat} {hd : Nat → Nat} (h1 : ∀ i j, lk i = some j → hd i = hd j) (h2 : ∀ i, lk i = none → hd i = i) : Sat X g lk (fun i p => val g hd p i) := by
  refine ⟨fun i j e => ?_, fun i _ hl _ => ?_⟩
  · show (fun p => val g hd p i) = fun p => val g hd p j
    rw [val_con, val_con, h1 i j e]
  · have := val_con g hd i
    rw [h2 i hl] at this
    exact this

/-- A type without end that has one, written out behind its kids. -/
inductive Fin' : DT → List Nd → Prop
  | mk (n : Nd) (ds : List DT) (xss : List (List Nd)) (hl : ds.length = xss.length) (h : ∀ i (h1 : i < ds.length) (h2 : i < xss.length), Fin' ds[i] xss[i]) : Fin' (con n ds) (xss.flatten ++ [n])

theorem Fin'.root {d : DT} {xs : List Nd} (h : Fin' d xs) : ∃ n, d [] = some n := by
  cases h with
  | mk n ds xss _ _ => exact ⟨n, rfl⟩

theorem con_len {n m : Nd} {ds es : List DT} (h : con n ds = con m es) (h1 : ∀ d ∈ ds, ∃ k, d [] = some k) (h2 : ∀ d ∈ es, ∃ k, d [] = some k) : ds.length = es.length := by
  have key : ∀ {n m : Nd} {ds es : List DT}, con n ds = con m es → (∀ d ∈ es, ∃ k, d [] = some k) → ¬ ds.length < es.length := by
    intro n m ds es h h2 hlt
    have h9 := congrFun h [ds.length]
    obtain ⟨k, hk⟩ := h2 es[ds.length] (List.getElem_mem hlt)
    simp [con, List.getElem?_eq_getElem hlt, hk] at h9
  have a := key h h2
  have b := key h.symm h1
  omega

/-- A type has one way of being written. -/
theorem Fin'.one {d : DT} {xs : List Nd} (h : Fin' d xs) : ∀ {ys : List Nd}, Fin' d ys → xs = ys := by
  induction h with
  | mk n ds xss hl h1 ih =>
    intro ys h'
    generalize hd : con n ds = d at h'
    cases h' with
    | mk m es yss hl' h2 =>
      obtain rfl := con_nd hd
      have r1 : ∀ d ∈ ds, ∃ k, d [] = some k := by
        intro d hm
        obtain ⟨i, hi, rfl⟩ := List.getElem_of_mem hm
        exact (h1 i hi (by omega)).root
      have r2 : ∀ d ∈ es, ∃ k, d [] = some k := by
        intro d hm
        obtain ⟨i, hi, rfl⟩ := List.getElem_of_mem hm
        exact (h2 i hi (by omega)).root
      have hlE := con_len hd r1 r2
      obtain rfl := con_kids hd hlE
      have : xss = yss := by
        apply List.ext_getElem (by omega)
        intro i h3 h4
        exact ih i (by omega) h3 (h2 i (by omega) h4)
      rw [this]

end Go.Proofs.Ytngomcicdcgldab

namespace Go.Proofs.Ytngomcicdcgldab

/-- What a term makes of what its unknowns are. -/
inductive Ev (σ : Nd → DT) : List Nd → DT → Prop
  | leaf (n : Nd) (hk : n.kind = 61) (h0 : n.kids = 0) : Ev σ [n] (σ n)
  | node (n : Nd) (hk : n.kind ≠ 61) (xss : List (List Nd)) (ds : List DT) (hn : n.kids = (ds.length : Int)) (hl : ds.length = xss.length) (h : ∀ i (h1 : i < xss.length) (h2 : i < ds.length), Ev σ xss[i] ds[i]) : Ev σ (xss.flatten ++ [n]) (con n ds)

/-- An unknown that stands for itself. -/
def selfT (n : Nd) : DT := con n []

theorem Ev.one {σ : Nd → DT} {xs : List Nd} {d : DT} (h : Ev σ xs d) : One xs := by
  induction h with
  | leaf n hk h0 =>
    have := One.join (A := []) (n := n) (by simp) (by simpa using h0)
    simpa using this
  | node n hk xss ds hn hl h ih =>
    refine One.join (fun x hx => ?_) (by rw [hn, hl])
    obtain ⟨i, hi, rfl⟩ := List.getElem_of_mem hx
    exact ih i hi (by omega)

theorem Ev.last {σ : Nd → DT} {xs : List Nd} {d : DT} (h : Ev σ xs d) : (∃ n : Nd, xs = [n] ∧ (n.kind = 61 ∧ n.kids = 0) ∧ d = σ n) ∨ ∃ (n : Nd) (xss : List (List Nd)) (ds : List DT), n.kind ≠ 61 ∧ n.kids = (ds.length : Int) ∧ ds.length = xss.length ∧ (∀ i (h1 : i < xss.length) (h2 : i < ds.length), Ev σ xss[i] ds[i]) ∧ xs = xss.flatten ++ [n] ∧ d = con n ds := by
  cases h with
  | leaf n hk h0 => exact .inl ⟨n, rfl, ⟨hk, h0⟩, rfl⟩
  | node n hk xss ds hn hl h => exact .inr ⟨n, xss, ds, hk, hn, hl, h, rfl, rfl⟩

theorem ev_ones {σ : Nd → DT} {xss : List (List Nd)} {ds : List DT} (hl : ds.length = xss.length) (h : ∀ i (h1 : i < xss.length) (h2 : i < ds.length), Ev σ xss[i] ds[i]) : ∀ x ∈ xss, One x := by
  intro x hx
  obtain ⟨i, hi, rfl⟩ := List.getElem_of_mem hx
  exact (h i hi (by omega)).one

/-- A term makes one thing. -/
theorem Ev.fun {σ : Nd → DT} {xs : List Nd} {d : DT} (h : Ev σ xs d) : ∀ {d' : DT}, Ev σ xs d' → d = d' := by
  induction h with
  | leaf n hk h0 =>
    intro d' h'
    rcases h'.last with ⟨m, e, _, rfl⟩ | ⟨m, xss, ds, hm, _, _, _, e, rfl⟩
    · simp at e; subst e; rfl
    · have := (List.append_inj' (s₁ := []) e rfl).2
      simp at this
      subst this
      exact absurd hk hm
  | node n hk xss ds hn hl h ih =>
    intro d' h'
    rcases h'.last with ⟨m, e, ⟨hm, _⟩, rfl⟩ | ⟨m, yss, es, hm, hn', hl', h2, e, rfl⟩
    · have := (List.append_inj' (s₂ := []) e rfl).2
      simp at this
      subst this
      exact absurd hm hk
    · obtain ⟨e1, e2⟩ := List.append_inj' e rfl
      simp at e2
      subst e2
      have e3 := ones_same (ev_ones hl h) (ev_ones hl' h2) e1
      subst e3
      have : ds = es := by
        apply List.ext_getElem (by omega)
        intro i h3 h4
        exact ih i (by omega) h3 (h2 i (by omega) h4)
      rw [this]

theorem selfT_root {xs : List Nd} {d : DT} (h : Ev selfT xs d) : ∃ k, d [] = some k := by
  rcases h.last with ⟨n, _, _, rfl⟩ | ⟨n, _, ds, _, _, _, _, _, rfl⟩
  · exact ⟨n, rfl⟩
  · exact ⟨n, rfl⟩

theorem ev_roots {xss : List (List Nd)} {ds : List DT} (hl : ds.length = xss.length) (h : ∀ i (h1 : i < xss.length) (h2 : i < ds.length), Ev selfT xss[i] ds[i]) : ∀ d ∈ ds, ∃ k, d [] = some k := by
  intro d hd
  obtain ⟨i, hi, rfl⟩ := List.getElem_of_mem hd
  exact selfT_root (h i (by omega) hi)

/-- A type has one way of being written. -/
theorem Ev.self {xs : List Nd} {d : DT} (h : Ev selfT xs d) : ∀ {ys : List Nd}, Ev selfT ys d → xs = ys := by
  induction h with
  | leaf n hk h0 =>
    intro ys h'
    rcases h'.last with ⟨m, rfl, _, e⟩ | ⟨m, yss, es, hm, _, _, h2, rfl, e⟩
    · rw [con_nd e]
    · have := con_nd e
      subst this
      exact absurd hk hm
  | node n hk xss ds hn hl h ih =>
    intro ys h'
    rcases h'.last with ⟨m, rfl, ⟨hm, _⟩, e⟩ | ⟨m, yss, es, hm, hn', hl', h2, rfl, e⟩
    · have := con_nd e
      subst this
      exact absurd hm hk
    · have hlE := con_len e (ev_roots hl h) (ev_roots hl' h2)
      have e1 := con_nd e
      subst e1
      have e2 := con_kids e hlE
      subst e2
      have : xss = yss := by
        apply List.ext_getElem (by omega)
        intro i h3 h4
        exact ih i h3 (by omega) (h2 i h4 (by omega))
      rw [this]

/-- A node's own way of being written, from its kids'. -/
theorem Ev.kids {n : Nd} {ds : List DT} {xs : List Nd} (h : Ev selfT xs (con n ds)) (hr : ∀ d ∈ ds, ∃ k, d [] = some k) : ∃ xss : List (List Nd), xss.length = ds.length ∧ (∀ i (h1 : i < xss.length) (h2 : i < ds.length), Ev selfT xss[i] ds[i]) ∧ xs = xss.flatten ++ [n] ∧ n.kids = (ds.length : Int) := by
  rcases h.last with ⟨m, rfl, ⟨hm, hm0⟩, e⟩ | ⟨m, yss, es, hm, hn', hl', h2, rfl, e⟩
  · have e1 := con_nd e
    subst e1
    have hl := con_len e hr (by simp)
    have : ds = [] := List.eq_nil_of_length_eq_zero (by simpa using hl)
    subst this
    exact ⟨[], rfl, by simp, by simp, by simpa using hm0⟩
  · have e1 := con_nd e
    subst e1
    have hl := con_len e hr (ev_roots hl' h2)
    have e2 := con_kids e hl
    subst e2
    exact ⟨yss, by omega, h2, rfl, hn'⟩

/-- From what a term makes, to what its unknowns are. -/
theorem Ev.back {σ : Nd → DT} {g : List Nd} {d : DT} (h : Ev σ g d) : ∀ {t : List Nd}, Ev selfT t d → (∀ n ∈ g, n.kind = 61 → ∃ xs, Ev selfT xs (σ n)) ∧ ∀ ρ : Int → List Nd, (∀ n ∈ g, n.kind = 61 → Ev selfT (ρ n.num) (σ n)) → fill ρ g = t := by
  induction h with
  | leaf n hk h0 =>
    intro t ht
    refine ⟨fun m hm _ => ?_, fun ρ hρ => ?_⟩
    · simp at hm; subst hm; exact ⟨t, ht⟩
    · have h1 := hρ n (by simp) hk
      simp only [fill, fillN, List.flatMap_cons, List.flatMap_nil, hk, if_true, List.append_nil]
      exact h1.self ht
  | node n hk xss ds hn hl h ih =>
    intro t ht
    rcases ht.last with ⟨m, rfl, ⟨hm, _⟩, e⟩ | ⟨m, yss, es, hm, hn', hl', h2, rfl, e⟩
    · have := con_nd e
      subst this
      exact absurd hm hk
    · have e1 := con_nd e
      subst e1
      have hlE : ds.length = es.length := by omega
      have e2 := con_kids e hlE
      subst e2
      refine ⟨fun m hm hm61 => ?_, fun ρ hρ => ?_⟩
      · rcases List.mem_append.1 hm with hm | hm
        · obtain ⟨a, ha, hma⟩ := List.mem_flatten.1 hm
          obtain ⟨i, hi, rfl⟩ := List.getElem_of_mem ha
          exact (ih i hi (by omega) (h2 i (by omega) (by omega))).1 m hma hm61
        · simp at hm; subst hm; exact absurd hm61 hk
      · rw [fill_append, fill_flatten]
        have e3 : fill ρ [n] = [n] := by simp [fill, fillN, hk]
        rw [e3]
        congr 2
        apply List.ext_getElem (by simp; omega)
        intro i h3 h4
        simp only [List.getElem_map]
        have hi : i < xss.length := by simpa using h3
        refine (ih i hi (by omega) (h2 i h4 (by omega))).2 ρ (fun m hm hm61 => ?_)
        exact hρ m (List.mem_append_left _ (List.mem_flatten.2 ⟨_, List.getElem_mem hi, hm⟩)) hm61

/-- From what its unknowns are, to what a term makes. -/
theorem Ev.forth {σ : Nd → DT} {g : List Nd} {d : DT} (h : Ev σ g d) {ρ : Int → List Nd} (hρ : ∀ n ∈ g, n.kind = 61 → Ev selfT (ρ n.num) (σ n)) : Ev selfT (fill ρ g) d := by
  induction h with
  | leaf n hk h0 =>
    have h1 := hρ n (by simp) hk
    simp only [fill, fillN, List.flatMap_cons, List.flatMap_nil, hk, if_true, List.append_nil]
    exact h1
  | node n hk xss ds hn hl h ih =>
    rw [fill_append, fill_flatten]
    have e3 : fill ρ [n] = [n] := by simp [fill, fillN, hk]
    rw [e3]
    refine Ev.node n hk _ ds hn (by simp [hl]) (fun i h1 h2 => ?_)
    simp only [List.getElem_map]
    have hi : i < xss.length := by simpa using h1
    exact ih i hi h2 (fun m hm hm61 => hρ m (List.mem_append_left _ (List.mem_flatten.2 ⟨_, List.getElem_mem hi, hm⟩)) hm61)

/-- What stands for itself. -/
theorem Ev.asSelf {σ : Nd → DT} {t : List Nd} {d : DT} (h : Ev σ t d) (hσ : ∀ n ∈ t, n.kind = 61 → σ n = selfT n) : Ev selfT t d := by
  induction h with
  | leaf n hk h0 =>
    rw [hσ n (by simp) hk]
    exact Ev.leaf n hk h0
  | node n hk xss ds hn hl h ih =>
    refine Ev.node n hk xss ds hn hl (fun i h1 h2 => ih i h1 h2 (fun m hm hm61 => hσ m (List.mem_append_left _ (List.mem_flatten.2 ⟨_, List.getElem_mem h1, hm⟩)) hm61))

/-- Every term makes something. -/
theorem ev_span (σ : Nd → DT) {t : List Nd} (hl : Leafy t) {S ys : List Sp} {n : Nat} (h : after t n = some (S, ys)) : ∀ i, i < n → ∀ s, ys[i]? = some s → ∃ d, Ev σ (span t s.fr i) d := by
  intro i
  induction i using Nat.strongRecOn with
  | ind i ih =>
    intro hi s hs
    have hle := after_le h
    have hit : i < t.length := by omega
    obtain ⟨K, hK, hsp, hO⟩ := span_kids h hi hs hit
    obtain ⟨_, hn⟩ := hK.num
    rw [hsp]
    by_cases h61 : t[i].kind = 61
    · have hz := hl t[i] (List.getElem_mem hit) h61
      have hK0 : K = [] := List.eq_nil_of_length_eq_zero (by omega)
      subst hK0
      exact ⟨_, by simpa [kidsIn] using Ev.leaf (σ := σ) t[i] h61 hz⟩
    · have hk : ∀ r, ∃ d, ∀ hr : r < K.length, Ev σ (span t K[r].fr K[r].rt) d := by
        intro r
        by_cases hr : r < K.length
        · have hm := hK.mem r hr
          obtain ⟨d, hd⟩ := ih K[r].rt hm.2.2 (by omega) K[r] hm.1
          exact ⟨d, fun _ => hd⟩
        · exact ⟨fun _ => none, fun h => absurd h hr⟩
      obtain ⟨F, hF⟩ := Classical.axiomOfChoice hk
      refine ⟨con t[i] ((List.range K.length).map F), Ev.node t[i] h61 (kidsIn t K) _ (by simpa using hn) (by simp [kidsIn]) (fun r h1 h2 => ?_)⟩
      have hr : r < K.length := by simpa using h2
      simp only [kidsIn, List.getElem_map, List.getElem_range]
      exact hF r hr

/-- What fills a term's unknowns makes something, if all of it does. -/
theorem Ev.cut {σ : Nd → DT} {g : List Nd} {d : DT} (h : Ev σ g d) {ρ : Int → List Nd} (hρ : ∀ x, One (ρ x)) : ∀ {D : DT}, Ev selfT (fill ρ g) D → ∀ n ∈ g, n.kind = 61 → ∃ e, Ev selfT (ρ n.num) e := by
  induction h with
  | leaf n hk h0 =>
    intro D hD m hm _
    simp at hm
    subst hm
    have e : fill ρ [m] = ρ m.num := by simp [fill, fillN, hk]
    rw [e] at hD
    exact ⟨D, hD⟩
  | node n hk xss ds hn hl h ih =>
    intro D hD m hm hm61
    have e3 : fill ρ [n] = [n] := by simp [fill, fillN, hk]
    rw [fill_append, fill_flatten, e3] at hD
    have hO := ev_ones hl h
    have hL : ∀ i (h1 : i < xss.length), Leafy xss[i] := by
      have key : ∀ {xs : List Nd} {d : DT}, Ev σ xs d → Leafy xs := by
        intro xs d hx
        induction hx with
        | leaf n hk h0 => intro m hm _; simp at hm; subst hm; exact h0
        | node n hk yss es hn hl h ih =>
          intro m hm hm61
          rcases List.mem_append.1 hm with hm | hm
          · obtain ⟨a, ha, hma⟩ := List.mem_flatten.1 hm
            obtain ⟨i, hi, rfl⟩ := List.getElem_of_mem ha
            exact ih i hi (by omega) m hma hm61
          · simp at hm; subst hm; exact absurd hm61 hk
      exact fun i h1 => key (h i h1 (by omega))
    rcases hD.last with ⟨q, e, ⟨hq, _⟩, _⟩ | ⟨q, yss, es, hq, hn', hl', h2, e, _⟩
    · have := (List.append_inj' (s₂ := []) e rfl).2
      simp at this
      subst this
      exact absurd hq hk
    · obtain ⟨e1, e2⟩ := List.append_inj' e rfl
      have e4 := ones_same (A := xss.map (fill ρ)) (by
        intro y hy
        obtain ⟨a, ha, rfl⟩ := List.mem_map.1 hy
        obtain ⟨i, hi, rfl⟩ := List.getElem_of_mem ha
        exact fill_one hρ (hL i hi) (hO _ (List.getElem_mem hi))) (ev_ones hl' h2) e1
      rcases List.mem_append.1 hm with hm | hm
      · obtain ⟨a, ha, hma⟩ := List.mem_flatten.1 hm
        obtain ⟨i, hi, rfl⟩ := List.getElem_of_mem ha
        have hi2 : i < yss.length := by rw [← e4]; simpa using hi
        have e5 : yss[i] = fill ρ xss[i] := by
          have : yss[i] = (xss.map (fill ρ))[i]'(by simpa using hi) := by simp only [e4]
          rw [this]
          simp
        have h9 := h2 i hi2 (by omega)
        rw [e5] at h9
        exact ih i hi (by omega) h9 m hma hm61
      · simp at hm; subst hm; exact absurd hm61 hk

end Go.Proofs.Ytngomcicdcgldab

namespace Go.Proofs.Ytngomcicdcgldab
open Go.RowKit

theorem Ev.congr {σ σ' : Nd → DT} {t : List Nd} {d : DT} (h : Ev σ t d) (hσ : ∀ n ∈ t, n.kind = 61 → σ n = σ' n) : Ev σ' t d := by
  induction h with
  | leaf n hk h0 =>
    rw [hσ n (by simp) hk]
    exact Ev.leaf n hk h0
  | node n hk xss ds hn hl h ih =>
    refine Ev.node n hk xss ds hn hl (fun i h1 h2 => ih i h1 h2 (fun m hm hm61 => hσ m (List.mem_append_left _ (List.mem_flatten.2 ⟨_, List.getElem_mem h1, hm⟩)) hm61))

/-- What the unknowns of a level are. -/
def sg (U : Int → Int → Option Nat) (lv : Int) (θ : Nat → DT) (n : Nd) : DT := match U lv n.num with
  | some b => θ b
  | none => selfT n

/-- A store has grown: nothing of the old one has changed, and whatever fitted the old one can be gone on with, with unknowns of the level as one likes. -/
structure Grow (lv : Int) (ok : (Int → DT) → Prop) (X : Nat → Prop) (f : Nat → CC) (lk : Nat → Option Nat) (K : (Option Addr × Nat × Nat) → List Nat) (U : Int → Int → Option Nat) (X' : Nat → Prop) (f' : Nat → CC) (lk' : Nat → Option Nat) (K' : (Option Addr × Nat × Nat) → List Nat) (U' : Int → Int → Option Nat) : Prop where
  sub : ∀ i, X i → X' i
  same : ∀ i, X i → gc K' f' i = gc K f i
  link : ∀ i, X i → lk' i = lk i
  keep : ∀ l x b, U l x = some b → U' l x = some b
  other : ∀ l x, l ≠ lv → U' l x = U l x
  inX : (∀ i j, lk i = some j → X i ∧ X j)
  on : ∀ θ, Sat X (gc K f) lk θ → ∀ ρ, ok ρ → ∃ θ', Sat X' (gc K' f') lk' θ' ∧ (∀ i, X i → θ' i = θ i) ∧ ∀ x b, U lv x = none → U' lv x = some b → θ' b = ρ x

theorem Grow.refl {lv : Int} {ok : (Int → DT) → Prop} {X : Nat → Prop} {f : Nat → CC} {lk : Nat → Option Nat} {K : (Option Addr × Nat × Nat) → List Nat} {U : Int → Int → Option Nat} (h : ∀ i j, lk i = some j → X i ∧ X j) : Grow lv ok X f lk K U X f lk K U :=
  ⟨fun _ h => h, fun _ _ => rfl, fun _ _ => rfl, fun _ _ _ h => h, fun _ _ _ => rfl, h, fun θ h ρ _ => ⟨θ, h, fun _ _ => rfl, fun x b h1 h2 => by rw [h1] at h2; cases h2⟩⟩

theorem Grow.back {lv : Int} {ok : (Int → DT) → Prop} {X X' : Nat → Prop} {f f' : Nat → CC} {lk lk' : Nat → Option Nat} {K K' : (Option Addr × Nat × Nat) → List Nat} {U U' : Int → Int → Option Nat} (h : Grow lv ok X f lk K U X' f' lk' K' U') {θ : Nat → DT} (hs : Sat X' (gc K' f') lk' θ) : Sat X (gc K f) lk θ := by
  refine ⟨fun i j e => hs.1 i j (by rw [h.link i (h.inX i j e).1]; exact e), fun i hi hl ho => ?_⟩
  have h9 := hs.2 i (h.sub i hi) (by rw [h.link i hi]; exact hl) (by rw [h.same i hi]; exact ho)
  rw [h.same i hi] at h9
  exact h9

theorem Grow.trans {lv : Int} {ok : (Int → DT) → Prop} {X X1 X2 : Nat → Prop} {f f1 f2 : Nat → CC} {lk lk1 lk2 : Nat → Option Nat} {K K1 K2 : (Option Addr × Nat × Nat) → List Nat} {U U1 U2 : Int → Int → Option Nat} (h : Grow lv ok X f lk K U X1 f1 lk1 K1 U1) (h' : Grow lv ok X1 f1 lk1 K1 U1 X2 f2 lk2 K2 U2) (hU : ∀ l x b, U1 l x = some b → X1 b) : Grow lv ok X f lk K U X2 f2 lk2 K2 U2 := by
  refine ⟨fun i hi => h'.sub i (h.sub i hi), fun i hi => (h'.same i (h.sub i hi)).trans (h.same i hi), fun i hi => (h'.link i (h.sub i hi)).trans (h.link i hi), fun l x b e => h'.keep l x b (h.keep l x b e), fun l x e => (h'.other l x e).trans (h.other l x e), h.inX, fun θ hs ρ hρ => ?_⟩
  obtain ⟨θ1, s1, a1, b1⟩ := h.on θ hs ρ hρ
  obtain ⟨θ2, s2, a2, b2⟩ := h'.on θ1 s1 ρ hρ
  refine ⟨θ2, s2, fun i hi => (a2 i (h.sub i hi)).trans (a1 i hi), fun x b e1 e2 => ?_⟩
  cases e3 : U1 lv x with
  | none => exact b2 x b e3 e2
  | some c =>
    have := h'.keep lv x c e3
    rw [this] at e2
    cases e2
    rw [a2 b (hU lv x b e3)]
    exact b1 x b e1 e3

/-- One cell more. -/
theorem grow_one {lv : Int} {ok : (Int → DT) → Prop} {X : Nat → Prop} {f f' : Nat → CC} {lk : Nat → Option Nat} {K K' : (Option Addr × Nat × Nat) → List Nat} {U U' : Int → Int → Option Nat} {b : Nat} (hb : ¬ X b) (hin : ∀ i j, lk i = some j → X i ∧ X j) (hsame : ∀ i, X i → gc K' f' i = gc K f i) (hkeep : ∀ l x c, U l x = some c → U' l x = some c) (hother : ∀ l x, l ≠ lv → U' l x = U l x)
    (hkid : ∀ k ∈ (gc K' f' b).ks, X k) (hself : ∀ i, X i → ∀ k ∈ (gc K f i).ks, X k) (hval : ∀ ρ, ok ρ → ∃ v : DT, ∀ θ : Nat → DT, ((gc K' f' b).op = false → v = con (gc K' f' b).nd ((gc K' f' b).ks.map θ) ∨ (gc K' f' b).ks ≠ []) ∧ ∀ x c, U lv x = none → U' lv x = some c → c = b ∧ v = ρ x) (hnone : (gc K' f' b).ks ≠ [] → (∀ x c, U lv x = none → U' lv x = some c → False)) :
    Grow lv ok X f lk K U (fun i => X i ∨ i = b) f' lk K' U' := by
  refine ⟨fun i hi => .inl hi, hsame, fun _ _ => rfl, hkeep, hother, hin, fun θ hs ρ hρ => ?_⟩
  obtain ⟨v, hv⟩ := hval ρ hρ
  have hlkb : lk b = none := by
    cases e : lk b with
    | none => rfl
    | some j => exact absurd (hin b j e).1 hb
  by_cases hk : (gc K' f' b).ks = []
  · refine ⟨fun i => if i = b then v else θ i, ⟨fun i j e => ?_, fun i hi hl ho => ?_⟩, fun i hi => ?_, fun x c e1 e2 => ?_⟩
    · have n1 : i ≠ b := fun e9 => hb (e9 ▸ (hin i j e).1)
      have n2 : j ≠ b := fun e9 => hb (e9 ▸ (hin i j e).2)
      simp only [n1, n2, if_false]
      exact hs.1 i j e
    · by_cases hib : i = b
      · subst hib
        simp only [if_true]
        rcases (hv θ).1 ho with h9 | h9
        · rw [hk] at h9 ⊢
          exact h9
        · exact absurd hk h9
      · have hXi : X i := hi.resolve_right hib
        simp only [hib, if_false]
        rw [hsame i hXi] at ho ⊢
        rw [hs.2 i hXi hl ho]
        congr 1
        apply List.map_congr_left
        intro k hk'
        have : k ≠ b := fun e9 => hb (e9 ▸ hself i hXi k hk')
        simp only [this, if_false]
    · have : i ≠ b := fun e9 => hb (e9 ▸ hi)
      simp only [this, if_false]
    · obtain ⟨rfl, rfl⟩ := (hv θ).2 x c e1 e2
      simp only [if_true]
  · refine ⟨fun i => if i = b then con (gc K' f' b).nd ((gc K' f' b).ks.map θ) else θ i, ⟨fun i j e => ?_, fun i hi hl ho => ?_⟩, fun i hi => ?_, fun x c e1 e2 => (hnone hk x c e1 e2).elim⟩
    · have n1 : i ≠ b := fun e9 => hb (e9 ▸ (hin i j e).1)
      have n2 : j ≠ b := fun e9 => hb (e9 ▸ (hin i j e).2)
      simp only [n1, n2, if_false]
      exact hs.1 i j e
    · by_cases hib : i = b
      · subst hib
        simp only [if_true]
        congr 1
        apply List.map_congr_left
        intro k hk'
        have : k ≠ i := fun e9 => hb (e9 ▸ hkid k hk')
        simp only [this, if_false]
      · have hXi : X i := hi.resolve_right hib
        simp only [hib, if_false]
        rw [hsame i hXi] at ho ⊢
        rw [hs.2 i hXi hl ho]
        congr 1
        apply List.map_congr_left
        intro k hk'
        have : k ≠ b := fun e9 => hb (e9 ▸ hself i hXi k hk')
        simp only [this, if_false]
    · have : i ≠ b := fun e9 => hb (e9 ▸ hi)
      simp only [this, if_false]

/-- A node more. -/
theorem grow_node {lv : Int} {ok : (Int → DT) → Prop} {X : Nat → Prop} {f f' : Nat → CC} {lk : Nat → Option Nat} {K K' : (Option Addr × Nat × Nat) → List Nat} {U : Int → Int → Option Nat} {b : Nat} (hb : ¬ X b) (hin : ∀ i j, lk i = some j → X i ∧ X j) (hsame : ∀ i, X i → gc K' f' i = gc K f i) (hkid : ∀ k ∈ (gc K' f' b).ks, X k) (hself : ∀ i, X i → ∀ k ∈ (gc K f i).ks, X k) :
    Grow lv ok X f lk K U (fun i => X i ∨ i = b) f' lk K' U :=
  grow_one hb hin hsame (fun _ _ _ h => h) (fun _ _ _ => rfl) hkid hself (fun ρ _ => ⟨con (gc K' f' b).nd [], fun θ => ⟨fun _ => by
    by_cases h : (gc K' f' b).ks = []
    · left; rw [h]; rfl
    · exact .inr h, fun x c e1 e2 => by rw [e1] at e2; cases e2⟩⟩) (fun _ x c e1 e2 => by rw [e1] at e2; cases e2)

/-- An unknown more. -/
theorem grow_leaf {lv : Int} {ok : (Int → DT) → Prop} {X : Nat → Prop} {f f' : Nat → CC} {lk : Nat → Option Nat} {K K' : (Option Addr × Nat × Nat) → List Nat} {U U' : Int → Int → Option Nat} {b : Nat} {x : Int} (hb : ¬ X b) (hin : ∀ i j, lk i = some j → X i ∧ X j) (hsame : ∀ i, X i → gc K' f' i = gc K f i) (hself : ∀ i, X i → ∀ k ∈ (gc K f i).ks, X k)
    (hU : ∀ l y, U' l y = if l = lv ∧ y = x then some b else U l y) (hUx : U lv x = none) (hks : (gc K' f' b).ks = []) (hok : ∀ ρ, ok ρ → (gc K' f' b).op = false → ρ x = con (gc K' f' b).nd []) :
    Grow lv ok X f lk K U (fun i => X i ∨ i = b) f' lk K' U' := by
  refine grow_one hb hin hsame (fun l y c e => ?_) (fun l y hl => ?_) (by rw [hks]; simp) hself (fun ρ hρ => ⟨ρ x, fun θ => ⟨fun ho => .inl (by rw [hks]; exact hok ρ hρ ho), fun y c e1 e2 => ?_⟩⟩) (fun h => absurd hks h)
  · rw [hU]
    by_cases h : l = lv ∧ y = x
    · obtain ⟨rfl, rfl⟩ := h
      rw [hUx] at e
      cases e
    · rw [if_neg h]; exact e
  · rw [hU, if_neg (fun h => hl h.1)]
  · rw [hU] at e2
    by_cases h : y = x
    · subst h
      rw [if_pos ⟨rfl, rfl⟩] at e2
      cases e2
      exact ⟨rfl, rfl⟩
    · rw [if_neg (fun h9 => h h9.2), e1] at e2
      cases e2

end Go.Proofs.Ytngomcicdcgldab

namespace Go.Proofs.Ytngomcicdcgldab
open Go.RowKit Go.Maps Go.WideMaps

theorem laidOutK : laidOutB Try.prog = true := by kernel_rfl
theorem rowU : (108 : TypeId) < Try.prog.types.size := of_decide_eq_true (by kernel_rfl)
theorem wideU : (match Try.prog.underlying 108 with | some (.array _ _) | some (.struct _) => true | _ => false) = true := by kernel_rfl
set_option maxRecDepth 20000 in
theorem lawU : Keyed Try.prog 108 := Keyed.of_law (deep_law_laid laidOutK (m := 2) (by omega) rowU (by kernel_rfl) wideU)
theorem cellsU : Try.prog.cellsOf 108 = 2 := by kernel_rfl
theorem typeU : Try.prog.keyType 108 = true := by kernel_rfl
theorem cells3K : Try.prog.cellsOf 3 = 1 := by kernel_rfl
theorem cells2K : Try.prog.cellsOf 2 = 1 := by kernel_rfl

/-- The key of an unknown. -/
def kU (lv nu : Int) : Lit := .string (keyBytes [.int .i64 lv, .int .i64 nu])

theorem keyU (lv nu : Int) (h1 : (Lit.int .i64 lv).wf = true) (h2 : (Lit.int .i64 nu).wf = true) : keyOf Try.prog 108 (.agg #[.int .i64 lv, .int .i64 nu]) = some (kU lv nu) := by
  unfold keyOf
  simp only [Try.underlying108]
  rw [if_pos (by simp [typeU, Value.formed, Try.underlying108, cellsU])]
  have hs : ∃ m, Try.prog.types.size + 1 = m + 2 := ⟨Try.prog.types.size - 1, by have h9 : 0 < Try.prog.types.size := Nat.lt_of_le_of_lt (Nat.zero_le _) rowU; omega⟩
  obtain ⟨m, hm⟩ := hs
  rw [hm]
  unfold Program.keyLits
  simp only [Try.underlying108, Value.cells]
  rw [if_pos ⟨by rw [cellsU]; rfl, by simp⟩, List.mapM_cons, List.mapM_cons, List.mapM_nil]
  simp [cells3K, cells2K, Program.keyLits, Try.underlying3, Try.underlying2, h1, h2, kU]

theorem kU_inj {lv nu lv' nu' : Int} (h1 : (Lit.int .i64 lv).wf = true) (h2 : (Lit.int .i64 nu).wf = true) (h3 : (Lit.int .i64 lv').wf = true) (h4 : (Lit.int .i64 nu').wf = true) (h : kU lv nu = kU lv' nu') : lv = lv' ∧ nu = nu' := by
  have e1 := keyU lv nu h1 h2
  have e2 := keyU lv' nu' h3 h4
  rw [← h] at e2
  have e := lawU.inj e1 e2
  simp only [Value.agg.injEq] at e
  have e9 := congrArg Array.toList e
  simp only [List.cons.injEq, Value.int.injEq, true_and, and_true] at e9
  exact e9

/-- An element of a map that is a pointer, and reads as itself. -/
def heldP : Value → Option (DataW Value × List MemPlace)
  | .pointer a => some (.held (.pointer a), [])
  | _ => none

theorem heldP_inv {v : Value} {z : DataW Value × List MemPlace} (h : heldP v = some z) : z = (.held v, []) := by
  unfold heldP at h
  split at h
  · simp only [Option.some.injEq] at h
    exact h.symm
  · cases h

/-- The map of unknowns, as a datum. -/
def UD (U : Int → Int → Option Nat) (D : DataW Value) : Prop :=
  Tidy D ∧ ∀ lv nu, (Lit.int .i64 lv).wf = true → (Lit.int .i64 nu).wf = true → Maps.has D (kU lv nu) = (U lv nu).isSome ∧ D.atKey (kU lv nu) (.held (.pointer none)) = .held (ptr (U lv nu))

theorem UD.start : UD (fun _ _ => none) (.map []) := ⟨tidy_empty, fun _ _ _ _ => ⟨rfl, rfl⟩⟩

theorem UD.put {U U' : Int → Int → Option Nat} {D : DataW Value} (h : UD U D) {lv x : Int} {b : Nat} (w1 : (Lit.int .i64 lv).wf = true) (w2 : (Lit.int .i64 x).wf = true) (hU : ∀ l y, U' l y = if l = lv ∧ y = x then some b else U l y) : UD U' (D.put (kU lv x) (.held (.pointer (some ⟨b, 0, none⟩)))) := by
  obtain ⟨h1, h2⟩ := h
  have hkl : WideAt.IsKeyLit (kU lv x) := lawU.key (keyU lv x w1 w2)
  refine ⟨h1.put hkl _, fun l y w3 w4 => ?_⟩
  rw [hU l y]
  by_cases e : l = lv ∧ y = x
  · obtain ⟨rfl, rfl⟩ := e
    rw [if_pos ⟨rfl, rfl⟩]
    exact ⟨has_put_same h1.isMap hkl _, atKey_put_same h1.isMap hkl _ _⟩
  · rw [if_neg e]
    have hne : kU l y ≠ kU lv x := fun h9 => e (kU_inj w3 w4 w1 w2 h9)
    rw [has_put_other hne, atKey_put_other hne]
    exact h2 l y w3 w4

/-- The whole store: cells, and a map of unknowns. -/
structure Stor (w : World) (sb mb n : Nat) (t : Int) (X : Nat → Prop) (f : Nat → CC) (lk : Nat → Option Nat) (d : Nat → Nat) (K : (Option Addr × Nat × Nat) → List Nat) (U : Int → Int → Option Nat) (D : DataW Value) : Prop where
  sto : CSto w X f lk d K
  s0 : w.cell? ⟨sb, 0, none⟩ = some (.map (some mb))
  s1 : w.cell? ⟨sb, 1, none⟩ = some (.int .i64 t)
  sX : ¬ X sb
  map : w.ownsMap Try.prog 108 heldP mb n D
  ud : UD U D
  inX : ∀ l x b, U l x = some b → X b
  nil : K (none, 0, 0) = []

theorem ownsMap_but {w w' : World} {S : Nat → Prop} {b n : Nat} {D : DataW Value} {k : TypeId} {R : Value → Option (DataW Value × List MemPlace)} (h : w.ownsMap Try.prog k R b n D) (hb : But S w w') (hn : ¬ S b) : w'.ownsMap Try.prog k R b n D := by
  obtain ⟨es, clock, h1, h2⟩ := h
  exact ⟨es, clock, (hb.block b (Array.getElem?_eq_some_iff.1 h1).1 hn).trans h1, h2⟩

theorem Stor.mX {w : World} {sb mb n : Nat} {t : Int} {X : Nat → Prop} {f : Nat → CC} {lk : Nat → Option Nat} {d : Nat → Nat} {K : (Option Addr × Nat × Nat) → List Nat} {U : Int → Int → Option Nat} {D : DataW Value} (h : Stor w sb mb n t X f lk d K U D) : ¬ X mb := by
  intro hx
  obtain ⟨es, clock, h1, _⟩ := h.map
  have := h.sto.cells.at' mb hx
  unfold CellAt at this
  rw [h1] at this
  cases this

/-- Nothing of the store has changed. -/
theorem Stor.below {w w' : World} {sb mb n : Nat} {t : Int} {X : Nat → Prop} {f : Nat → CC} {lk : Nat → Option Nat} {d : Nat → Nat} {K : (Option Addr × Nat × Nat) → List Nat} {U : Int → Int → Option Nat} {D : DataW Value} (h : Stor w sb mb n t X f lk d K U D) (hb : Below w.heap.size w w') : Stor w' sb mb n t X f lk d K U D := by
  have hF : But (fun _ => False) w w' := But.ofBelow hb
  exact ⟨h.sto.short (h.sto.cells.but hF (fun _ _ h => h)) h.sto.acyc (But.ofBelow hb), (bcell hb sb 0 (lt_of_cell h.s0)).trans h.s0, (bcell hb sb 1 (lt_of_cell h.s1)).trans h.s1, h.sX, ownsMap_but h.map hF (fun h => h), h.ud, h.inX, h.nil⟩

section
variable {P : Program} (w : World) {ops : Array Oper} {rest : List Oper} {o : Oper} {a : Act} {Q : Exit → Act → World → Prop}
theorem wpList_lookup_heldP (hg : o.guard = none) (m x : Operand) (t : TypeId) (hop : o.op = Op.lookup t m x false)
    (k e : TypeId) (K : Keyed P k) (ht : P.underlying t = some (.map k e)) (hz : (zeroValue e).run P w = .ok (.pointer none) w) (b n : Nat) (D : DataW Value)
    (hm : a.eval m = .map (some b)) (hown : w.ownsMap P k heldP b n D) (key : Value) (kl : Lit) (hx : a.eval x = key) (hkey : keyOf P k key = some kl)
    {v : Value} (hv : D.atKey kl (.held (.pointer none)) = .held v)
    (hK : wpList P ops Q rest (a.put o.dst v) w) :
    wpList P ops Q (o :: rest) a w := by
  refine wpList_plain hg fun K' hK' => ?_
  obtain ⟨v', ps, hrun, hv'⟩ := hown.lookup K ht hz (zd := .held (.pointer none)) (zp := []) rfl hkey
  have e9 : v' = v := by
    rw [hv] at hv'
    have h9 := heldP_inv hv'
    simp only [Prod.mk.injEq, DataW.held.injEq] at h9
    exact h9.1.symm
  subst e9
  unfold Oper.wp
  simp [execOp, hop, hm, hx, hrun, Result.andThen]
  exact hK' _ _ hK
end

theorem zeroCP (w : World) : (zeroValue 55).run Try.prog w = .ok (.pointer none) w := by kernel_rfl

set_option maxRecDepth 20000 in
set_option maxHeartbeats 2000000 in
theorem unknown_old (w : World) (sb mb n : Nat) (t : Int) (X : Nat → Prop) (f : Nat → CC) (lk : Nat → Option Nat) (d : Nat → Nat) (K : (Option Addr × Nat × Nat) → List Nat) (U : Int → Int → Option Nat) (D : DataW Value) (hS : Stor w sb mb n t X f lk d K U D) (nd : Nd) (lv : Int) (w1 : (Lit.int .i64 lv).wf = true) (w2 : (Lit.int .i64 nd.num).wf = true) (b : Nat) (hU : U lv nd.num = some b) :
    Calls Try.prog 59 #[.pointer (some ⟨sb, 0, none⟩), .agg #[.int .i64 nd.kind, .int .i64 nd.num, .string nd.text, .int .i64 nd.kids, .int .i64 nd.place], .int .i64 lv] w fun e w' => e = .returned (.pointer (some ⟨b, 0, none⟩)) ∧ Below w.heap.size w w' := by
  have hv := (hS.ud.2 lv nd.num w1 w2).2
  rw [hU] at hv
  simp only [ptr, Option.map_some] at hv
  have hkey := keyU lv nd.num w1 w2
  have s0 := hS.s0
  have hsl := lt_of_cell s0
  have HOWN : Hid (w.ownsMap Try.prog 108 heldP mb n D) := hS.map
  have HLK : Hid (∀ W : World, Below w.heap.size w W → (Instr.lookup 82 (.map (some mb)) (.agg #[.int .i64 lv, .int .i64 nd.num]) false).run Try.prog W = .ok (.pointer (some ⟨b, 0, none⟩)) W) := by
    intro W hW
    obtain ⟨v', ps, hrun, hv'⟩ := (ownsMap_but HOWN.out (But.ofBelow (S := fun _ => False) hW) (fun h => h)).lookup lawU Try.underlying82 (zeroCP W) (zd := .held (.pointer none)) (zp := []) rfl hkey
    rw [hv] at hv'
    have h9 := heldP_inv hv'
    simp only [Prod.mk.injEq, DataW.held.injEq] at h9
    rw [hrun, ← h9.1]
  have hbA : Below w.heap.size w ((w.alloc (.cells #[.int .i64 nd.kind, .int .i64 nd.num, .string nd.text, .int .i64 nd.kids, .int .i64 nd.place] 48)).alloc (.cells #[.int .i64 lv, .int .i64 nd.num] 108)) := ((Below.refl _ w).alloc (Nat.le_refl _) _).alloc (by simp) _
  have HL1 := HLK.out _ hbA.drew
  have HL2 := HLK.out _ hbA.drew.drew
  clear hS hkey hv
  go_enter Try.func59, Try.ntmps59
  go_wp2_with fail
  go_region
  go_wp2_with fail
  go_region
  go_wp2
  go_ret
  exact ⟨rfl, hbA.drew.drew⟩

/-- A cell that has been made for an unknown. -/
def leafC (nd : Nd) (lv : Int) : CC := ⟨0, nd, (none, 0, 0), 0, lv, 0, none, 0, 0⟩

set_option maxRecDepth 20000 in
set_option maxHeartbeats 2000000 in
theorem unknown_new (w : World) (sb mb n : Nat) (hn : n ≤ 1000000) (t : Int) (X : Nat → Prop) (f : Nat → CC) (lk : Nat → Option Nat) (d : Nat → Nat) (K : (Option Addr × Nat × Nat) → List Nat) (U : Int → Int → Option Nat) (D : DataW Value) (hS : Stor w sb mb n t X f lk d K U D) (nd : Nd) (lv : Int) (w1 : (Lit.int .i64 lv).wf = true) (w2 : (Lit.int .i64 nd.num).wf = true) (hU : U lv nd.num = none) :
    Calls Try.prog 59 #[.pointer (some ⟨sb, 0, none⟩), .agg #[.int .i64 nd.kind, .int .i64 nd.num, .string nd.text, .int .i64 nd.kids, .int .i64 nd.place], .int .i64 lv] w fun e w' => ∃ b, w.heap.size ≤ b ∧ e = .returned (.pointer (some ⟨b, 0, none⟩)) ∧ CellAt w' b (leafC nd lv) none ∧ w'.ownsMap Try.prog 108 heldP mb (n + 1) (D.put (kU lv nd.num) (.held (.pointer (some ⟨b, 0, none⟩)))) ∧ But (· = mb) w w' := by
  have hv := (hS.ud.2 lv nd.num w1 w2).2
  rw [hU] at hv
  simp only [ptr, Option.map_none] at hv
  have hkey := keyU lv nd.num w1 w2
  have s0 := hS.s0
  have hsl := lt_of_cell s0
  have hml := hS.map.lt
  have hsm : sb ≠ mb := by
    rintro rfl
    obtain ⟨es, clock, h1, _⟩ := hS.map
    rw [World.cell?] at s0
    simp [h1] at s0
  have HOWN : Hid (w.ownsMap Try.prog 108 heldP mb n D) := hS.map
  have hbA : Below w.heap.size w ((w.alloc (.cells #[.int .i64 nd.kind, .int .i64 nd.num, .string nd.text, .int .i64 nd.kids, .int .i64 nd.place] 48)).alloc (.cells #[.int .i64 lv, .int .i64 nd.num] 108)) := ((Below.refl _ w).alloc (Nat.le_refl _) _).alloc (by simp) _
  have HL1 : (Instr.lookup 82 (.map (some mb)) (.agg #[.int .i64 lv, .int .i64 nd.num]) false).run Try.prog ((w.alloc (.cells #[.int .i64 nd.kind, .int .i64 nd.num, .string nd.text, .int .i64 nd.kids, .int .i64 nd.place] 48)).alloc (.cells #[.int .i64 lv, .int .i64 nd.num] 108)).drew = .ok (.pointer none) ((w.alloc (.cells #[.int .i64 nd.kind, .int .i64 nd.num, .string nd.text, .int .i64 nd.kids, .int .i64 nd.place] 48)).alloc (.cells #[.int .i64 lv, .int .i64 nd.num] 108)).drew := by
    obtain ⟨v', ps, hrun, hv'⟩ := (ownsMap_but HOWN.out (But.ofBelow (S := fun _ => False) hbA.drew) (fun h => h)).lookup lawU Try.underlying82 (zeroCP _) (zd := .held (.pointer none)) (zp := []) rfl hkey
    rw [hv] at hv'
    have h9 := heldP_inv hv'
    simp only [Prod.mk.injEq, DataW.held.injEq] at h9
    rw [hrun, ← h9.1]
  clear hS hv
  go_enter Try.func59, Try.ntmps59
  go_wp2_with fail
  go_region
  go_wp2_with fail
  have hbD := hbA.drew
  have hzD : ((w.alloc (.cells #[.int .i64 nd.kind, .int .i64 nd.num, .string nd.text, .int .i64 nd.kids, .int .i64 nd.place] 48)).alloc (.cells #[.int .i64 lv, .int .i64 nd.num] 108)).drew.heap.size = w.heap.size + 2 := by simp
  have k0 : ((w.alloc (.cells #[.int .i64 nd.kind, .int .i64 nd.num, .string nd.text, .int .i64 nd.kids, .int .i64 nd.place] 48)).alloc (.cells #[.int .i64 lv, .int .i64 nd.num] 108)).drew.heap[w.heap.size]? = some (.cells #[.int .i64 nd.kind, .int .i64 nd.num, .string nd.text, .int .i64 nd.kids, .int .i64 nd.place] 48 (0, 0)) := by
    show ((w.alloc (.cells #[.int .i64 nd.kind, .int .i64 nd.num, .string nd.text, .int .i64 nd.kids, .int .i64 nd.place] 48)).alloc (.cells #[.int .i64 lv, .int .i64 nd.num] 108)).heap[w.heap.size]? = _
    rw [heap_alloc_old _ _ (by simp)]
    exact heap_alloc_new _ _
  have k1 : ((w.alloc (.cells #[.int .i64 nd.kind, .int .i64 nd.num, .string nd.text, .int .i64 nd.kids, .int .i64 nd.place] 48)).alloc (.cells #[.int .i64 lv, .int .i64 nd.num] 108)).drew.heap[w.heap.size + 1]? = some (.cells #[.int .i64 lv, .int .i64 nd.num] 108 (0, 0)) := by
    show ((w.alloc (.cells #[.int .i64 nd.kind, .int .i64 nd.num, .string nd.text, .int .i64 nd.kids, .int .i64 nd.place] 48)).alloc (.cells #[.int .i64 lv, .int .i64 nd.num] 108)).heap[w.heap.size + 1]? = _
    have h9 := heap_alloc_new (w.alloc (.cells #[.int .i64 nd.kind, .int .i64 nd.num, .string nd.text, .int .i64 nd.kids, .int .i64 nd.place] 48)) (.cells #[.int .i64 lv, .int .i64 nd.num] 108)
    simpa using h9
  have s1 := (bcell hbD sb 0 hsl).trans s0
  have how1 := ownsMap_but HOWN.out (But.ofBelow (S := fun _ => False) hbD) (fun h => h)
  clear HL1 hbA
  generalize ((w.alloc (.cells #[.int .i64 nd.kind, .int .i64 nd.num, .string nd.text, .int .i64 nd.kids, .int .i64 nd.place] 48)).alloc (.cells #[.int .i64 lv, .int .i64 nd.num] 108)).drew = W1 at *
  obtain ⟨z, hz⟩ : ∃ z, w.heap.size = z := ⟨_, rfl⟩
  have hz1 : w.heap.size + 2 = z + 2 := by rw [hz]
  rw [hz] at k0 k1 hsl hml
  rw [hz1] at hzD
  (try rw [hz])
  have n0 : W1.cell? ⟨z, 0, none⟩ = some (.int .i64 nd.kind) := by rw [cell_of_row _ _ _ _ 48 (0, 0) k0]; rfl
  have n1 : W1.cell? ⟨z, 1, none⟩ = some (.int .i64 nd.num) := by rw [cell_of_row _ _ _ _ 48 (0, 0) k0]; rfl
  have n2 : W1.cell? ⟨z, 2, none⟩ = some (.string nd.text) := by rw [cell_of_row _ _ _ _ 48 (0, 0) k0]; rfl
  have n3 : W1.cell? ⟨z, 3, none⟩ = some (.int .i64 nd.kids) := by rw [cell_of_row _ _ _ _ 48 (0, 0) k0]; rfl
  have n4 : W1.cell? ⟨z, 4, none⟩ = some (.int .i64 nd.place) := by rw [cell_of_row _ _ _ _ 48 (0, 0) k0]; rfl
  have q0 : W1.cell? ⟨z + 1, 0, none⟩ = some (.int .i64 lv) := by rw [cell_of_row _ _ _ _ 108 (0, 0) k1]; rfl
  have q1 : W1.cell? ⟨z + 1, 1, none⟩ = some (.int .i64 nd.num) := by rw [cell_of_row _ _ _ _ 108 (0, 0) k1]; rfl
  obtain ⟨w4, hup, hown4, hgrow4⟩ := (how1.alloc (.cells #[.int .i64 0, .int .i64 nd.kind, .int .i64 nd.num, .string nd.text, .int .i64 nd.kids, .int .i64 nd.place, .slice none 0 0, .int .i64 0, .int .i64 lv, .pointer none, .int .i64 0, .pointer none, .int .i64 0, .int .i64 0] 100)).drew.update lawU Try.underlying82 (by unfold maxLen; omega) (val := .pointer (some ⟨W1.heap.size, 0, none⟩)) hkey (d := .held (.pointer (some ⟨W1.heap.size, 0, none⟩))) (ps := []) rfl
  have hb3 : Below W1.heap.size W1 (W1.alloc (.cells #[.int .i64 0, .int .i64 nd.kind, .int .i64 nd.num, .string nd.text, .int .i64 nd.kids, .int .i64 nd.place, .slice none 0 0, .int .i64 0, .int .i64 lv, .pointer none, .int .i64 0, .pointer none, .int .i64 0, .int .i64 0] 100)).drew := ((Below.refl _ W1).alloc (Nat.le_refl _) _).drew
  have hz3 : (W1.alloc (.cells #[.int .i64 0, .int .i64 nd.kind, .int .i64 nd.num, .string nd.text, .int .i64 nd.kids, .int .i64 nd.place, .slice none 0 0, .int .i64 0, .int .i64 lv, .pointer none, .int .i64 0, .pointer none, .int .i64 0, .int .i64 0] 100)).drew.heap.size = W1.heap.size + 1 := World.size_alloc _ _
  have hBm := but_grown hgrow4
  have HAT : Hid (CellAt w4 W1.heap.size (leafC nd lv) none) := by
    have h9 := heap_alloc_new W1 (.cells #[.int .i64 0, .int .i64 nd.kind, .int .i64 nd.num, .string nd.text, .int .i64 nd.kids, .int .i64 nd.place, .slice none 0 0, .int .i64 0, .int .i64 lv, .pointer none, .int .i64 0, .pointer none, .int .i64 0, .int .i64 0] 100)
    have h8 := (hBm.block W1.heap.size (by omega) (by omega)).trans h9
    exact h8
  have HBW : Hid (But (· = mb) w w4) := ((But.ofBelow hbD).trans (But.ofBelow hb3)).trans hBm
  have hs4 : w4.cell? ⟨sb, 0, none⟩ = some (.map (some mb)) := (hBm.cellB (b := sb) (o := 0) (by omega) hsm).trans ((bcell hb3 sb 0 (by omega)).trans s1)
  have r0 : w4.cell? ⟨z + 1, 0, none⟩ = some (.int .i64 lv) := (hBm.cellB (b := z + 1) (o := 0) (by omega) (by omega)).trans ((bcell hb3 (z + 1) 0 (by omega)).trans q0)
  have r1 : w4.cell? ⟨z + 1, 1, none⟩ = some (.int .i64 nd.num) := (hBm.cellB (b := z + 1) (o := 1) (by omega) (by omega)).trans ((bcell hb3 (z + 1) 1 (by omega)).trans q1)
  have HL4 : (Instr.lookup 82 (.map (some mb)) (.agg #[.int .i64 lv, .int .i64 nd.num]) false).run Try.prog w4.drew = .ok (.pointer (some ⟨W1.heap.size, 0, none⟩)) w4.drew := by
    obtain ⟨v', ps, hrun, hv'⟩ := hown4.drew.lookup lawU Try.underlying82 (zeroCP _) (zd := .held (.pointer none)) (zp := []) rfl hkey
    rw [atKey_put_same (how1.tidy lawU).isMap (lawU.key hkey)] at hv'
    have h9 := heldP_inv hv'
    simp only [Prod.mk.injEq, DataW.held.injEq] at h9
    rw [hrun, ← h9.1]
  have HOW4 : Hid (w4.ownsMap Try.prog 108 heldP mb (n + 1) (D.put (kU lv nd.num) (.held (.pointer (some ⟨W1.heap.size, 0, none⟩))))) := hown4
  have hWz : w.heap.size ≤ W1.heap.size := hbD.size
  have hW1 : sb < W1.heap.size := by omega
  have hW2 : z < W1.heap.size := by omega
  have hW3 : z + 1 < W1.heap.size := by omega
  clear hown4 hgrow4 hBm hb3 hbD k0 k1 how1 hkey s0 hml HOWN hz3 hzD hz1
  go_region
  clear hup n0 n1 n2 n3 n4 q0 q1 s1
  go_wp2_with fail
  go_region
  go_wp2
  go_ret
  exact ⟨W1.heap.size, by omega, rfl, HAT.out, HOW4.out.drew, HBW.out.drew⟩

end Go.Proofs.Ytngomcicdcgldab

namespace Go.Proofs.Ytngomcicdcgldab
open Go.RowKit Go.Maps

theorem Try.infoCP : (Try.prog.info? 55).map (fun i => (i.zero, i.size, i.bytes)) = some (some (.pointer none), 1, 8) := by kernel_rfl

/-- Pointers to blocks. -/
def ptrs (bs : List Nat) : List Value := bs.map fun b => .pointer (some ⟨b, 0, none⟩)

theorem ptrs_one (bs : List Nat) : ∀ u ∈ ptrs bs, u.oneCell' = true := by
  intro u hu
  obtain ⟨b, _, rfl⟩ := List.mem_map.1 hu
  rfl

set_option maxHeartbeats 400000 in
theorem cloneP_any (bs : List Nat) (m : Nat) (HM : Hid (bs.length = m)) (hm : m ≤ 1048576) (ad : Addr) (cap : Nat) (w : World) (hx : ∀ j u, (ptrs bs)[j]? = some u → w.cell? (ad.add j) = some u) :
    Calls Try.prog 60 #[.slice (some ad) m cap] w fun e w' => ∃ g c cur, e = .returned (.slice (some ⟨g, 0, none⟩) m c) ∧ w.heap.size ≤ g ∧ w'.heap[g]? = some (.cells cur 55 (0, 0)) ∧ (∀ i (h : i < bs.length), cur[i]? = some (.pointer (some ⟨bs[i], 0, none⟩))) ∧ Below w.heap.size w w' := by
  obtain ⟨i0, hi, hz0, hz1, hz2⟩ := info_parts Try.infoCP
  have hO : (w.alloc (.cells #[] 55)).ownsRow w.heap.size 55 1 (.slice (some ⟨w.heap.size, 0, none⟩) 0 0) 0 [] := ⟨rfl, Or.inr ⟨_, 0, #[], rfl, Nat.le_refl _, heap_alloc_new _ _, Nat.le_refl _, by simp [maxLen], rfl, rfl⟩⟩
  have hnil : ∀ (w : World), (binOp .eql 96 (.slice (some ad) m cap) (.slice none 0 0)).run Try.prog w = .ok (.bool false) w := fun w => Lib.run_eql_slice_nil w _ _ (some ad) m cap 0 0 Try.underlying96
  have hn : ∀ j u, (ptrs bs)[j]? = some u → (w.alloc (.cells #[] 55)).cell? (ad.add j) = some u := by
    intro j u hj
    have h9 := hx j u hj
    have hl : (ad.add j).block < w.heap.size := by
      rcases h8 : ad.add j with ⟨b, o, sp⟩
      rw [h8] at h9
      have hsp : sp = none := World.cell?_spot h9
      subst hsp
      exact lt_of_cell h9
    rw [← h9]
    exact ((Below.refl w.heap.size w).alloc (Nat.le_refl _) _).cell hl
  go_enter Try.func60, Try.ntmps60
  clear hx
  go_wp2_with (at_builtin; refine wpList_append2 _ rfl (.tmp 5) (.tmp 6) 96 rfl w.heap.size 55 i0 _ 1 8 Try.underlying96 hi hz0 hz1 hz2 rfl (by decide) w.heap.size 0 0 _ rfl hO ad m cap (ptrs bs) rfl ?a1 hn (ptrs_one bs) ?a3 ?a4 ?a5 ?_)
  case a1 => rw [ptrs, List.length_map, HM.out]; omega
  case a3 => unfold maxLen; omega
  case a4 => omega
  case a5 => simp
  intro g2 c2 w2 hown2 hgrow2 hwh
  have hbb : Below w.heap.size w w2 := ((Below.refl _ w).alloc (Nat.le_refl _) _).grown hgrow2 (by simp) (fun q hq => by cases hq; exact Nat.le_refl _)
  have hfin : w.heap.size ≤ g2 ∧ ∃ cur, w2.heap[g2]? = some (.cells cur 55 (0, 0)) ∧ ∀ i (h : i < bs.length), cur[i]? = some (.pointer (some ⟨bs[i], 0, none⟩)) := by
    rcases hown2.2 with ⟨h', _⟩ | ⟨g3, cap3, cur, he, hb, hh, hnc, _, _, htake⟩
    · cases h'
    · simp only [Value.slice.injEq, Option.some.injEq, Addr.mk.injEq, and_true, true_and] at he
      obtain ⟨rfl, rfl⟩ := he
      refine ⟨hb, cur, hh, fun i hi => ?_⟩
      have e9 : (cur.toList.take (m * 1))[i]? = some (.pointer (some ⟨bs[i], 0, none⟩)) := by
        rw [htake]
        simp [ptrs, hi]
      rw [List.getElem?_take_of_lt (by have := HM.out; omega)] at e9
      simpa using e9
  clear hown2 hgrow2 hwh hO hn
  obtain ⟨hg, cur, hcur, hall⟩ := hfin
  have HC : Hid (∀ i (h : i < bs.length), cur[i]? = some (.pointer (some ⟨bs[i], 0, none⟩))) := hall
  clear hall
  go_wp2
  go_ret
  exact ⟨_, _, cur, rfl, hg, hcur, HC.out, hbb⟩

/-- A cell that has been made for a node. -/
def nodeC (nd : Nd) (ks : Option Addr × Nat × Nat) : CC := ⟨0, nd, ks, 0, 0, 0, none, 0, 0⟩

/-- The boxes of take's closure: the store, the level. -/
structure TBox (w : World) (sx lx sb : Nat) (lv : Int) : Prop where
  s : w.heap[sx]? = some (.cells #[.pointer (some ⟨sb, 0, none⟩)] 50 (0, 0))
  l : w.heap[lx]? = some (.cells #[.int .i64 lv] 3 (0, 0))

/-- What take's closure leaves. -/
def TRes (w : World) (sb mb n : Nat) (t lv : Int) (ok : (Int → DT) → Prop) (X : Nat → Prop) (f : Nat → CC) (lk : Nat → Option Nat) (d : Nat → Nat) (K : (Option Addr × Nat × Nat) → List Nat) (U : Int → Int → Option Nat) (nd : Nd) (bs : List Nat) (e : Ending) (w' : World) : Prop :=
  ∃ (b n' : Nat) (X' : Nat → Prop) (f' : Nat → CC) (K' : (Option Addr × Nat × Nat) → List Nat) (U' : Int → Int → Option Nat) (D' : DataW Value), e = .returned (.pointer (some ⟨b, 0, none⟩)) ∧ n' ≤ n + 1 ∧ Stor w' sb mb n' t X' f' lk d K' U' D' ∧ Grow lv ok X f lk K U X' f' lk K' U' ∧ X' b ∧ (∀ i, X' i → X i ∨ i = b) ∧ But (· = mb) w w' ∧
    (nd.kind = 61 → U' lv nd.num = some b) ∧ (nd.kind ≠ 61 → gc K' f' b = ⟨nd, bs, false⟩ ∧ lk b = none) ∧ (∀ i, X i → (f' i).ks = (f i).ks) ∧ (X b ∨ ∀ g, g < w.heap.size → K' (f' b).ks = [] ∨ (f' b).ks.1 ≠ some ⟨g, 0, none⟩) ∧
    (nd.kind = 61 → U lv nd.num = none → gc K' f' b = ⟨nd, [], decide (1 ≤ lv)⟩ ∧ lk b = none) ∧ (∀ x c, U' lv x = some c → U lv x = some c ∨ (nd.kind = 61 ∧ x = nd.num)) ∧ (X b ∨ w.heap.size ≤ b)

set_option maxRecDepth 20000 in
set_option maxHeartbeats 4000000 in
theorem take1_meta (w : World) (sb mb n : Nat) (hn : n ≤ 1000000) (t lv : Int) (ok : (Int → DT) → Prop) (X : Nat → Prop) (f : Nat → CC) (lk : Nat → Option Nat) (d : Nat → Nat) (K : (Option Addr × Nat × Nat) → List Nat) (U : Int → Int → Option Nat) (D : DataW Value) (hS : Stor w sb mb n t X f lk d K U D) (sx lx : Nat) (hT : TBox w sx lx sb lv) (nd : Nd) (w1 : (Lit.int .i64 lv).wf = true) (hlv : lv ≤ 1) (w2 : (Lit.int .i64 nd.num).wf = true) (h61 : nd.kind = 61) (h0 : nd.kids = 0) (hok : ∀ ρ, ok ρ → lv = 0 → ρ nd.num = selfT nd) (hlv0 : lv = 0 ∨ lv = 1) (bs : List Nat) (so : Option Addr) (m c : Nat) :
    Calls Try.prog 58 #[.agg #[.int .i64 nd.kind, .int .i64 nd.num, .string nd.text, .int .i64 nd.kids, .int .i64 nd.place], .slice so m c, .pointer (some ⟨sx, 0, none⟩), .pointer (some ⟨lx, 0, none⟩)] w fun e w' => TRes w sb mb n t lv ok X f lk d K U nd bs e w' := by
  have q0 : w.cell? ⟨sx, 0, none⟩ = some (.pointer (some ⟨sb, 0, none⟩)) := by rw [cell_of_row _ _ _ _ 50 (0, 0) hT.s]; rfl
  have q1 : w.cell? ⟨lx, 0, none⟩ = some (.int .i64 lv) := by rw [cell_of_row _ _ _ _ 3 (0, 0) hT.l]; rfl
  have l0 := lt_of_cell q0
  have l1 := lt_of_cell q1
  have hbA : Below w.heap.size w (w.alloc (.cells #[.int .i64 nd.kind, .int .i64 nd.num, .string nd.text, .int .i64 nd.kids, .int .i64 nd.place] 48)) := (Below.refl _ w).alloc (Nat.le_refl _) _
  have hSA := hS.below hbA
  have HU : Hid (∀ W, W = (w.alloc (.cells #[.int .i64 nd.kind, .int .i64 nd.num, .string nd.text, .int .i64 nd.kids, .int .i64 nd.place] 48)) → Calls Try.prog 59 #[.pointer (some ⟨sb, 0, none⟩), .agg #[.int .i64 nd.kind, .int .i64 nd.num, .string nd.text, .int .i64 nd.kids, .int .i64 nd.place], .int .i64 lv] W fun e w' => TRes w sb mb n t lv ok X f lk d K U nd bs e w') := by
    rintro W rfl
    cases hU : U lv nd.num with
    | some b =>
      refine (unknown_old _ sb mb n t X f lk d K U D hSA nd lv w1 w2 b hU).mono ?_
      rintro e w' ⟨rfl, hb⟩
      exact ⟨b, n, X, f, K, U, D, rfl, by omega, hSA.below hb, Grow.refl hS.sto.cells.link, hS.inX lv nd.num b hU, fun i hi => .inl hi, (But.ofBelow hbA).trans (But.ofBelow hb), fun _ => hU, fun h => absurd h61 h, fun _ _ => rfl, .inl (hS.inX lv nd.num b hU), fun _ h => (by rw [hU] at h; cases h), fun _ _ h => .inl h, .inl (hS.inX lv nd.num b hU)⟩
    | none =>
      refine (unknown_new _ sb mb n hn t X f lk d K U D hSA nd lv w1 w2 hU).mono ?_
      rintro e w' ⟨b, hbz, rfl, hat, hown, hBm⟩
      have hbX : ¬ X b := fun h => by have h9 := (hSA.sto.cells.at' b h).lt; omega
      have hmX := hS.mX
      have hlkb : lk b = none := by
        cases e : lk b with
        | none => rfl
        | some j => exact absurd (hS.sto.cells.link b j e).1 hbX
      have hsb : sb < w.heap.size := lt_of_cell hS.s0
      have hzA : w.heap.size ≤ (w.alloc (.cells #[.int .i64 nd.kind, .int .i64 nd.num, .string nd.text, .int .i64 nd.kids, .int .i64 nd.place] 48)).heap.size := hbA.size
      have hsm : sb ≠ mb := by
        rintro rfl
        obtain ⟨es, clock, h1, _⟩ := hS.map
        have s0 := hS.s0
        rw [World.cell?] at s0
        simp [h1] at s0
      have hC := hSA.sto.cells.but hBm (fun i hi e => hmX (e ▸ hi))
      have hKb : K (none, 0, 0) = [] := hS.nil
      have hf : ∀ i, X i → (if i = b then leafC nd lv else f i) = f i := fun i hi => if_neg (fun e : i = b => hbX (e ▸ hi))
      have hgc : ∀ i, X i → gc K (fun i => if i = b then leafC nd lv else f i) i = gc K f i := fun i hi => by simp only [gc, hf i hi]
      have hkm : ∀ cur, (w.alloc (.cells #[.int .i64 nd.kind, .int .i64 nd.num, .string nd.text, .int .i64 nd.kids, .int .i64 nd.place] 48)).heap[mb]? ≠ some (.cells cur 55 (0, 0)) := by
        obtain ⟨es, clock, h1, _⟩ := hSA.map
        intro cur h9
        rw [h1] at h9
        cases h9
      have hS2 := hSA.sto.aside hBm hmX hkm
      have hgb : gc K (fun i => if i = b then leafC nd lv else f i) b = ⟨nd, [], (leafC nd lv).open?⟩ := by
        simp only [gc, if_true, leafC]
        rw [hKb]
      have hU2 : ∀ l y, (fun l y => if l = lv ∧ y = nd.num then some b else U l y) l y = if l = lv ∧ y = nd.num then some b else U l y := fun _ _ => rfl
      refine ⟨b, n + 1, (fun i => X i ∨ i = b), (fun i => if i = b then leafC nd lv else f i), K, (fun l y => if l = lv ∧ y = nd.num then some b else U l y), _, rfl, Nat.le_refl _, ⟨⟨⟨fun i hi => ?_, fun i j e => ⟨.inl (hC.link i j e).1, .inl (hC.link i j e).2⟩⟩, hS2.acyc, fun i hi => ?_, fun i hi => ?_, fun i hi => ?_, fun i hi => ?_, fun i hi => ?_⟩, ?_, ?_, ?_, hown, hSA.ud.put w1 w2 hU2, ?_, hKb⟩, ?_, .inr rfl, fun i hi => hi, (But.ofBelow hbA).trans hBm, fun _ => by simp, fun h => absurd h61 h, fun i hi => congrArg CC.ks (hf i hi), .inr (fun g _ => .inl (by simp [leafC, hKb])), fun _ _ => ⟨by rw [hgb]; simp only [leafC, CC.open?, h61, GC.mk.injEq, true_and, beq_self_eq_true, Bool.true_and]; exact decide_eq_decide.2 Iff.rfl, hlkb⟩, fun x c h => ?_, .inr (by omega)⟩
      · rcases hi with hi | rfl
        · rw [hf i hi]; exact hC.at' i hi
        · rw [if_pos rfl, hlkb]; exact hat
      · rcases hi with hi | rfl
        · rw [hf i hi]
          obtain ⟨r1, r2⟩ := hS2.rows i hi
          refine ⟨r1, ?_⟩
          rcases r2 with e | ⟨g, cur, a1, a2, a3, a4, a5⟩
          · exact .inl e
          · refine .inr ⟨g, cur, a1, ?_, a3, a4, a5⟩
            rintro (h9 | rfl)
            · exact a2 h9
            · unfold CellAt at hat
              rw [hat] at a4
              simp at a4
        · rw [if_pos rfl]
          refine ⟨⟨?_, ?_⟩, .inl ?_⟩
          · simp only [leafC]; rw [hKb]; rfl
          · simp only [leafC]; rw [hKb]; simp
          · simp only [leafC]; exact hKb
      · rcases hi with hi | rfl
        · rw [hf i hi]; exact fun k hk => .inl (hS2.inX i hi k hk)
        · rw [if_pos rfl]; simp only [leafC]; rw [hKb]; simp
      · rcases hi with hi | rfl
        · rw [hf i hi]; exact hS2.arity i hi
        · rw [if_pos rfl]; simp only [leafC]; rw [hKb, h0]; rfl
      · rcases hi with hi | rfl
        · rw [hf i hi]; exact hS2.met i hi
        · rw [if_pos rfl]; simp only [leafC]; exact fun _ => hKb
      · rcases hi with hi | rfl
        · rw [hf i hi]; exact hS2.low i hi
        · rw [if_pos rfl]; exact hlv
      · exact (hBm.cellB (by omega) hsm).trans hSA.s0
      · exact (hBm.cellB (by omega) hsm).trans hSA.s1
      · rintro (h | rfl)
        · exact hS.sX h
        · omega
      · intro l y c e
        by_cases h9 : l = lv ∧ y = nd.num
        · simp only [h9, and_self, if_true, Option.some.injEq] at e
          exact .inr e.symm
        · simp only [h9, if_false] at e
          exact .inl (hS.inX l y c e)
      · refine grow_leaf hbX hS.sto.cells.link hgc (fun i hi k hk => hS.sto.inX i hi k hk) hU2 hU (by rw [hgb]) (fun ρ hρ ho => ?_)
        rw [hgb] at ho ⊢
        simp only at ho ⊢
        have hl0 : lv = 0 := by
          rcases hlv0 with h | h
          · exact h
          · simp [leafC, CC.open?, h61, h] at ho
        exact hok ρ hρ hl0
      · by_cases h9 : x = nd.num
        · exact .inr ⟨h61, h9⟩
        · simp only [h9, and_false, if_false] at h
          exact .inl h
  have HU2 := HU.out _ rfl
  rw [h61, h0] at HU2
  clear hS hSA hT HU hbA
  go_enter Try.func58, Try.ntmps58
  go_wp2_with fail
  refine HU2.mono ?_
  rintro e w4 hres
  obtain ⟨b, n', X', f', K', U', D', rfl, hres⟩ := hres
  have HR : Hid (TRes w sb mb n t lv ok X f lk d K U nd bs (.returned (.pointer (some ⟨b, 0, none⟩))) w4) := ⟨b, n', X', f', K', U', D', rfl, hres⟩
  clear hres HU2
  go_wp2
  go_ret
  exact HR.out

theorem tres_node {w w2 : World} {sb mb n : Nat} {t lv : Int} {ok : (Int → DT) → Prop} {X : Nat → Prop} {f : Nat → CC} {lk : Nat → Option Nat} {d : Nat → Nat} {K : (Option Addr × Nat × Nat) → List Nat} {U : Int → Int → Option Nat} {D : DataW Value} (hS : Stor w sb mb n t X f lk d K U D) {nd : Nd} (h61 : nd.kind ≠ 61) {bs : List Nat} {m c2 g : Nat} {cur : Array Value} (HM : bs.length = m) (hm : m ≤ 20000) (hk : nd.kids = (m : Int)) (hbs : ∀ b ∈ bs, X b) (hb2 : Below w.heap.size w w2) (hg : w.heap.size ≤ g) (hcur : w2.heap[g]? = some (.cells cur 55 (0, 0))) (hall : ∀ i (h : i < bs.length), cur[i]? = some (.pointer (some ⟨bs[i], 0, none⟩))) :
    TRes w sb mb n t lv ok X f lk d K U nd bs (.returned (.pointer (some ⟨w2.heap.size, 0, none⟩))) (w2.alloc (.cells #[.int .i64 0, .int .i64 nd.kind, .int .i64 nd.num, .string nd.text, .int .i64 nd.kids, .int .i64 nd.place, .slice (some ⟨g, 0, none⟩) m c2, .int .i64 0, .int .i64 0, .pointer none, .int .i64 0, .pointer none, .int .i64 0, .int .i64 0] 100)) := by
  have hbb : Below w.heap.size w (w2.alloc (.cells #[.int .i64 0, .int .i64 nd.kind, .int .i64 nd.num, .string nd.text, .int .i64 nd.kids, .int .i64 nd.place, .slice (some ⟨g, 0, none⟩) m c2, .int .i64 0, .int .i64 0, .pointer none, .int .i64 0, .pointer none, .int .i64 0, .int .i64 0] 100)) := hb2.alloc hb2.size _
  have hS2 := hS.below hbb
  have hat : CellAt (w2.alloc (.cells #[.int .i64 0, .int .i64 nd.kind, .int .i64 nd.num, .string nd.text, .int .i64 nd.kids, .int .i64 nd.place, .slice (some ⟨g, 0, none⟩) m c2, .int .i64 0, .int .i64 0, .pointer none, .int .i64 0, .pointer none, .int .i64 0, .int .i64 0] 100)) w2.heap.size (nodeC nd (some ⟨g, 0, none⟩, m, c2)) none := heap_alloc_new _ _
  have hz : (w2.alloc (.cells #[.int .i64 0, .int .i64 nd.kind, .int .i64 nd.num, .string nd.text, .int .i64 nd.kids, .int .i64 nd.place, .slice (some ⟨g, 0, none⟩) m c2, .int .i64 0, .int .i64 0, .pointer none, .int .i64 0, .pointer none, .int .i64 0, .int .i64 0] 100)).heap.size = w2.heap.size + 1 := World.size_alloc _ _
  have hgl : g < w2.heap.size := (Array.getElem?_eq_some_iff.1 hcur).1
  have hcur2 : (w2.alloc (.cells #[.int .i64 0, .int .i64 nd.kind, .int .i64 nd.num, .string nd.text, .int .i64 nd.kids, .int .i64 nd.place, .slice (some ⟨g, 0, none⟩) m c2, .int .i64 0, .int .i64 0, .pointer none, .int .i64 0, .pointer none, .int .i64 0, .int .i64 0] 100)).heap[g]? = some (.cells cur 55 (0, 0)) := (heap_alloc_old _ _ hgl).trans hcur
  have hlX : ∀ i, X i → i < w.heap.size := fun i hi => (hS.sto.cells.at' i hi).lt
  have hs2 := hb2.size
  obtain ⟨b, hb⟩ : ∃ b, w2.heap.size = b := ⟨_, rfl⟩
  rw [hb] at hat hz hgl hs2 ⊢
  generalize w2.alloc (.cells #[.int .i64 0, .int .i64 nd.kind, .int .i64 nd.num, .string nd.text, .int .i64 nd.kids, .int .i64 nd.place, .slice (some ⟨g, 0, none⟩) m c2, .int .i64 0, .int .i64 0, .pointer none, .int .i64 0, .pointer none, .int .i64 0, .int .i64 0] 100) = w3 at *
  have hbX : ¬ X b := fun h => by have := hlX b h; omega
  have hgX : ¬ X g := fun h => by have := hlX g h; omega
  have hlkb : lk b = none := by
    cases e : lk b with
    | none => rfl
    | some j => exact absurd (hS.sto.cells.link b j e).1 hbX
  obtain ⟨K', hK'⟩ : ∃ K' : (Option Addr × Nat × Nat) → List Nat, K' = fun s => if s = (some ⟨g, 0, none⟩, m, c2) then bs else K s := ⟨_, rfl⟩
  have hf : ∀ i, X i → (if i = b then nodeC nd (some ⟨g, 0, none⟩, m, c2) else f i) = f i := fun i hi => if_neg (fun e : i = b => hbX (e ▸ hi))
  have hKold : ∀ i, X i → K' (f i).ks = K (f i).ks := by
    intro i hi
    rw [hK']
    by_cases e : (f i).ks = (some ⟨g, 0, none⟩, m, c2)
    · simp only [e, if_true]
      obtain ⟨⟨r1, r2⟩, r3⟩ := hS.sto.rows i hi
      rw [e] at r1 r3
      rcases r3 with h9 | ⟨g', cur', a1, a2, a3, _⟩
      · rw [h9] at r1 ⊢
        simp only [List.length_nil] at r1
        exact List.eq_nil_of_length_eq_zero (by omega)
      · simp only [Option.some.injEq, Addr.mk.injEq, and_true] at a1
        subst a1
        omega
    · simp only [e, if_false]
  have hKnew : K' (some ⟨g, 0, none⟩, m, c2) = bs := by rw [hK']; simp
  have hgc : ∀ i, X i → gc K' (fun i => if i = b then nodeC nd (some ⟨g, 0, none⟩, m, c2) else f i) i = gc K f i := fun i hi => by simp only [gc, hf i hi, hKold i hi]
  have hgb : gc K' (fun i => if i = b then nodeC nd (some ⟨g, 0, none⟩, m, c2) else f i) b = ⟨nd, bs, false⟩ := by
    have t61 : ((nd.kind : Int) == 61) = false := by simpa using h61
    simp [gc, nodeC, hKnew, CC.open?, t61]
  refine ⟨b, n, (fun i => X i ∨ i = b), (fun i => if i = b then nodeC nd (some ⟨g, 0, none⟩, m, c2) else f i), K', U, D, rfl, by omega, ⟨⟨⟨fun i hi => ?_, fun i j e => ⟨.inl (hS.sto.cells.link i j e).1, .inl (hS.sto.cells.link i j e).2⟩⟩, hS2.sto.acyc, fun i hi => ?_, fun i hi => ?_, fun i hi => ?_, fun i hi => ?_, fun i hi => ?_⟩, hS2.s0, hS2.s1, ?_, hS2.map, hS2.ud, fun l x c e => .inl (hS.inX l x c e), ?_⟩, ?_, .inr rfl, fun i hi => hi, But.ofBelow hbb, fun h => absurd h h61, fun _ => ⟨hgb, hlkb⟩, fun i hi => congrArg CC.ks (hf i hi), .inr (fun g' hg' => .inr (by simp only [nodeC, ne_eq, if_true, Option.some.injEq, Addr.mk.injEq, and_true]; omega)), fun h => absurd h h61, fun _ _ h => .inl h, .inr (by omega)⟩
  · rcases hi with hi | rfl
    · rw [hf i hi]; exact hS2.sto.cells.at' i hi
    · rw [if_pos rfl, hlkb]; exact hat
  · rcases hi with hi | rfl
    · rw [hf i hi, hKold i hi]
      obtain ⟨r1, r2⟩ := hS2.sto.rows i hi
      refine ⟨r1, ?_⟩
      rcases r2 with e | ⟨g', cur', a1, a2, a3, a4, a5⟩
      · exact .inl e
      · refine .inr ⟨g', cur', a1, ?_, a3, a4, a5⟩
        rintro (h9 | rfl)
        · exact a2 h9
        · unfold CellAt at hat
          rw [hat] at a4
          simp at a4
    · rw [if_pos rfl]
      refine ⟨⟨?_, ?_⟩, .inr ⟨g, cur, rfl, ?_, by omega, hcur2, ?_⟩⟩
      · simp only [nodeC]; rw [hKnew, HM]
      · simp only [nodeC]; rw [hKnew, HM]; exact hm
      · rintro (h | h)
        · exact hgX h
        · omega
      · have e9 : K' (nodeC nd (some ⟨g, 0, none⟩, m, c2)).ks = bs := hKnew
        intro j hj
        have hj2 : j < bs.length := by rw [← e9]; exact hj
        rw [hall j hj2]
        simp only [e9]
  · rcases hi with hi | rfl
    · rw [hf i hi, hKold i hi]; exact fun k hk => .inl (hS.sto.inX i hi k hk)
    · rw [if_pos rfl]; simp only [nodeC]; rw [hKnew]; exact fun k hk => .inl (hbs k hk)
  · rcases hi with hi | rfl
    · rw [hf i hi, hKold i hi]; exact hS.sto.arity i hi
    · rw [if_pos rfl]; simp only [nodeC]; rw [hKnew, HM, hk]
  · rcases hi with hi | rfl
    · rw [hf i hi, hKold i hi]; exact hS.sto.met i hi
    · rw [if_pos rfl]; exact fun h => absurd h h61
  · rcases hi with hi | rfl
    · rw [hf i hi]; exact hS.sto.low i hi
    · rw [if_pos rfl]; simp [nodeC]
  · rintro (h | h)
    · exact hS.sX h
    · have h9 : sb < w.heap.size := lt_of_cell hS.s0
      omega
  · rw [hK']; simp [hS.nil]
  · exact grow_node hbX hS.sto.cells.link hgc (by rw [hgb]; exact hbs) (fun i hi k hk => hS.sto.inX i hi k hk)

set_option maxRecDepth 20000 in
set_option maxHeartbeats 4000000 in
theorem take1_node (w : World) (sb mb n : Nat) (t lv : Int) (ok : (Int → DT) → Prop) (X : Nat → Prop) (f : Nat → CC) (lk : Nat → Option Nat) (d : Nat → Nat) (K : (Option Addr × Nat × Nat) → List Nat) (U : Int → Int → Option Nat) (D : DataW Value) (hS : Stor w sb mb n t X f lk d K U D) (sx lx : Nat) (nd : Nd) (h61 : nd.kind ≠ 61) (bs : List Nat) (m c : Nat) (HM : Hid (bs.length = m)) (hm : m ≤ 20000) (hk : nd.kids = (m : Int)) (hbs : ∀ b ∈ bs, X b) (ad : Addr) (hx : ∀ j u, (ptrs bs)[j]? = some u → w.cell? (ad.add j) = some u) :
    Calls Try.prog 58 #[.agg #[.int .i64 nd.kind, .int .i64 nd.num, .string nd.text, .int .i64 nd.kids, .int .i64 nd.place], .slice (some ad) m c, .pointer (some ⟨sx, 0, none⟩), .pointer (some ⟨lx, 0, none⟩)] w fun e w' => TRes w sb mb n t lv ok X f lk d K U nd bs e w' := by
  have hbA : Below w.heap.size w (w.alloc (.cells #[.int .i64 nd.kind, .int .i64 nd.num, .string nd.text, .int .i64 nd.kids, .int .i64 nd.place] 48)) := (Below.refl _ w).alloc (Nat.le_refl _) _
  have hxA : ∀ j u, (ptrs bs)[j]? = some u → (w.alloc (.cells #[.int .i64 nd.kind, .int .i64 nd.num, .string nd.text, .int .i64 nd.kids, .int .i64 nd.place] 48)).drew.cell? (ad.add j) = some u := by
    intro j u hj
    have h9 := hx j u hj
    have hl : (ad.add j).block < w.heap.size := by
      rcases h8 : ad.add j with ⟨b, o, sp⟩
      rw [h8] at h9
      have hsp : sp = none := World.cell?_spot h9
      subst hsp
      exact lt_of_cell h9
    rw [← h9]
    exact hbA.drew.cell hl
  have HCL := cloneP_any bs m HM (by omega) ad c _ hxA
  have k0 : (w.alloc (.cells #[.int .i64 nd.kind, .int .i64 nd.num, .string nd.text, .int .i64 nd.kids, .int .i64 nd.place] 48)).heap[w.heap.size]? = some (.cells #[.int .i64 nd.kind, .int .i64 nd.num, .string nd.text, .int .i64 nd.kids, .int .i64 nd.place] 48 (0, 0)) := heap_alloc_new _ _
  have hzA : (w.alloc (.cells #[.int .i64 nd.kind, .int .i64 nd.num, .string nd.text, .int .i64 nd.kids, .int .i64 nd.place] 48)).drew.heap.size = w.heap.size + 1 := World.size_alloc _ _
  have t61 : ((nd.kind : Int) == 61) = false := by simpa using h61
  have HL : Hid (∀ W, Below (w.alloc (.cells #[.int .i64 nd.kind, .int .i64 nd.num, .string nd.text, .int .i64 nd.kids, .int .i64 nd.place] 48)).drew.heap.size (w.alloc (.cells #[.int .i64 nd.kind, .int .i64 nd.num, .string nd.text, .int .i64 nd.kids, .int .i64 nd.place] 48)).drew W → W.cell? ⟨w.heap.size, 0, none⟩ = some (.int .i64 nd.kind) ∧ W.cell? ⟨w.heap.size, 1, none⟩ = some (.int .i64 nd.num) ∧ W.cell? ⟨w.heap.size, 2, none⟩ = some (.string nd.text) ∧ W.cell? ⟨w.heap.size, 3, none⟩ = some (.int .i64 nd.kids) ∧ W.cell? ⟨w.heap.size, 4, none⟩ = some (.int .i64 nd.place)) := by
    intro W hb
    have h9 := (hb.block w.heap.size (by omega)).trans k0
    refine ⟨?_, ?_, ?_, ?_, ?_⟩
    all_goals
      rw [cell_of_row _ _ _ _ 48 (0, 0) h9]
      rfl
  have HS : Hid (Stor w sb mb n t X f lk d K U D) := hS
  have HBD : Hid (Below w.heap.size w (w.alloc (.cells #[.int .i64 nd.kind, .int .i64 nd.num, .string nd.text, .int .i64 nd.kids, .int .i64 nd.place] 48)).drew) := hbA.drew
  have HKM : Hid (nd.kids = (m : Int)) := hk
  have HBS : Hid (∀ b ∈ bs, X b) := hbs
  clear hx hxA hS hbA hk hbs
  go_enter Try.func58, Try.ntmps58
  go_wp2_with fail
  go_region_with (go_at_call 60; refine HCL.mono ?_; rintro e w2 ⟨g, c2, cur, rfl, hg, hcur, hall, hb2⟩; obtain ⟨c0, c1, cc2, c3, c4⟩ := HL.out w2 hb2)
  all_goals
    have HT : Hid (TRes w sb mb n t lv ok X f lk d K U nd bs (.returned (.pointer (some ⟨w2.heap.size, 0, none⟩))) (w2.alloc (.cells #[.int .i64 0, .int .i64 nd.kind, .int .i64 nd.num, .string nd.text, .int .i64 nd.kids, .int .i64 nd.place, .slice (some ⟨g, 0, none⟩) m c2, .int .i64 0, .int .i64 0, .pointer none, .int .i64 0, .pointer none, .int .i64 0, .int .i64 0] 100))) := tres_node HS.out h61 HM.out hm HKM.out HBS.out (Below.step HBD.out hb2) (by omega) hcur hall
    clear HS HBD HL HCL hcur hall hb2 c0 c1 cc2 c3 c4 hzA k0
    simp only [Act.put, List.getElem_toArray, List.getElem_cons_succ, List.getElem_cons_zero, List.setIfInBounds_toArray, List.set_cons_zero, List.set_cons_succ]
    go_wp2
    go_ret
    exact HT.out

end Go.Proofs.Ytngomcicdcgldab

namespace Go.Proofs.Ytngomcicdcgldab
open Go.RowKit Go.Maps

/-- A store into a row of pointers that is no cell's kids. -/
theorem CSto.asideK {w w' : World} {X : Nat → Prop} {f : Nat → CC} {lk : Nat → Option Nat} {d : Nat → Nat} {K : (Option Addr × Nat × Nat) → List Nat} (h : CSto w X f lk d K) {g : Nat} (hb : But (· = g) w w') (hX : ¬ X g) (hk : ∀ i, X i → K (f i).ks = [] ∨ (f i).ks.1 ≠ some ⟨g, 0, none⟩) : CSto w' X f lk d K := by
  refine ⟨h.cells.but hb (fun b hx e => hX (e ▸ hx)), h.acyc, fun b hx => ?_, h.inX, h.arity, h.met, h.low⟩
  obtain ⟨h1, h2⟩ := h.rows b hx
  refine ⟨h1, ?_⟩
  rcases h2 with e | ⟨g', cur, a1, a2, a3, a4, a5⟩
  · exact .inl e
  · rcases hk b hx with e | hne
    · exact .inl e
    · have hne' : g' ≠ g := fun e => hne (by rw [a1, e])
      exact .inr ⟨g', cur, a1, a2, Nat.lt_of_lt_of_le a3 hb.size, (hb.block g' a3 hne').trans a4, a5⟩

theorem Stor.asideK {w w' : World} {sb mb n : Nat} {t : Int} {X : Nat → Prop} {f : Nat → CC} {lk : Nat → Option Nat} {d : Nat → Nat} {K : (Option Addr × Nat × Nat) → List Nat} {U : Int → Int → Option Nat} {D : DataW Value} (h : Stor w sb mb n t X f lk d K U D) {g : Nat} (hb : But (· = g) w w') (hX : ¬ X g) (hs : sb ≠ g) (hm : mb ≠ g) (hk : ∀ i, X i → K (f i).ks = [] ∨ (f i).ks.1 ≠ some ⟨g, 0, none⟩) : Stor w' sb mb n t X f lk d K U D :=
  ⟨h.sto.asideK hb hX hk, (hb.cellB (lt_of_cell h.s0) hs).trans h.s0, (hb.cellB (lt_of_cell h.s1) hs).trans h.s1, h.sX, ownsMap_but h.map hb hm, h.ud, h.inX, h.nil⟩

theorem TBox.but {w w' : World} {S : Nat → Prop} {sx lx sb : Nat} {lv : Int} (h : TBox w sx lx sb lv) (hb : But S w w') (h1 : ¬ S sx) (h2 : ¬ S lx) : TBox w' sx lx sb lv :=
  ⟨(hb.block sx (Array.getElem?_eq_some_iff.1 h.s).1 h1).trans h.s, (hb.block lx (Array.getElem?_eq_some_iff.1 h.l).1 h2).trans h.l⟩

/-- The stack of fold: cells, and the terms that they stand for. -/
structure Stack (w wr : World) (sb mb n B : Nat) (t lv : Int) (ok : (Int → DT) → Prop) (X : Nat → Prop) (f : Nat → CC) (lk : Nat → Option Nat) (d : Nat → Nat) (K : (Option Addr × Nat × Nat) → List Nat) (U : Int → Int → Option Nat) (L : Nat) (ty : List Nd) (k : Nat) (g c : Nat) (bs : List Nat) (A : List (List Nd)) (n' : Nat) (X' : Nat → Prop) (f' : Nat → CC) (K' : (Option Addr × Nat × Nat) → List Nat) (U' : Int → Int → Option Nat) (D' : DataW Value) (rt : List Nat) : Prop where
  own : wr.ownsRow B 55 1 (.slice (some ⟨g, 0, none⟩) bs.length c) bs.length (ptrs bs)
  len : A.length = bs.length
  made : A.flatten = ty.take k
  ones : ∀ x ∈ A, One x
  num : n' ≤ n + k
  stor : Stor wr sb mb n' t X' f' lk d K' U' D'
  grow : Grow lv ok X f lk K U X' f' lk K' U'
  inX : ∀ b ∈ bs, X' b
  mean : ∀ θ, Sat X' (gc K' f') lk θ → ∀ j (h1 : j < A.length) (h2 : j < bs.length), Ev (sg U' lv θ) A[j] (θ bs[j])
  known : ∀ x ∈ ty.take k, x.kind = 61 → ∃ b, U' lv x.num = some b
  free : ∀ i, X' i → K' (f' i).ks = [] ∨ (f' i).ks.1 ≠ some ⟨g, 0, none⟩
  roots : (∀ i, X' i → i ∈ rt) ∧ rt.length ≤ L + k
  old : But (fun i => i = mb ∨ B ≤ i) w wr
  base : B ≤ w.heap.size ∧ w.heap.size ≤ B ∧ sb < B ∧ mb < B
  src : ∀ x c, U' lv x = some c → U lv x = some c ∨ ∃ y ∈ ty.take k, y.kind = 61 ∧ y.num = x
  leaf : ∀ y ∈ ty.take k, y.kind = 61 → U lv y.num = none → ∃ b, U' lv y.num = some b ∧ gc K' f' b = ⟨y, [], decide (1 ≤ lv)⟩ ∧ lk b = none ∧ X' b
  fresh : ∀ i, X' i → X i ∨ B ≤ i

theorem sg_keep {lv : Int} {ok : (Int → DT) → Prop} {X X' : Nat → Prop} {f f' : Nat → CC} {lk lk' : Nat → Option Nat} {K K' : (Option Addr × Nat × Nat) → List Nat} {U U' : Int → Int → Option Nat} (h : Grow lv ok X f lk K U X' f' lk' K' U') {θ : Nat → DT} {xs : List Nd} {dd : DT} (hk : ∀ x ∈ xs, x.kind = 61 → ∃ b, U lv x.num = some b) (he : Ev (sg U lv θ) xs dd) : Ev (sg U' lv θ) xs dd := by
  refine he.congr (fun n hn h61 => ?_)
  obtain ⟨b, hb⟩ := hk n hn h61
  unfold sg
  rw [hb, h.keep lv n.num b hb]

theorem wt_flatten : ∀ {A : List (List Nd)}, (∀ x ∈ A, One x) → wt A.flatten = (A.length : Int) := by
  intro A
  induction A with
  | nil => intro _; rfl
  | cons a A ih =>
    intro h
    rw [List.flatten_cons, wt_append, (h a (by simp)).wt, ih (fun x hx => h x (by simp [hx]))]
    simp
    omega

theorem ones_len : ∀ {A : List (List Nd)}, (∀ x ∈ A, One x) → A.length ≤ A.flatten.length := by
  intro A
  induction A with
  | nil => intro _; simp
  | cons a A ih =>
    intro h
    have h1 := List.length_pos_iff.2 (h a (by simp)).ne
    have h2 := ih (fun x hx => h x (by simp [hx]))
    simp only [List.flatten_cons, List.length_append, List.length_cons]
    omega

theorem fold_kids {ty : List Nd} {m k : Nat} {S ys : List Sp} (h : after ty m = some (S, ys)) (hk : k < m) (hkl : k < ty.length) {A : List (List Nd)} (ho : ∀ x ∈ A, One x) (hA : A.flatten = ty.take k) : 0 ≤ ty[k].kids ∧ ty[k].kids ≤ (A.length : Int) := by
  have hm := after_le h
  have h1 : ∃ S1 ys1, after ty (k + 1) = some (S1, ys1) := by
    obtain ⟨S1, h1⟩ := after_part h (k + 1) (by omega)
    exact ⟨S1, _, h1⟩
  obtain ⟨S1, ys1, h1⟩ := h1
  obtain ⟨S0, ys0, s, hk', ha, hs, _⟩ := after_inv h1
  obtain ⟨h2, h3, _, _⟩ := step_some hs
  have h4 := after_wt ha
  rw [← hA, wt_flatten ho] at h4
  exact ⟨h2, by omega⟩

theorem ptr_cells (w : World) (b : Nat) : ∀ j u, (ptrs [b])[j]? = some u → (w.alloc (.cells #[.pointer (some ⟨b, 0, none⟩)] 55)).cell? (Addr.add ⟨w.heap.size, 0, none⟩ j) = some u := by
  intro j u hj
  rw [add0, cell_of_row _ w.heap.size j _ 55 (0, 0) (heap_alloc_new _ _), ← hj]
  simp [ptrs]

theorem stack_next {w wr W w4 w5 : World} {sb mb n B : Nat} {t lv : Int} {ok : (Int → DT) → Prop} {X : Nat → Prop} {f : Nat → CC} {lk : Nat → Option Nat} {d : Nat → Nat} {K : (Option Addr × Nat × Nat) → List Nat} {U : Int → Int → Option Nat} {L : Nat} {ty : List Nd} {k g c : Nat} {bs : List Nat} {A : List (List Nd)} {n' : Nat} {X' : Nat → Prop} {f' : Nat → CC} {K' : (Option Addr × Nat × Nat) → List Nat} {U' : Int → Int → Option Nat} {D' : DataW Value} {rt : List Nat}
    (hst : Stack w wr sb mb n B t lv ok X f lk d K U L ty k g c bs A n' X' f' K' U' D' rt) (hk : k < ty.length) {nd : Nd} (hnd : ty[k] = nd) (hL : Leafy ty) (hUQ : ∀ a ∈ ty, ∀ b ∈ ty, a.kind = 61 → b.kind = 61 → a.num = b.num → a = b) {kd fi : Nat} (hkd : nd.kids = (kd : Int)) (hfi : bs.length = fi + kd) (hW : Below wr.heap.size wr W) {b : Nat}
    (hres : TRes W sb mb n' t lv ok X' f' lk d K' U' nd (bs.drop fi) (.returned (.pointer (some ⟨b, 0, none⟩))) w4) {g5 c5 : Nat} (hown5 : w5.ownsRow B 55 1 (.slice (some ⟨g5, 0, none⟩) (fi + 1) c5) (fi + 1) (ptrs (bs.take fi) ++ ptrs [b]))
    (hgrow5 : (w4.alloc (.cells #[.pointer (some ⟨b, 0, none⟩)] 55)).grownBy w5 (some g)) (hwh : g5 = g ∨ g5 = (w4.alloc (.cells #[.pointer (some ⟨b, 0, none⟩)] 55)).heap.size) :
    ∃ n2 X2 f2 K2 U2 D2 rt2, Stack w w5 sb mb n B t lv ok X f lk d K U L ty (k + 1) g5 c5 (bs.take fi ++ [b]) (A.take fi ++ [(A.drop fi).flatten ++ [nd]]) n2 X2 f2 K2 U2 D2 rt2 := by
  obtain ⟨b', n2, X2, f2, K2, U2, D2, he, hn2, hS2, hG2, hXb, hsub2, hB2, hmeta, hnode, hks2, hfr2, hleaf2, hsrc2, hnew2⟩ := hres
  simp only [Ending.returned.injEq, Value.pointer.injEq, Option.some.injEq, Addr.mk.injEq, and_true] at he
  subst he
  obtain ⟨B1, B2, B3, B4⟩ := hst.base
  have hob := owns_block hst.own
  have hgm : g ≠ mb := by omega
  have howW := owns_but hst.own (But.ofBelow (S := fun _ => False) hW) (fun h => h)
  have how4 := owns_but howW hB2 hgm
  have hbA : Below w4.heap.size w4 (w4.alloc (.cells #[.pointer (some ⟨b, 0, none⟩)] 55)) := (Below.refl _ _).alloc (Nat.le_refl _) _
  have hS3 := hS2.below hbA
  have how3 := how4.alloc (.cells #[.pointer (some ⟨b, 0, none⟩)] 55)
  have hb5 := but_grown hgrow5
  obtain ⟨_, cur, hcur⟩ := owns_tag how3
  have hgX : ¬ X2 g := by
    intro h
    have h9 := hS3.sto.cells.at' g h
    unfold CellAt at h9
    rw [hcur] at h9
    simp at h9
  have hfree : ∀ i, X2 i → K2 (f2 i).ks = [] ∨ (f2 i).ks.1 ≠ some ⟨g, 0, none⟩ := by
    have old : ∀ i, X' i → K2 (f2 i).ks = [] ∨ (f2 i).ks.1 ≠ some ⟨g, 0, none⟩ := by
      intro i hi
      have e1 : K2 (f2 i).ks = K' (f' i).ks := congrArg GC.ks (hG2.same i hi)
      rw [e1, hks2 i hi]
      exact hst.free i hi
    intro i hi
    rcases hsub2 i hi with hi' | rfl
    · exact old i hi'
    · rcases hfr2 with h9 | h9
      · exact old i h9
      · exact h9 g (by have := hW.size; omega)
  have hS5 := hS3.asideK hb5 hgX (by omega) (by omega) hfree
  have hlA : A.length = fi + kd := by rw [hst.len, hfi]
  have htk : ty.take (k + 1) = ty.take k ++ [nd] := by rw [List.take_succ_eq_append_getElem hk, hnd]
  have hnl : nd.kind = 61 → kd = 0 := by
    intro h61
    have h9 := hL nd (by rw [← hnd]; exact List.getElem_mem hk) h61
    omega
  have hfl : (bs.take fi).length = fi := by simp; omega
  have hknown : ∀ x ∈ ty.take (k + 1), x.kind = 61 → ∃ b, U2 lv x.num = some b := by
    intro x hx h61
    rw [htk] at hx
    rcases List.mem_append.1 hx with hx | hx
    · obtain ⟨c, hc⟩ := hst.known x hx h61
      exact ⟨c, hG2.keep _ _ _ hc⟩
    · simp at hx
      subst hx
      exact ⟨b, hmeta h61⟩
  have hsubA : ∀ j (h : j < A.length), ∀ x ∈ A[j], x ∈ ty.take k := by
    intro j h x hx
    rw [← hst.made]
    exact List.mem_flatten.2 ⟨_, List.getElem_mem h, hx⟩
  have hmemT : ∀ y ∈ ty.take k, y ∈ ty := fun y hy => List.mem_of_mem_take hy
  have hndm : nd ∈ ty := by rw [← hnd]; exact List.getElem_mem hk
  have hsrcN : ∀ x c, U2 lv x = some c → U lv x = some c ∨ ∃ y ∈ ty.take (k + 1), y.kind = 61 ∧ y.num = x := by
    intro x c h
    rcases hsrc2 x c h with h9 | ⟨h9, rfl⟩
    · rcases hst.src x c h9 with h8 | ⟨y, hy, h7⟩
      · exact .inl h8
      · exact .inr ⟨y, by rw [htk]; exact List.mem_append_left _ hy, h7⟩
    · exact .inr ⟨nd, by rw [htk]; simp, h9, rfl⟩
  have hleafO : ∀ y ∈ ty.take k, y.kind = 61 → U lv y.num = none → ∃ b, U2 lv y.num = some b ∧ gc K2 f2 b = ⟨y, [], decide (1 ≤ lv)⟩ ∧ lk b = none ∧ X2 b := by
    intro y hy h61 hu
    obtain ⟨b9, h1, h2, h3, h4⟩ := hst.leaf y hy h61 hu
    exact ⟨b9, hG2.keep _ _ _ h1, by rw [hG2.same b9 h4]; exact h2, h3, hG2.sub b9 h4⟩
  have hleafN : ∀ y ∈ ty.take (k + 1), y.kind = 61 → U lv y.num = none → ∃ b, U2 lv y.num = some b ∧ gc K2 f2 b = ⟨y, [], decide (1 ≤ lv)⟩ ∧ lk b = none ∧ X2 b := by
    intro y hy h61 hu
    rw [htk] at hy
    rcases List.mem_append.1 hy with hy | hy
    · exact hleafO y hy h61 hu
    · simp at hy
      subst hy
      cases e9 : U' lv y.num with
      | none =>
        obtain ⟨h1, h2⟩ := hleaf2 h61 e9
        exact ⟨b, hmeta h61, h1, h2, hXb⟩
      | some c9 =>
        rcases hst.src _ _ e9 with h8 | ⟨z, hz, hz61, hzn⟩
        · rw [hu] at h8; cases h8
        · have e8 := hUQ z (hmemT z hz) y hndm hz61 h61 hzn
          subst e8
          exact hleafO z hz h61 hu
  have hfreshN : ∀ i, X2 i → X i ∨ B ≤ i := by
    intro i hi
    rcases hsub2 i hi with h9 | rfl
    · exact hst.fresh i h9
    · rcases hnew2 with h9 | h9
      · exact hst.fresh i h9
      · have h1 := hW.size
        have h2 := hst.old.size
        exact .inr (by omega)
  refine ⟨n2, X2, f2, K2, U2, D2, b :: rt, ⟨?_, ?_, ?_, ?_, ?_, hS5, hst.grow.trans hG2 hst.stor.inX, ?_, ?_, hknown, ?_, ?_, ?_, hst.base, hsrcN, hleafN, hfreshN⟩⟩
  · have e1 : (bs.take fi ++ [b]).length = fi + 1 := by simp; omega
    have e2 : ptrs (bs.take fi ++ [b]) = ptrs (bs.take fi) ++ ptrs [b] := by simp [ptrs]
    rw [e1, e2]
    exact hown5
  · simp; omega
  · rw [List.flatten_append]
    simp only [List.flatten_cons, List.flatten_nil, List.append_nil]
    rw [← List.append_assoc, ← List.flatten_append, List.take_append_drop, hst.made, htk]
  · intro x hx
    rcases List.mem_append.1 hx with hx | hx
    · exact hst.ones x (List.mem_of_mem_take hx)
    · simp only [List.mem_cons, List.not_mem_nil, or_false] at hx
      subst hx
      refine One.join (fun y hy => hst.ones y (List.mem_of_mem_drop hy)) ?_
      rw [hkd, List.length_drop]
      omega
  · have := hst.num; omega
  · intro x hx
    rcases List.mem_append.1 hx with hx | hx
    · exact hG2.sub x (hst.inX x (List.mem_of_mem_take hx))
    · simp only [List.mem_cons, List.not_mem_nil, or_false] at hx
      subst hx
      exact hXb
  · intro θ hs j h1 h2
    have hs' := hG2.back hs
    have hm : ∀ j (h1 : j < A.length) (h2 : j < bs.length), Ev (sg U2 lv θ) A[j] (θ bs[j]) := by
      intro j h1 h2
      exact sg_keep hG2 (fun x hx h61 => hst.known x (hsubA j h1 x hx) h61) (hst.mean θ hs' j h1 h2)
    by_cases hj : j < fi
    · have e1 : (A.take fi ++ [(A.drop fi).flatten ++ [nd]])[j] = A[j]'(by omega) := by
        rw [List.getElem_append_left (by simp; omega), List.getElem_take]
      have e2 : (bs.take fi ++ [b])[j] = bs[j]'(by omega) := by
        rw [List.getElem_append_left (by simp; omega), List.getElem_take]
      rw [e1, e2]
      exact hm j (by omega) (by omega)
    · have hjf : j = fi := by simp at h2; omega
      subst hjf
      have e1 : (A.take j ++ [(A.drop j).flatten ++ [nd]])[j] = (A.drop j).flatten ++ [nd] := by
        rw [List.getElem_append_right (by simp; omega)]
        simp
      have e2 : (bs.take j ++ [b])[j] = b := by
        rw [List.getElem_append_right (by simp; omega)]
        simp
      rw [e1, e2]
      by_cases h61 : nd.kind = 61
      · have hk0 := hnl h61
        have hd : A.drop j = [] := List.drop_of_length_le (by omega)
        rw [hd]
        simp only [List.flatten_nil, List.nil_append]
        have e9 : sg U2 lv θ nd = θ b := by unfold sg; rw [hmeta h61]
        rw [← e9]
        exact Ev.leaf nd h61 (by omega)
      · obtain ⟨hgc, hlk⟩ := hnode h61
        have h9 := hs.2 b hXb hlk (by rw [hgc])
        rw [hgc] at h9
        simp only at h9
        rw [h9]
        refine Ev.node nd h61 (A.drop j) _ (by rw [hkd]; simp; omega) (by simp; omega) (fun i a1 a2 => ?_)
        simp only [List.length_drop] at a1
        simp only [List.getElem_map, List.getElem_drop]
        exact hm (j + i) (by omega) (by omega)
  · intro i hi
    rcases hwh with rfl | rfl
    · exact hfree i hi
    · obtain ⟨_, r2⟩ := hS3.sto.rows i hi
      rcases r2 with e | ⟨g', cur', a1, _, a3, _⟩
      · exact .inl e
      · right
        rw [a1]
        simp only [ne_eq, Option.some.injEq, Addr.mk.injEq, and_true]
        omega
  · refine ⟨fun i hi => ?_, by have := hst.roots.2; simp; omega⟩
    rcases hsub2 i hi with h9 | rfl
    · exact List.mem_cons_of_mem _ (hst.roots.1 i h9)
    · exact List.mem_cons_self
  · refine hst.old.trans ((But.ofBelow hW).trans ((hB2.mono (fun i h => .inl h)).trans ((But.ofBelow hbA).trans (hb5.mono (fun i h => .inr (by omega))))))

set_option maxRecDepth 20000 in
set_option maxHeartbeats 8000000 in
theorem fold_any (w : World) (sb mb n : Nat) (hn : n ≤ 500000) (t lv : Int) (ok : (Int → DT) → Prop) (X : Nat → Prop) (f : Nat → CC) (lk : Nat → Option Nat) (d : Nat → Nat) (K : (Option Addr × Nat × Nat) → List Nat) (U : Int → Int → Option Nat) (D : DataW Value) (hS : Stor w sb mb n t X f lk d K U D) (sx lx : Nat) (hT : TBox w sx lx sb lv) (w1 : (Lit.int .i64 lv).wf = true) (hlv0 : lv = 0 ∨ lv = 1)
    (ty : List Nd) (m : Nat) (HM : Hid (ty.length = m)) (hm : m ≤ 300) (hm0 : 0 < m) (HW : Hid (∀ x ∈ ty, (Lit.int .i64 x.num).wf = true)) (HL : Hid (Leafy ty)) (HUQ : Hid (∀ a ∈ ty, ∀ b ∈ ty, a.kind = 61 → b.kind = 61 → a.num = b.num → a = b)) (S : List Sp) (ys : List Sp) (HA : Hid (after ty m = some (S, ys))) (hS1 : S.length = 1) (HOK : Hid (∀ ρ, ok ρ → lv = 0 → ∀ x ∈ ty, x.kind = 61 → ρ x.num = selfT x)) (L : Nat) (rt : List Nat) (hrt : (∀ i, X i → i ∈ rt) ∧ rt.length ≤ L) (ao : Option Addr) (cap : Nat) (hx : Nodes w ao ty) :
    Calls Try.prog 57 #[.slice ao m cap, .func (.func 58) #[] #[.pointer (some ⟨sx, 0, none⟩), .pointer (some ⟨lx, 0, none⟩)]] w fun e w' => ∃ g c b n' X' f' K' U' D' rt', e = .returned (.pointer (some ⟨b, 0, none⟩)) ∧ Stack w w' sb mb n w.heap.size t lv ok X f lk d K U L ty m g c [b] [ty] n' X' f' K' U' D' rt' := by
  obtain ⟨i0, hi, hz0, hz1, hz2⟩ := info_parts Try.infoCP
  go_enter Try.func57, Try.ntmps57
  go_wp2
  have hO0 : (w.alloc (.cells #[] 55)).ownsRow w.heap.size 55 1 (.slice (some ⟨w.heap.size, 0, none⟩) 0 0) 0 [] := ⟨rfl, Or.inr ⟨_, 0, #[], rfl, Nat.le_refl _, heap_alloc_new _ _, Nat.le_refl _, by simp [maxLen], rfl, rfl⟩⟩
  have hb0 : Below w.heap.size w (w.alloc (.cells #[] 55)) := (Below.refl _ w).alloc (Nat.le_refl _) _
  have HST0 : Hid (Stack w (w.alloc (.cells #[] 55)) sb mb n w.heap.size t lv ok X f lk d K U L ty 0 w.heap.size 0 [] [] n X f K U D rt) := by
    refine ⟨hO0, rfl, rfl, by simp, by omega, hS.below hb0, Grow.refl hS.sto.cells.link, by simp, fun θ _ j h1 => by simp at h1, by simp, fun i hi => ?_, ⟨hrt.1, by omega⟩, But.ofBelow hb0, ⟨Nat.le_refl _, Nat.le_refl _, lt_of_cell hS.s0, hS.map.lt⟩, fun x c h => .inl h, by simp, fun i hi => .inl hi⟩
    obtain ⟨_, r2⟩ := hS.sto.rows i hi
    rcases r2 with e | ⟨g', cur, a1, _, a3, _⟩
    · exact .inl e
    · right
      rw [a1]
      simp only [ne_eq, Option.some.injEq, Addr.mk.injEq, and_true]
      omega
  have HTB : Hid (TBox w sx lx sb lv) := hT
  have HX : Hid (Nodes w ao ty) := hx
  have HSL : Hid (sb < w.heap.size ∧ mb < w.heap.size ∧ ∀ i, X i → i < w.heap.size) := ⟨lt_of_cell hS.s0, hS.map.lt, fun i hi => (hS.sto.cells.at' i hi).lt⟩
  have HMX : Hid (sx ≠ mb ∧ lx ≠ mb ∧ sx < w.heap.size ∧ lx < w.heap.size) := by
    obtain ⟨es, clock, h1, _⟩ := hS.map
    refine ⟨?_, ?_, (Array.getElem?_eq_some_iff.1 hT.s).1, (Array.getElem?_eq_some_iff.1 hT.l).1⟩
    · rintro rfl
      rw [hT.s] at h1
      cases h1
    · rintro rfl
      rw [hT.l] at h1
      cases h1
  have HMAP : Hid (∃ es clock, w.heap[mb]? = some (.map es clock)) := by
    obtain ⟨es, clock, h1, _⟩ := hS.map
    exact ⟨es, clock, h1⟩
  clear hO0 hb0 hT hx hS
  go_loopw [5, 12] (fun v i wr => ∃ (k g c : Nat) (bs : List Nat) (A : List (List Nd)) (n' : Nat) (X' : Nat → Prop) (f' : Nat → CC) (K' : (Option Addr × Nat × Nat) → List Nat) (U' : Int → Int → Option Nat) (D' : DataW Value) (rt' : List Nat), k ≤ m ∧ i = .int .i64 (k : Int) ∧ v = .slice (some ⟨g, 0, none⟩) bs.length c ∧ Stack w wr sb mb n w.heap.size t lv ok X f lk d K U L ty k g c bs A n' X' f' K' U' D' rt') (fun _ i _ => m - (intOf i).toNat)
  case atStart => exact ⟨0, w.heap.size, 0, [], [], n, X, f, K, U, D, rt, Nat.zero_le _, rfl, rfl, HST0.out⟩
  case round =>
    clear HST0
    obtain ⟨k, g, c, bs, A, n', X', f', K', U', D', rt', hk, rfl, rfl, hst⟩ := hrel
    have HST : Hid (Stack w wr sb mb n w.heap.size t lv ok X f lk d K U L ty k g c bs A n' X' f' K' U' D' rt') := hst
    clear hst
    by_cases hlt : k < m
    · have hltx : k < ty.length := by have := HM.out; omega
      obtain ⟨hk0, hkA⟩ := fold_kids HA.out hlt hltx HST.out.ones HST.out.made
      rw [HST.out.len] at hkA
      obtain ⟨nd, hnd⟩ : ∃ x, ty[k] = x := ⟨_, rfl⟩
      rw [hnd] at hk0 hkA
      obtain ⟨kd, hkd⟩ : ∃ kd : Nat, nd.kids = (kd : Int) := ⟨nd.kids.toNat, by omega⟩
      obtain ⟨fi, hfi⟩ : ∃ fi, bs.length = fi + kd := ⟨bs.length - kd, by omega⟩
      have hoB := HST.out.old
      obtain ⟨l1, l2, l3⟩ := HSL.out
      obtain ⟨bb, oo, rfl, hcx⟩ := HX.out k hltx
      rw [hnd] at hcx
      have hnode : NodeAt wr bb (oo + k * 5) nd := by
        obtain ⟨c0, c1, c2, c3, c4⟩ := hcx
        have hbl : bb < w.heap.size := lt_of_cell c0
        have hbm : ¬ (bb = mb ∨ w.heap.size ≤ bb) := by
          rintro (e | e)
          · subst e
            obtain ⟨es, clock, h1⟩ := HMAP.out
            rw [World.cell?] at c0
            simp [h1] at c0
          · omega
        exact ⟨(hoB.cellB hbl hbm).trans c0, (hoB.cellB hbl hbm).trans c1, (hoB.cellB hbl hbm).trans c2, (hoB.cellB hbl hbm).trans c3, (hoB.cellB hbl hbm).trans c4⟩
      obtain ⟨c0, c1, c2, c3, c4⟩ := hnode
      have hlb : bb < wr.heap.size := lt_of_cell c0
      obtain ⟨hlc, cur, hcur⟩ := owns_tag HST.out.own
      have hob := owns_block HST.out.own
      rw [hkd] at c3
      have HKD : Hid (nd.kids = (kd : Int)) := hkd
      obtain ⟨l, hl⟩ : ∃ l, bs.length = l := ⟨_, rfl⟩
      have HLB : Hid (bs.length = l) := hl
      rw [hl] at hfi hlc ⊢
      have hfl : fi ≤ l := by omega
      have hfc : fi ≤ c := by omega
      have hsub : (l : Int) - (kd : Int) = (fi : Int) := by omega
      have h300 : l ≤ 300 := by
        have h1 := ones_len HST.out.ones
        rw [HST.out.made, HST.out.len, HLB.out] at h1
        simp at h1
        omega
      have hle : (fi : Int) ≤ (fi : Int) + (kd : Int) := by omega
      have hNB : Obj.cells #[.int .i64 nd.kind, .int .i64 nd.num, .string nd.text, .int .i64 nd.kids, .int .i64 nd.place] 48 = (Obj.cells #[.int .i64 nd.kind, .int .i64 nd.num, .string nd.text, .int .i64 (kd : Int), .int .i64 nd.place] 48) := by rw [HKD.out]
      have hbW : Below wr.heap.size wr (wr.alloc (.cells #[.int .i64 nd.kind, .int .i64 nd.num, .string nd.text, .int .i64 nd.kids, .int .i64 nd.place] 48)).drew := ((Below.refl _ wr).alloc (Nat.le_refl _) _).drew
      have hmem : nd ∈ ty := by rw [← hnd]; exact List.getElem_mem hltx
      have hlfw : nd.kind = 61 → nd.kids = 0 := HL.out nd hmem
      have HCALL : Hid (Calls Try.prog 58 #[.agg #[.int .i64 nd.kind, .int .i64 nd.num, .string nd.text, .int .i64 (kd : Int), .int .i64 nd.place], .slice (if c = fi then some ⟨g, 0, none⟩ else some ⟨g, fi, none⟩) kd (c - fi), .pointer (some ⟨sx, 0, none⟩), .pointer (some ⟨lx, 0, none⟩)] (wr.alloc (.cells #[.int .i64 nd.kind, .int .i64 nd.num, .string nd.text, .int .i64 (kd : Int), .int .i64 nd.place] 48)).drew fun e w' => ∃ b, e = .returned (.pointer (some ⟨b, 0, none⟩)) ∧ TRes (wr.alloc (.cells #[.int .i64 nd.kind, .int .i64 nd.num, .string nd.text, .int .i64 (kd : Int), .int .i64 nd.place] 48)).drew sb mb n' t lv ok X' f' lk d K' U' nd (bs.drop fi) (.returned (.pointer (some ⟨b, 0, none⟩))) w') := by
        have key : Calls Try.prog 58 #[.agg #[.int .i64 nd.kind, .int .i64 nd.num, .string nd.text, .int .i64 nd.kids, .int .i64 nd.place], .slice (if c = fi then some ⟨g, 0, none⟩ else some ⟨g, fi, none⟩) kd (c - fi), .pointer (some ⟨sx, 0, none⟩), .pointer (some ⟨lx, 0, none⟩)] (wr.alloc (.cells #[.int .i64 nd.kind, .int .i64 nd.num, .string nd.text, .int .i64 nd.kids, .int .i64 nd.place] 48)).drew fun e w' => TRes (wr.alloc (.cells #[.int .i64 nd.kind, .int .i64 nd.num, .string nd.text, .int .i64 nd.kids, .int .i64 nd.place] 48)).drew sb mb n' t lv ok X' f' lk d K' U' nd (bs.drop fi) e w' := by
          have hSW := HST.out.stor.below hbW
          have hnn := HST.out.num
          by_cases h61 : nd.kind = 61
          · obtain ⟨e1, e2, e3, e4⟩ := HMX.out
            have hTW := (HTB.out.but HST.out.old (by rintro (h | h); exact e1 h; omega) (by rintro (h | h); exact e2 h; omega)).but (But.ofBelow (S := fun _ => False) hbW) (fun h => h) (fun h => h)
            exact take1_meta _ sb mb n' (by omega) t lv ok X' f' lk d K' U' D' hSW sx lx hTW nd w1 (by omega) (HW.out nd hmem) h61 (hlfw h61) (fun ρ hρ h0 => HOK.out ρ hρ h0 nd hmem h61) hlv0 (bs.drop fi) _ kd (c - fi)
          · have hdl : (bs.drop fi).length = kd := by simp; have := HLB.out; omega
            have hbsX : ∀ b ∈ bs.drop fi, X' b := fun b hb => HST.out.inX b (List.mem_of_mem_drop hb)
            by_cases hcf : c = fi
            · rw [if_pos hcf]
              have hk0 : kd = 0 := by omega
              refine take1_node _ sb mb n' t lv ok X' f' lk d K' U' D' hSW sx lx nd h61 (bs.drop fi) kd (c - fi) hdl (by omega) HKD.out hbsX ⟨g, 0, none⟩ (fun j u hj => ?_)
              have : bs.drop fi = [] := List.eq_nil_of_length_eq_zero (by omega)
              rw [this] at hj
              simp [ptrs] at hj
            · rw [if_neg hcf]
              refine take1_node _ sb mb n' t lv ok X' f' lk d K' U' D' hSW sx lx nd h61 (bs.drop fi) kd (c - fi) hdl (by omega) HKD.out hbsX ⟨g, fi, none⟩ (fun j u hj => ?_)
              have hj9 : j < kd := by
                have := (List.getElem?_eq_some_iff.1 hj).1
                simp only [ptrs, List.length_map] at this
                omega
              have ead : Addr.add ⟨g, fi, none⟩ j = ⟨g, fi + j, none⟩ := by
                unfold Addr.add
                split
                · simp_all
                · rfl
              rw [ead]
              have h9 := owns_at (owns_but HST.out.own (But.ofBelow (S := fun _ => False) hbW) (fun h => h)) (fi + j) (by have := HLB.out; omega)
              rw [h9]
              simp only [ptrs, List.getElem?_map, List.getElem?_drop] at hj ⊢
              exact hj
        rw [hNB, HKD.out] at key
        refine key.mono ?_
        rintro e w' hr
        obtain ⟨b, hr2⟩ := hr
        obtain ⟨n2, X2, f2, K2, U2, D2, rfl, hr3⟩ := hr2
        exact ⟨b, rfl, b, n2, X2, f2, K2, U2, D2, rfl, hr3⟩
      have HBW : Hid (Below wr.heap.size wr (wr.alloc (.cells #[.int .i64 nd.kind, .int .i64 nd.num, .string nd.text, .int .i64 (kd : Int), .int .i64 nd.place] 48)).drew) := by
        rw [hNB] at hbW
        exact hbW
      have hgm : g ≠ mb := by omega
      have HOWN : Hid (∀ w', But (· = mb) (wr.alloc (.cells #[.int .i64 nd.kind, .int .i64 nd.num, .string nd.text, .int .i64 (kd : Int), .int .i64 nd.place] 48)).drew w' → w'.ownsRow w.heap.size 55 1 (.slice (some ⟨g, 0, none⟩) fi c) fi (ptrs (bs.take fi)) ∧ w.heap.size ≤ w'.heap.size) := by
        intro w' hb'
        have h1 := owns_but HST.out.own (But.ofBelow (S := fun _ => False) HBW.out) (fun h => h)
        have h2 := owns_but h1 hb' hgm
        have h3 := owns_take h2 fi (by have := HLB.out; omega)
        have e9 : (ptrs bs).take (fi * 1) = ptrs (bs.take fi) := by rw [Nat.mul_one]; simp [ptrs, List.map_take]
        rw [e9] at h3
        have h4 := hb'.size
        have h5 := HBW.out.size
        exact ⟨h3, by omega⟩
      have HND : Hid (ty[k] = nd) := hnd
      have HFI : Hid (bs.length = fi + kd) := by rw [Hid, HLB.out]; exact hfi
      clear hcx hoB hkd hl hnd hNB hbW hmem hlfw
      go_wp2_with fail
      go_region_law (first
        | (go_simp; refine HCALL.out.mono ?_; rintro e w4 ⟨b, rfl, hres⟩; have hB4 : But (· = mb) (wr.alloc (.cells #[.int .i64 nd.kind, .int .i64 nd.num, .string nd.text, .int .i64 (kd : Int), .int .i64 nd.place] 48)).drew w4 := (by obtain ⟨_, _, _, _, _, _, _, _, _, _, _, _, _, h9, _⟩ := hres; exact h9); obtain ⟨how4, hsz4⟩ := HOWN.out w4 hB4; have how5 := how4.alloc (.cells #[.pointer (some ⟨b, 0, none⟩)] 55); have hpc := ptr_cells w4 b)
        | (refine step_append2 _ rfl (.tmp 23) (.tmp 30) 96 rfl w.heap.size 55 i0 _ 1 8 Try.underlying96 hi hz0 hz1 hz2 rfl (by decide) g fi c _ rfl how5 ⟨_, 0, none⟩ 1 1 (ptrs [b]) rfl rfl hpc (ptrs_one _) ?_ ?_ ?_ ?_; (unfold maxLen; omega); omega; ((try simp); omega); intro g5 c5 w5 hown5 hgrow5 hwh))
      all_goals
        have HN : Hid (∃ n2 X2 f2 K2 U2 D2 rt2, Stack w w5 sb mb n w.heap.size t lv ok X f lk d K U L ty (k + 1) g5 c5 (bs.take fi ++ [b]) (A.take fi ++ [(A.drop fi).flatten ++ [nd]]) n2 X2 f2 K2 U2 D2 rt2) := stack_next HST.out hltx HND.out HL.out HUQ.out HKD.out HFI.out HBW.out hres hown5 hgrow5 hwh
        have hlen : fi + 1 = (bs.take fi ++ [b]).length := by
          simp
          have := HFI.out
          omega
        clear hown5 hgrow5 hwh how4 how5 hpc hB4 hres HOWN HBW HCALL HST hcur hob c0 c1 c2 c3 c4
        simp only [Act.put, List.getElem_toArray, List.getElem_cons_succ, List.getElem_cons_zero, List.setIfInBounds_toArray, List.set_cons_zero, List.set_cons_succ]
        obtain ⟨n2, X2, f2, K2, U2, D2, rt2, hnx⟩ := HN.out
        go_wp2
        go_roundw
        case rel => exact ⟨k + 1, g5, c5, bs.take fi ++ [b], _, n2, X2, f2, K2, U2, D2, rt2, by omega, by go_num, by rw [← hlen], hnx⟩
        case measure => simp [intOf]; omega
    · obtain rfl : k = m := by omega
      have hAl : A.length = 1 := by
        have h1 := after_wt HA.out
        rw [← HST.out.made, wt_flatten HST.out.ones] at h1
        omega
      have hbl : bs.length = 1 := by rw [← HST.out.len]; exact hAl
      obtain ⟨a, rfl⟩ : ∃ a, A = [a] := List.length_eq_one_iff.1 hAl
      obtain ⟨b, rfl⟩ : ∃ b, bs = [b] := List.length_eq_one_iff.1 hbl
      have ha : a = ty := by
        have h1 := HST.out.made
        rw [List.take_of_length_le (by have := HM.out; omega)] at h1
        simpa using h1
      subst ha
      have q0 : wr.cell? ⟨g, 0, none⟩ = some (.pointer (some ⟨b, 0, none⟩)) := by
        have h9 := owns_at HST.out.own 0 (by simp)
        rw [h9]
        rfl
      go_wp2
      go_ret
      exact ⟨g, c, b, n', X', f', K', U', D', rt', rfl, HST.out⟩

end Go.Proofs.Ytngomcicdcgldab

namespace Go.Proofs.Ytngomcicdcgldab
open Go.RowKit Go.Maps

/-- What take leaves. -/
structure Taken (w w' : World) (sb mb n : Nat) (t lv : Int) (ok : (Int → DT) → Prop) (X : Nat → Prop) (f : Nat → CC) (lk : Nat → Option Nat) (d : Nat → Nat) (K : (Option Addr × Nat × Nat) → List Nat) (U : Int → Int → Option Nat) (L : Nat) (ty : List Nd) (b n' : Nat) (X' : Nat → Prop) (f' : Nat → CC) (K' : (Option Addr × Nat × Nat) → List Nat) (U' : Int → Int → Option Nat) (D' : DataW Value) (rt : List Nat) : Prop where
  num : n' ≤ n + ty.length
  stor : Stor w' sb mb n' t X' f' lk d K' U' D'
  grow : Grow lv ok X f lk K U X' f' lk K' U'
  inX : X' b
  mean : ∀ θ, Sat X' (gc K' f') lk θ → Ev (sg U' lv θ) ty (θ b)
  known : ∀ x ∈ ty, x.kind = 61 → ∃ b, U' lv x.num = some b
  roots : (∀ i, X' i → i ∈ rt) ∧ rt.length ≤ L + ty.length
  old : But (fun i => i = mb) w w'
  src : ∀ x c, U' lv x = some c → U lv x = some c ∨ ∃ y ∈ ty, y.kind = 61 ∧ y.num = x
  leaf : ∀ y ∈ ty, y.kind = 61 → U lv y.num = none → ∃ b, U' lv y.num = some b ∧ gc K' f' b = ⟨y, [], decide (1 ≤ lv)⟩ ∧ lk b = none ∧ X' b
  fresh : ∀ i, X' i → X i ∨ w.heap.size ≤ i

set_option maxRecDepth 20000 in
set_option maxHeartbeats 8000000 in
theorem take_any (w : World) (sb mb n : Nat) (hn : n ≤ 500000) (t lv : Int) (ok : (Int → DT) → Prop) (X : Nat → Prop) (f : Nat → CC) (lk : Nat → Option Nat) (d : Nat → Nat) (K : (Option Addr × Nat × Nat) → List Nat) (U : Int → Int → Option Nat) (D : DataW Value) (hS : Stor w sb mb n t X f lk d K U D) (w1 : (Lit.int .i64 lv).wf = true) (hlv0 : lv = 0 ∨ lv = 1)
    (ty : List Nd) (m : Nat) (HM : Hid (ty.length = m)) (hm : m ≤ 300) (hm0 : 0 < m) (HW : Hid (∀ x ∈ ty, (Lit.int .i64 x.num).wf = true)) (HL : Hid (Leafy ty)) (HUQ : Hid (∀ a ∈ ty, ∀ b ∈ ty, a.kind = 61 → b.kind = 61 → a.num = b.num → a = b)) (S : List Sp) (ys : List Sp) (HA : Hid (after ty m = some (S, ys))) (hS1 : S.length = 1) (HOK : Hid (∀ ρ, ok ρ → lv = 0 → ∀ x ∈ ty, x.kind = 61 → ρ x.num = selfT x)) (L : Nat) (rt : List Nat) (hrt : (∀ i, X i → i ∈ rt) ∧ rt.length ≤ L) (ao : Option Addr) (cap : Nat) (hx : Nodes w ao ty) :
    Calls Try.prog 26 #[.pointer (some ⟨sb, 0, none⟩), .slice ao m cap, .int .i64 lv] w fun e w' => ∃ b n' X' f' K' U' D' rt', e = .returned (.pointer (some ⟨b, 0, none⟩)) ∧ Taken w w' sb mb n t lv ok X f lk d K U L ty b n' X' f' K' U' D' rt' := by
  have hb0 : Below w.heap.size w (w.alloc (.cells #[.pointer (some ⟨sb, 0, none⟩)] 50)) := (Below.refl _ w).alloc (Nat.le_refl _) _
  have hb1 := hb0.alloc hb0.size (.cells #[.int .i64 lv] 3)
  have k0 : ((w.alloc (.cells #[.pointer (some ⟨sb, 0, none⟩)] 50)).alloc (.cells #[.int .i64 lv] 3)).heap[w.heap.size]? = some (.cells #[.pointer (some ⟨sb, 0, none⟩)] 50 (0, 0)) := by
    rw [heap_alloc_old _ _ (by simp)]
    exact heap_alloc_new _ _
  have k1 : ((w.alloc (.cells #[.pointer (some ⟨sb, 0, none⟩)] 50)).alloc (.cells #[.int .i64 lv] 3)).heap[w.heap.size + 1]? = some (.cells #[.int .i64 lv] 3 (0, 0)) := by
    have h9 := heap_alloc_new (w.alloc (.cells #[.pointer (some ⟨sb, 0, none⟩)] 50)) (.cells #[.int .i64 lv] 3)
    simpa using h9
  have HF := fold_any _ sb mb n hn t lv ok X f lk d K U D (hS.below hb1) w.heap.size (w.heap.size + 1) ⟨k0, k1⟩ w1 hlv0 ty m HM hm hm0 HW HL HUQ S ys HA hS1 HOK L rt hrt ao cap (hx.below hb1)
  have HB : Hid (But (fun i => i = mb) w ((w.alloc (.cells #[.pointer (some ⟨sb, 0, none⟩)] 50)).alloc (.cells #[.int .i64 lv] 3))) := But.ofBelow hb1
  have HZ : Hid (w.heap.size ≤ ((w.alloc (.cells #[.pointer (some ⟨sb, 0, none⟩)] 50)).alloc (.cells #[.int .i64 lv] 3)).heap.size) := hb1.size
  clear hS hx k0 k1 hb0 hb1
  go_enter Try.func26, Try.ntmps26
  go_wp2_with fail
  refine HF.mono ?_
  rintro e w2 ⟨g, c, b, n', X', f', K', U', D', rt', rfl, hst⟩
  have HT : Hid (Taken w w2 sb mb n t lv ok X f lk d K U L ty b n' X' f' K' U' D' rt') := by
    have hmt : ty.take m = ty := List.take_of_length_le (by have := HM.out; omega)
    have hl := HM.out
    refine ⟨by have := hst.num; omega, hst.stor, hst.grow, hst.inX b (by simp), fun θ hs => by simpa using hst.mean θ hs 0 (by simp) (by simp), fun x hx => hst.known x (by rw [hmt]; exact hx), ⟨hst.roots.1, by have := hst.roots.2; omega⟩, ?_, (by have h9 := hst.src; rw [hmt] at h9; exact h9), (by have h9 := hst.leaf; rw [hmt] at h9; exact h9), fun i hi => (hst.fresh i hi).imp id (fun h => Nat.le_trans HZ.out h)⟩
    refine ⟨hst.old.os.trans HB.out.os, hst.old.tape.trans HB.out.tape, hst.old.output.trans HB.out.output, Nat.le_trans HB.out.size hst.old.size, fun i hi hne => ?_⟩
    refine (hst.old.block i (Nat.lt_of_lt_of_le hi HB.out.size) ?_).trans (HB.out.block i hi hne)
    rintro (h | h)
    · exact hne h
    · have := HZ.out; omega
  clear hst HF
  go_wp2
  go_ret
  exact ⟨b, n', X', f', K', U', D', rt', rfl, HT.out⟩

end Go.Proofs.Ytngomcicdcgldab

namespace Go.Proofs.Ytngomcicdcgldab
open Go.RowKit Go.Maps

/-- What a cell says, read to the end: also an unknown is its node over its kids. -/
def gcv (K : (Option Addr × Nat × Nat) → List Nat) (f : Nat → CC) : Nat → GC := fun i => ⟨(f i).nd, K (f i).ks, false⟩

/-- What write leaves. -/
def WRes (X : Nat → Prop) (f : Nat → CC) (lk : Nat → Option Nat) (d : Nat → Nat) (K : (Option Addr × Nat × Nat) → List Nat) (B g0 k : Nat) (zs xs : List Nd) (w : World) (e : Ending) (w' : World) : Prop :=
  ∃ g c lk', e = .returned (.slice (some ⟨g, 0, none⟩) (k + xs.length) c) ∧ OwnN w' B g c (k + xs.length) (zs ++ xs) ∧ CSto w' X f lk' d K ∧ SameHd lk lk' ∧ But (fun i => X i ∨ i = g0) w w' ∧ (g = g0 ∨ w.heap.size ≤ g)

theorem sat_root {X : Nat → Prop} {f : Nat → CC} {lk : Nat → Option Nat} {d : Nat → Nat} {K : (Option Addr × Nat × Nat) → List Nat} {w : World} (h : CSto w X f lk d K) {θ : Nat → DT} (hs : Sat X (gcv K f) lk θ) {i : Nat} (hi : X i) : ∃ k, θ i [] = some k := by
  obtain ⟨r, hr⟩ := h.acyc.head _ i (Nat.lt_succ_self _)
  have e := hr.sat hs
  have e2 := hs.2 r (hr.inX h.cells hi) hr.is_root rfl
  rw [e, e2]
  exact ⟨_, rfl⟩

theorem OwnN.tag {w : World} {B g c k : Nat} {zs : List Nd} (h : OwnN w B g c k zs) : ∃ cur, w.heap[g]? = some (.cells cur 48 (0, 0)) := (owns_tag h.2).2

theorem but_next {X : Nat → Prop} {g g2 : Nat} {w wr w3 : World} (h : But (fun i => X i ∨ i = g) w wr) (h' : But (fun i => X i ∨ i = g2) wr w3) (hg : g2 = g ∨ w.heap.size ≤ g2) : But (fun i => X i ∨ i = g) w w3 := by
  refine ⟨h'.os.trans h.os, h'.tape.trans h.tape, h'.output.trans h.output, Nat.le_trans h.size h'.size, fun i hi hn => ?_⟩
  refine (h'.block i (Nat.lt_of_lt_of_le hi h.size) ?_).trans (h.block i hi hn)
  rintro (h9 | h9)
  · exact hn (.inl h9)
  · rcases hg with h8 | h8
    · exact hn (.inr (h9.trans h8))
    · omega

set_option maxRecDepth 20000 in
set_option maxHeartbeats 8000000 in
theorem write_any (X : Nat → Prop) (f : Nat → CC) (d : Nat → Nat) (K : (Option Addr × Nat × Nat) → List Nat) (θ : Nat → DT) (B : Nat) (HXB : Hid (∀ i, X i → i < B)) : ∀ (N : Nat) (xs : List Nd) (lk : Nat → Option Nat) (w : World) (b g c k : Nat) (zs : List Nd), xs.length ≤ N → CSto w X f lk d K → Sat X (gcv K f) lk θ → X b → Ev selfT xs (θ b) → OwnN w B g c k zs → k + xs.length ≤ 1000000000 →
    Calls Try.prog 63 #[.pointer (some ⟨b, 0, none⟩), .slice (some ⟨g, 0, none⟩) k c] w fun e w' => WRes X f lk d K B g k zs xs w e w' := by
  intro N
  induction N with
  | zero =>
    intro xs lk w b g c k zs hN _ _ _ hE
    have := List.length_pos_iff.2 hE.one.ne
    omega
  | succ N ih =>
    intro xs lk w b g c k zs hN hS hs hXb hE hO hk
    obtain ⟨i0, hi, hz0, hz1, hz2⟩ := info_parts Try.infoN
    obtain ⟨r, hr⟩ := hS.acyc.head _ b (Nat.lt_succ_self _)
    have hXr : X r := hr.inX hS.cells hXb
    have e1 := hr.sat hs
    have e2 := hs.2 r hXr hr.is_root rfl
    rw [e1, e2] at hE
    have hroot : ∀ dd ∈ (gcv K f r).ks.map θ, ∃ kk, dd [] = some kk := by
      intro dd hd
      obtain ⟨i, hi, rfl⟩ := List.mem_map.1 hd
      exact sat_root hS hs (hS.inX r hXr i hi)
    obtain ⟨xss, hxl, hxe, rfl, hnk⟩ := hE.kids hroot
    have HIH : Hid (∀ (xs : List Nd) (lk : Nat → Option Nat) (w : World) (b g c k : Nat) (zs : List Nd), xs.length ≤ N → CSto w X f lk d K → Sat X (gcv K f) lk θ → X b → Ev selfT xs (θ b) → OwnN w B g c k zs → k + xs.length ≤ 1000000000 →
      Calls Try.prog 63 #[.pointer (some ⟨b, 0, none⟩), .slice (some ⟨g, 0, none⟩) k c] w fun e w' => WRes X f lk d K B g k zs xs w e w') := ih
    clear ih
    have HA : Hid (Acyc lk d) := hS.acyc
    have HS : Hid (CSto w X f lk d K) := hS
    have HSA : Hid (Sat X (gcv K f) lk θ) := hs
    have HC := hS.cells
    have HXE : Hid (∀ i (h1 : i < xss.length) (h2 : i < ((gcv K f r).ks.map θ).length), Ev selfT xss[i] ((gcv K f r).ks.map θ)[i]) := hxe
    have HN : Hid ((xss.flatten ++ [(gcv K f r).nd]).length ≤ N + 1) := hN
    have HO : Hid (OwnN w B g c k zs) := hO
    have HK : Hid (k + (xss.flatten ++ [(gcv K f r).nd]).length ≤ 1000000000) := hk
    obtain ⟨sy, L, cy, hky⟩ : ∃ s l c, (f r).ks = (s, l, c) := ⟨_, _, _, rfl⟩
    obtain ⟨kk, hkk⟩ : ∃ l, K (f r).ks = l := ⟨_, rfl⟩
    have hRR := hS.rows r hXr
    rw [hkk, hky] at hRR
    have hL : L = kk.length := hRR.1.1
    have hL2 : L ≤ 20000 := by rw [hL]; exact hRR.1.2
    have HKK : Hid (K (f r).ks = kk) := hkk
    have HKY : Hid ((f r).ks = (sy, L, cy)) := hky
    have hxl2 : xss.length = kk.length := by rw [hxl]; simp [gcv, hkk]
    have HLL : Hid (xss.length = L ∧ kk.length = L) := ⟨by omega, hL.symm⟩
    have HKX : Hid (∀ i ∈ kk, X i) := by
      intro i hi
      exact hS.inX r hXr i (by rw [hkk]; exact hi)
    clear hS hs hE hroot hxe hN hO hk e1 e2 hRR hL hkk hxl hxl2 hnk
    go_enter Try.func63, Try.ntmps63
    go_wp2_with (go_at_call 56; refine (head_any X f lk d HA w HC b r hXb hr).mono ?_; rintro e w1 ⟨rfl, lk1, hC1, hS1, hA1, hB1, _⟩; obtain ⟨a0, a1, a2, a3, a4, a5, a6, a7, a8, a9, a10, a11, a12, a13⟩ := (hC1.at' r hXr).cell; rw [hky] at a6; simp only at a6)
    have HSS1 : Hid (CSto w1 X f lk1 d K) := HS.out.short hC1 hA1 hB1
    have HB1 : Hid (But (fun i => X i ∨ i = g) w w1) := hB1.mono (fun _ h => .inl h)
    have HSH : Hid (SameHd lk lk1) := hS1
    have hgX : ¬ X g := fun h => by
      have h1 := HXB.out g h
      have h2 := (owns_block HO.out.2).1
      omega
    have HO1 : Hid (OwnN w1 B g c k zs) := ⟨HO.out.1, owns_but HO.out.2 hB1 hgX⟩
    clear hC1 hA1 hB1 hS1 a0 a1 a2 a3 a4 a5 a6 a7 a8 a9 a10 a11 a12 a13 hky HC
    go_loopw [1, 14] (fun v i wr => ∃ (j g2 c2 : Nat) (lk2 : Nat → Option Nat), j ≤ L ∧ i = .int .i64 (j : Int) ∧ v = .slice (some ⟨g2, 0, none⟩) (k + (xss.take j).flatten.length) c2 ∧ OwnN wr B g2 c2 (k + (xss.take j).flatten.length) (zs ++ (xss.take j).flatten) ∧ CSto wr X f lk2 d K ∧ SameHd lk lk2 ∧ But (fun i => X i ∨ i = g) w wr ∧ (g2 = g ∨ w.heap.size ≤ g2)) (fun _ i _ => L - (intOf i).toNat)
    case atStart => exact ⟨0, g, c, lk1, Nat.zero_le _, rfl, by simp, by simpa using HO1.out, HSS1.out, HSH.out, HB1.out, .inl rfl⟩
    case round =>
      clear HO1 HSS1 HSH HB1
      obtain ⟨j, g2, c2, lk2, hj, rfl, rfl, hO2, hS2, hSH2, hB2, hg2w⟩ := hrel
      obtain ⟨hl1, hl2⟩ := HLL.out
      by_cases hjL : j < L
      · have hRR := hS2.rows r hXr
        rw [HKK.out, HKY.out] at hRR
        have hjk : j < kk.length := by omega
        have hjx : j < xss.length := by omega
        obtain ⟨gk, cur, hsy, _, _, hcur, hall⟩ := hRR.2.resolve_left (fun e9 => by rw [e9] at hjk; simp at hjk)
        simp only at hsy
        subst hsy
        have ek : wr.cell? ⟨gk, j, none⟩ = some (.pointer (some ⟨kk[j], 0, none⟩)) := by
          rw [cell_of_row wr gk j cur 55 (0, 0) hcur]
          exact hall j hjk
        have hXk : X kk[j] := HKX.out _ (List.getElem_mem hjk)
        have hE2 : Ev selfT xss[j] (θ kk[j]) := by
          have h9 := HXE.out j hjx (by simp only [gcv, List.length_map, HKK.out]; exact hjk)
          have e9 : ((gcv K f r).ks.map θ)[j]'(by simp only [gcv, List.length_map, HKK.out]; exact hjk) = θ kk[j] := by simp [gcv, HKK.out]
          rw [e9] at h9
          exact h9
        have htk : (xss.take (j + 1)).flatten = (xss.take j).flatten ++ xss[j] := by
          rw [List.take_succ_eq_append_getElem hjx, List.flatten_append]
          simp
        have hlt : (xss.take (j + 1)).flatten.length ≤ xss.flatten.length := by
          have h9 : xss.flatten = (xss.take (j + 1)).flatten ++ (xss.drop (j + 1)).flatten := by rw [← List.flatten_append, List.take_append_drop]
          rw [h9, List.length_append]
          omega
        have hHK := HK.out
        have hHN := HN.out
        simp only [List.length_append, List.length_cons, List.length_nil] at hHK hHN
        have hsat2 : Sat X (gcv K f) lk2 θ := (hSH2.sat HA.out hS2.acyc θ).2 HSA.out
        have hlsum : (xss.take (j + 1)).flatten.length = (xss.take j).flatten.length + xss[j].length := by rw [htk, List.length_append]
        have hle : xss[j].length ≤ xss.flatten.length := by omega
        have HCALL : Hid (Calls Try.prog 63 #[.pointer (some ⟨kk[j], 0, none⟩), .slice (some ⟨g2, 0, none⟩) (k + (xss.take j).flatten.length) c2] wr fun e w' => WRes X f lk2 d K B g2 (k + (xss.take j).flatten.length) (zs ++ (xss.take j).flatten) xss[j] wr e w') :=
          HIH.out xss[j] lk2 wr kk[j] g2 c2 (k + (xss.take j).flatten.length) (zs ++ (xss.take j).flatten) (by omega) hS2 hsat2 hXk hE2 hO2 (by omega)
        obtain ⟨kj, hkj⟩ : ∃ t, kk[j] = t := ⟨_, rfl⟩
        obtain ⟨P, hP⟩ : ∃ P, k + (xss.take j).flatten.length = P := ⟨_, rfl⟩
        rw [hkj] at ek HCALL
        rw [hP] at HCALL ⊢
        have HFIN : Hid (∀ (g3 c3 : Nat) (w3 : World), OwnN w3 B g3 c3 (P + xss[j].length) (zs ++ (xss.take j).flatten ++ xss[j]) → P + xss[j].length = k + (xss.take (j + 1)).flatten.length ∧ OwnN w3 B g3 c3 (k + (xss.take (j + 1)).flatten.length) (zs ++ (xss.take (j + 1)).flatten)) := by
          intro g3 c3 w3 h9
          have e9 : P + xss[j].length = k + (xss.take (j + 1)).flatten.length := by omega
          refine ⟨e9, ?_⟩
          rw [htk, ← List.append_assoc, ← htk, ← e9]
          exact h9
        have HB2 : Hid (But (fun i => X i ∨ i = g) w wr) := hB2
        have HSH2 : Hid (SameHd lk lk2) := hSH2
        clear hRR hcur hall hO2 hS2 hSH2 hB2 hsat2 hE2 htk hle hlt hHK hHN hkj hP hlsum
        go_wp2_with (go_at_call 63; refine HCALL.out.mono ?_; rintro e w3 ⟨g3, c3, lk3, rfl, hO3, hS3, hSH3, hB3, hg3⟩)
        obtain ⟨e9, hO4⟩ := HFIN.out g3 c3 w3 hO3
        go_roundw
        case rel => exact ⟨j + 1, g3, c3, lk3, by omega, by go_num, by rw [← e9], hO4, hS3, HSH2.out.trans hSH3, but_next HB2.out hB3 hg2w, by have := HB2.out.size; omega⟩
        case measure => simp [intOf]; omega
      · have hjL2 : j = L := by omega
        subst hjL2
        have hxt : xss.take j = xss := List.take_of_length_le (by omega)
        rw [hxt] at hO2 ⊢
        obtain ⟨b0, b1, b2, b3, b4, b5, b6, b7, b8, b9, b10, b11, b12, b13⟩ := (hS2.cells.at' r hXr).cell
        have hrl : r < wr.heap.size := (hS2.cells.at' r hXr).lt
        obtain ⟨nd, hnd⟩ : ∃ nd, (f r).nd = nd := ⟨_, rfl⟩
        rw [hnd] at b1 b2 b3 b4 b5
        have HND : Hid ((gcv K f r).nd = nd) := hnd
        have hOb := owns_block hO2.2
        have hHK := HK.out
        simp only [List.length_append, List.length_cons, List.length_nil] at hHK
        obtain ⟨P, hP⟩ : ∃ P, k + xss.flatten.length = P := ⟨_, rfl⟩
        rw [hP] at hO2 ⊢
        have hPb : P + 1 ≤ 1000000000 := by omega
        have HS2 : Hid (CSto wr X f lk2 d K) := hS2
        have HB2 : Hid (But (fun i => X i ∨ i = g) w wr) := hB2
        have hown1 := hO2.2.alloc (.cells #[.int .i64 nd.kind, .int .i64 nd.num, .string nd.text, .int .i64 nd.kids, .int .i64 nd.place] 48)
        have hcells := nd_new_cells wr nd
        have hbA : Below wr.heap.size wr (wr.alloc (.cells #[.int .i64 nd.kind, .int .i64 nd.num, .string nd.text, .int .i64 nd.kids, .int .i64 nd.place] 48)) := (Below.refl _ _).alloc (Nat.le_refl _) _
        obtain ⟨cur, hcur⟩ := OwnN.tag hO2
        have hcur1 : (wr.alloc (.cells #[.int .i64 nd.kind, .int .i64 nd.num, .string nd.text, .int .i64 nd.kids, .int .i64 nd.place] 48)).heap[g2]? = some (.cells cur 48 (0, 0)) := (hbA.block g2 hOb.2).trans hcur
        have HSH2 : Hid (SameHd lk lk2) := hSH2
        have hlz := hO2.1
        have hg2X : ¬ X g2 := fun h => by
          have h1 := HXB.out g2 h
          omega
        clear hS2 hB2 hHK b0 b6 b7 b8 b9 b10 b11 b12 b13 hnd hO2 hcur hSH2
        go_wp2_with (at_builtin; refine wpList_append2 _ rfl (.tmp 22) (.tmp 27) 27 rfl B 48 i0 _ 5 48 Try.underlying27 hi hz0 hz1 hz2 rfl (by decide) g2 P c2 _ rfl hown1 ⟨_, 0, none⟩ 1 1 (Nd.row nd) rfl rfl hcells (nd_row_one _) ?a3 ?a4 ?a5 ?_)
        case a3 => unfold maxLen; omega
        case a4 => omega
        case a5 => (try simp); omega
        intro g5 c5 w5 hown5 hgrow5 hwh
        have hO5 := OwnN.push hown5 hlz rfl
        have hb5 := but_grown hgrow5
        have HS5 : Hid (CSto w5 X f lk2 d K) := by
          have h1 := HS2.out.short (HS2.out.cells.but (But.ofBelow (S := fun _ => False) hbA) (fun _ _ h => h)) HS2.out.acyc (But.ofBelow hbA)
          refine h1.aside hb5 hg2X (fun cu h => ?_)
          rw [hcur1] at h
          simp at h
        have HB5 : Hid (But (fun i => X i ∨ i = g) w w5) := but_next HB2.out ((But.ofBelow hbA).trans (hb5.mono (T := fun i => X i ∨ i = g2) (fun i h => .inr h))) hg2w
        have hg5w : g5 = g ∨ w.heap.size ≤ g5 := by
          have h1 := HB2.out.size
          rcases hwh with h | h
          · omega
          · right
            rw [h]
            have h2 := hbA.size
            omega
        have HO5 : Hid (OwnN w5 B g5 c5 (k + (xss.flatten ++ [(gcv K f r).nd]).length) (zs ++ (xss.flatten ++ [(gcv K f r).nd]))) := by
          have e9 : k + (xss.flatten ++ [(gcv K f r).nd]).length = P + 1 := by rw [List.length_append, List.length_singleton]; omega
          rw [Hid, e9, HND.out, ← List.append_assoc]
          exact hO5
        have e9 : P + 1 = k + (xss.flatten ++ [(gcv K f r).nd]).length := by rw [List.length_append, List.length_singleton]; omega
        clear hown5 hgrow5 hwh hown1 hcells hb5 hbA hO5 hcur1 b1 b2 b3 b4 b5
        go_wp2
        go_ret
        exact ⟨g5, c5, lk2, (by rw [← e9]; rfl), HO5.out, HS5.out, HSH2.out, HB5.out, hg5w⟩

end Go.Proofs.Ytngomcicdcgldab

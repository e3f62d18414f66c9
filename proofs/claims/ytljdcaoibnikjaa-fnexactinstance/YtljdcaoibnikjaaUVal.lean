
import Derived.Test.YtljdcaoibnikjaaYAV
namespace Go.Proofs.Ytljdcaoibnikjaa

/-- What a store says, read as types without end: hd tells each cell's head. -/
def val (g : Nat → GC) (hd : Nat → Nat) : List Nat → Nat → Option Nd
  | [], i => some (g (hd i)).nd
  | j :: p, i => match (g (hd i)).ks[j]? with
    | some k => val g hd p k
    | none => none

theorem val_con (g : Nat → GC) (hd : Nat → Nat) (i : Nat) : (fun p => val g hd p i) = con (g (hd i)).nd ((g (hd i)).ks.map fun k => fun p => val g hd p k) := by
  funext p
  cases p with
  | nil => rfl
  | cons j p =>
    simp only [val, con, List.getElem?_map]
    cases (g (hd i)).ks[j]? <;> rfl

/-- It agrees with what the cells say: a store that was equated to its end has a solution. -/
theorem sat_val {X : Nat → Prop} {g : Nat → GC} {lk : Nat → Option Nat} {hd : Nat → Nat} (h1 : ∀ i j, lk i = some j → hd i = hd j) (h2 : ∀ i, lk i = none → hd i = i) : SatC X g lk (fun i p => val g hd p i) := by
  refine ⟨fun i j e => ?_, fun i _ hl _ => ?_⟩
  · show (fun p => val g hd p i) = fun p => val g hd p j
    rw [val_con, val_con, h1 i j e]
  · have := val_con g hd i
    rw [h2 i hl] at this
    exact this

/-- A type without end that has one, written out behind its kids. -/
inductive Fin' : DT → List Nd → Prop
  | mk (n : Nd) (ds : List DT) (xss : List (List Nd)) (hl : ds.length = xss.length) (h : ∀ i (h1 : i < ds.length) (h2 : i < xss.length), Fin' ds[i] xss[i]) : Fin' (con n ds) (xss.flatten ++ [n])

theorem Fin'.root {d : DT} {xs : List Nd} (h : Fin' d xs) : ∃ n, d [] = some n := by
  cases h with
  | mk n ds xss _ _ => exact ⟨n, rfl⟩

theorem con_len {n m : Nd} {ds es : List DT} (h : con n ds = con m es) (h1 : ∀ d ∈ ds, ∃ k, d [] = some k) (h2 : ∀ d ∈ es, ∃ k, d [] = some k) : ds.length = es.length := by
  have key : ∀ {n m : Nd} {ds es : List DT}, con n ds = con m es → (∀ d ∈ es, ∃ k, d [] = some k) → ¬ ds.length < es.length := by
    intro n m ds es h h2 hlt
    have h9 := congrFun h [ds.length]
    obtain ⟨k, hk⟩ := h2 es[ds.length] (List.getElem_mem hlt)
    simp [con, List.getElem?_eq_getElem hlt, hk] at h9
  have a := key h h2
  have b := key h.symm h1
  omega

/-- A type has one way of being written. -/
theorem Fin'.one {d : DT} {xs : List Nd} (h : Fin' d xs) : ∀ {ys : List Nd}, Fin' d ys → xs = ys := by
  induction h with
  | mk n ds xss hl h1 ih =>
    intro ys h'
    generalize hd : con n ds = d at h'
    cases h' with
    | mk m es yss hl' h2 =>
      obtain rfl := con_nd hd
      have r1 : ∀ d ∈ ds, ∃ k, d [] = some k := by
        intro d hm
        obtain ⟨i, hi, rfl⟩ := List.getElem_of_mem hm
        exact (h1 i hi (by omega)).root
      have r2 : ∀ d ∈ es, ∃ k, d [] = some k := by
        intro d hm
        obtain ⟨i, hi, rfl⟩ := List.getElem_of_mem hm
        exact (h2 i hi (by omega)).root
      have hlE := con_len hd r1 r2
      obtain rfl := con_kids hd hlE
      have : xss = yss := by
        apply List.ext_getElem (by omega)
        intro i h3 h4
        exact ih i (by omega) h3 (h2 i (by omega) h4)
      rw [this]

end Go.Proofs.Ytljdcaoibnikjaa

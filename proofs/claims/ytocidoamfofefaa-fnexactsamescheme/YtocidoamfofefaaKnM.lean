
import Derived.Test.YtocidoamfofefaaYAI
namespace Go.Proofs.Ytocidoamfofefaa

/-- The places of the kids of node i. -/
def kidsRt (t : List Nd) (i : Nat) : List Nat := match after t i with
  | none => []
  | some (S, _) => (S.drop (S.length - (ndAt t i).kids.toNat)).map fun s => s.rt

/-- Is the code at node i known? (Kids lie ahead of it: f is any number above i.) -/
def kn (t : List Nd) : Nat → Nat → Bool
  | 0, _ => false
  | f + 1, i =>
    if (ndAt t i).kind = 72 ∨ (ndAt t i).kind = 73 ∨ (ndAt t i).kind = 74 then true
    else if (ndAt t i).kind = 75 then (kidsRt t i).all (kn t f)
    else (ndAt t i).kind == 77 && ((ndAt t ((kidsRt t i).getD 0 0)).kind == 74 && kn t f ((kidsRt t i).getD 1 0))

theorem kidsRt_eq {t : List Nd} {i : Nat} {S ys : List Sp} (h : after t i = some (S, ys)) (hi : i < t.length) : kidsRt t i = (S.drop (S.length - t[i].kids.toNat)).map fun s => s.rt := by
  unfold kidsRt
  rw [h, ndAt_get hi]

theorem kidsRt_lt {t : List Nd} {S ys : List Sp} {m : Nat} (h : after t m = some (S, ys)) {i : Nat} (hi : i < m) : ∀ r ∈ kidsRt t i, r < i := by
  obtain ⟨Si, hSi, hk, hK⟩ := kids_atS h i hi
  rw [kidsRt_eq hSi hk]
  intro r hr
  obtain ⟨s, hs, rfl⟩ := List.mem_map.1 hr
  obtain ⟨j, hj, rfl⟩ := List.getElem_of_mem hs
  exact (hK.mem j hj).2.2

theorem kidsRt_len {t : List Nd} {S ys : List Sp} {m : Nat} (h : after t m = some (S, ys)) {i : Nat} (hi : i < m) : (kidsRt t i).length = (kidsN t i).length := by
  obtain ⟨Si, hSi, hk, hK⟩ := kids_atS h i hi
  rw [kidsRt_eq hSi hk, kidsN_eq hSi hk]
  simp

end Go.Proofs.Ytocidoamfofefaa

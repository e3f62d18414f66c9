import Derived.Test.YtocidoamfofefaaYAF
namespace Go.Proofs.Ytocidoamfofefaa
open Go.RowKit

def dmx (K : List Sp) : Nat := K.foldl (fun d k => max d k.dp) 0

theorem dmx_dpOf (K : List Sp) : dpOf K = dmx K + 1 := by
  unfold dpOf dmx
  have key : ∀ (l : List Sp) (d : Nat), l.foldl (fun d k => max d (k.dp + 1)) (d + 1) = l.foldl (fun d k => max d k.dp) d + 1 := by
    intro l
    induction l with
    | nil => intro d; rfl
    | cons x l ih =>
      intro d
      simp only [List.foldl_cons]
      have e : max (d + 1) (x.dp + 1) = max d x.dp + 1 := by omega
      rw [e]
      exact ih _
  exact key K 0

theorem dmx_take_succ (K : List Sp) (j : Nat) (h : j < K.length) : dmx (K.take (j + 1)) = max (dmx (K.take j)) K[j].dp := by
  unfold dmx
  rw [List.take_succ_eq_append_getElem h, List.foldl_append]
  rfl

def dps (ys : List Sp) : List Int := ys.map fun s => (s.dp : Int)

end Go.Proofs.Ytocidoamfofefaa

namespace Go.Proofs.Ytocidoamfofefaa
open Go.RowKit

theorem deepOf_some {t : List Nd} {S ys : List Sp} {m : Nat} (hm : t.length = m) (h6 : m ≤ 6000) (h0 : 0 < m) (h : after t m = some (S, ys)) :
    ∃ s, ys[m - 1]? = some s ∧ deepOf t = (if s.fr = 0 ∧ s.dp ≤ 300 then s.dp else 0) ∧ s.rt = m - 1 ∧ s.fr ≤ m - 1 ∧ 1 ≤ s.dp ∧ s.dp ≤ m := by
  have hf := after_fine h
  have hl : m - 1 < ys.length := by have := hf.len; omega
  have hr := hf.root (m - 1) hl
  refine ⟨ys[m - 1], List.getElem?_eq_getElem hl, ?_, hr.1, hr.2.1, hr.2.2.1, by omega⟩
  unfold deepOf
  rw [if_neg (by omega), hm, h]
  have hg : ys.getLast? = some ys[m - 1] := by
    have := hf.len
    rw [List.getLast?_eq_getElem?]
    have e : ys.length - 1 = m - 1 := by omega
    rw [e, List.getElem?_eq_getElem hl]
  simp only [hg]

theorem deepOf_none {t : List Nd} (h : after t t.length = none) : deepOf t = 0 := by
  unfold deepOf
  split
  · rfl
  · rw [h]

theorem deepOf_great {t : List Nd} (h : 6000 < t.length) : deepOf t = 0 := by
  unfold deepOf
  rw [if_pos h]

theorem deepOf_nil {t : List Nd} (h : t.length = 0) : deepOf t = 0 := by
  have : t = [] := List.eq_nil_of_length_eq_zero h
  subst this
  rfl

end Go.Proofs.Ytocidoamfofefaa


import Derived.Test.YtkmlfpfgiblcdabRag
import Derived.Test.YtkmlfpfgiblcdabCopy
namespace Go.Proofs.Ytkmlfpfgiblcdab
open Go.RowKit

/-- The kids themselves. -/
def kidsIn (t : List Nd) (K : List Sp) : List (List Nd) := K.map fun s => span t s.fr s.rt

theorem Try.infoSS : (Try.prog.info? 25).map (fun i => (i.zero, i.size, i.bytes)) = some (some (.slice none 0 0), 1, 24) := by kernel_rfl

theorem kidsIn_step (t : List Nd) (K : List Sp) (k : Nat) (h : k < K.length) : kidsIn t (K.take (k + 1)) = kidsIn t (K.take k) ++ [span t K[k].fr K[k].rt] := by
  rw [List.take_succ_eq_append_getElem h]
  simp only [kidsIn, List.map_append, List.map_cons, List.map_nil]

theorem new1_cells (w : World) (v : Value) : ∀ j u, [v][j]? = some u → (w.alloc (.cells #[v] 25)).cell? (Addr.add ⟨w.heap.size, 0, none⟩ j) = some u := by
  intro j u hj
  have ad : Addr.add ⟨w.heap.size, 0, none⟩ j = ⟨w.heap.size, j, none⟩ := by
    unfold Addr.add
    split
    · simp_all
    · simp
  rw [ad, cell_of_row _ w.heap.size j _ 25 (0, 0) (heap_alloc_new _ _), ← hj]
  simp

theorem one_slice (a : Option Addr) (n c : Nat) : ∀ u ∈ [Value.slice a n c], u.oneCell' = true := by
  intro u hu
  simp at hu
  subst hu
  rfl

theorem kids_push {w3 wr w5 w6 : World} {B G c k g' c' h ch l : Nat} {ps : List (Nat × Nat)} {kss : List (List Nd)} {ks : List Nd} (hO : RagO wr B G c k ps kss) (hb : But (· = B) w3 wr) (hG : G = B ∨ w3.heap.size ≤ G)
    (hb5 : Below wr.drew.heap.size wr.drew w5) (hh : wr.drew.heap.size ≤ h) (hrow : Row w5 h ks) (hB : B < w3.heap.size) (hl : ks.length = l)
    (hown6 : w6.ownsRow B 25 1 (.slice (some ⟨g', 0, none⟩) (k + 1) c') (k + 1) (leadsC ps kss ++ [.slice (some ⟨h, 0, none⟩) l ch]))
    (hgrow6 : (w5.alloc (.cells #[.slice (some ⟨h, 0, none⟩) l ch] 25)).grownBy w6 (some G)) (hwh : g' = G ∨ g' = (w5.alloc (.cells #[.slice (some ⟨h, 0, none⟩) l ch] 25)).heap.size) :
    RagO w6 B g' c' (k + 1) (ps ++ [(h, ch)]) (kss ++ [ks]) ∧ (g' = B ∨ w3.heap.size ≤ g') ∧ But (· = B) w3 w6 := by
  subst hl
  have hbd := undrew hb5
  have s1 := hb.size
  have s2 := hbd.size
  have hh' : wr.heap.size ≤ h := hh
  have hba : Below wr.heap.size wr (w5.alloc (.cells #[.slice (some ⟨h, 0, none⟩) ks.length ch] 25)) := hbd.alloc s2 _
  refine ⟨RagO.push hO (But.ofBelow hba) (hrow.below ((Below.refl _ w5).alloc (Nat.le_refl _) _)) hh' (by omega) hown6 hgrow6, ?_, ?_⟩
  · rcases hwh with rfl | rfl
    · exact hG
    · right; simp; omega
  · have s3 := hba.size
    refine ⟨hgrow6.os.trans (hba.os.trans hb.os), hgrow6.tape.trans (hba.tape.trans hb.tape), hgrow6.output.trans (hba.output.trans hb.output), Nat.le_trans s1 (Nat.le_trans s3 hgrow6.size), ?_⟩
    intro b hb1 hb2
    refine (hgrow6.block b (by omega) ?_).trans ((hba.block b (by omega)).trans (hb.block b hb1 hb2))
    intro e
    cases e
    omega

end Go.Proofs.Ytkmlfpfgiblcdab

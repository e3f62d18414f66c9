import Derived.Test.YtedlofpgddjpgaaGreatWAR
import Derived.Test.YtedlofpgddjpgaaGreatWBT
namespace Go.Proofs.YtedlofpgddjpgaaGreat
def seg (t : List Nd) (a b : Nat) : List Nd := (t.drop a).take (b - a)
theorem seg_append {t : List Nd} {a c b : Nat} (h1 : a ≤ c) (h2 : c ≤ b) : seg t a c ++ seg t c b = seg t a b := by
  unfold seg
  have e : b - a = (c - a) + (b - c) := by omega
  rw [e, List.take_add, List.drop_drop, show a + (c - a) = c by omega]
theorem seg_one {t : List Nd} {i : Nat} (h : i < t.length) : seg t i (i + 1) = [ndAt t i] := by
  unfold seg
  rw [show i + 1 - i = 1 by omega, ndAt_get h, List.drop_eq_getElem_cons h]
  rfl
def Cn : List Sp → Nat → Nat → Prop
  | [], a, b => a = b
  | s :: K, a, b => s.fr = a ∧ s.fr ≤ s.rt ∧ Cn K (s.rt + 1) b
theorem cnS_le : ∀ {K : List Sp} {a b : Nat}, Cn K a b → a ≤ b
  | [], _, _, h => by simp only [Cn] at h; omega
  | s :: K, a, b, h => by
    obtain ⟨h1, h2, h3⟩ := h
    have := cnS_le h3
    omega
theorem cn_of : ∀ (K : List Sp) (i : Nat), (∀ h : 0 < K.length, (K[K.length - 1]'(by omega)).rt + 1 = i) → (∀ r (h : 0 < r) (h' : r < K.length), (K[r - 1]'(by omega)).rt + 1 = K[r].fr) → (∀ r (h : r < K.length), K[r].fr ≤ K[r].rt) → Cn K (frOf K i) i
  | [], i, _, _, _ => rfl
  | [s], i, hl, _, hm => ⟨rfl, hm 0 (by simp), hl (by simp)⟩
  | s :: s2 :: K, i, hl, hn, hm => by
    refine ⟨rfl, hm 0 (by simp), ?_⟩
    have h1 := hn 1 (by omega) (by simp)
    simp only [List.getElem_cons_zero, List.getElem_cons_succ, Nat.sub_self] at h1
    rw [h1]
    refine cn_of (s2 :: K) i (fun h => ?_) (fun r h h' => ?_) (fun r h => ?_)
    · have := hl (by simp)
      simpa using this
    · have h2 := hn (r + 1) (by omega) (by simp at h' ⊢; omega)
      cases r with
      | zero => omega
      | succ r => simpa using h2
    · have := hm (r + 1) (by simp at h ⊢; omega)
      simpa using this
theorem cn_seg (t : List Nd) : ∀ {K : List Sp} {a b : Nat}, Cn K a b → (K.map fun s => seg t s.fr (s.rt + 1)).flatten = seg t a b
  | [], a, b, h => by
    simp only [Cn] at h
    subst h
    simp [seg]
  | s :: K, a, b, h => by
    obtain ⟨h1, h2, h3⟩ := h
    subst h1
    simp only [List.map_cons, List.flatten_cons]
    rw [cn_seg t h3, seg_append (by omega) (cnS_le h3)]
theorem kids_own {t : List Nd} {S ys : List Sp} {n : Nat} (h : after t n = some (S, ys)) (i : Nat) (hi : i < n) {Si : List Sp} (hSi : after t i = some (Si, ys.take i)) (hk : i < t.length) : ys[i]? = some (over (Si.drop (Si.length - t[i].kids.toNat)) i) := by
  obtain ⟨Sj, hSj⟩ := after_part h (i + 1) (by omega)
  obtain ⟨S0, ys0, s, hk', ha, hs, he⟩ := after_inv hSj
  rw [hSi] at ha
  simp only [Option.some.injEq, Prod.mk.injEq] at ha
  obtain ⟨rfl, rfl⟩ := ha
  have hfn := (after_fine h).len
  obtain ⟨h0, h1, _, hov⟩ := step_some hs
  rw [← hov]
  have h5 : (ys.take (i + 1))[i]? = some s := by
    rw [he, List.getElem?_append_right (by simp; omega)]
    have : i - (ys.take i).length = 0 := by simp; omega
    rw [this]
    rfl
  rw [List.getElem?_take, if_pos (by omega)] at h5
  exact h5
theorem tree_out {t : List Nd} {S ys : List Sp} {m : Nat} (h : after t m = some (S, ys)) : ∀ (f i : Nat) (s : Sp), i < f → i < m → ys[i]? = some s → outT (treT t f i) = seg t s.fr (i + 1) := by
  intro f
  induction f with
  | zero => intro i s h1; omega
  | succ f ih =>
    intro i s hif him hs
    obtain ⟨Si, hSi, hk, hK⟩ := kids_atS h i him
    have ho := kids_own h i him hSi hk
    rw [hs] at ho
    have hKR := kidsRt_eq hSi hk
    obtain ⟨K, hKe⟩ : ∃ K, Si.drop (Si.length - (t[i]).kids.toNat) = K := ⟨_, rfl⟩
    rw [hKe] at hK hKR ho
    have hc := cn_of K i hK.last hK.next (fun r hr => (hK.mem r hr).2.1)
    have e1 : ((kidsRt t i).map (treT t f)).map outT = K.map fun s => seg t s.fr (s.rt + 1) := by
      rw [hKR, List.map_map, List.map_map]
      refine List.map_congr_left (fun x hx => ?_)
      obtain ⟨r, hr, rfl⟩ := List.getElem_of_mem hx
      obtain ⟨h1, h2, h3⟩ := hK.mem r hr
      exact ih K[r].rt K[r] (by omega) (by omega) h1
    have e2 : s.fr = frOf K i := by
      simp only [Option.some.injEq] at ho
      rw [ho]
      rfl
    rw [show treT t (f + 1) i = .mk (ndAt t i) ((kidsRt t i).map (treT t f)) from rfl, outT_eq, e1, cn_seg t hc, e2, ← seg_one hk, seg_append (cnS_le hc) (by omega)]
theorem tree_root {t : List Nd} {S ys : List Sp} {m : Nat} (HM : t.length = m) (h : after t m = some (S, ys)) (hS : S.length = 1) (hm0 : 0 < m) : outT (treT t m (m - 1)) = t := by
  have hf := after_fine h
  have hc := hf.chain
  obtain ⟨c1, c2⟩ := hc.2.2.1 (by omega)
  have hm1 := hf.mem 0 (by omega)
  have e0 : S[S.length - 1] = S[0] := by congr 1; omega
  rw [e0] at c2
  have e : S[0].rt = m - 1 := by omega
  rw [e] at hm1
  rw [tree_out h m (m - 1) S[0] (by omega) (by omega) hm1, c1]
  unfold seg
  rw [List.drop_zero, List.take_of_length_le (by omega)]
theorem plain_tree {t : List Nd} {S ys : List Sp} {m : Nat} (HM : t.length = m) (h : after t m = some (S, ys)) (hP : PlainS t) (hx : ∀ x ∈ t, x.text.size ≤ 1048576 ∧ (Lit.int .i64 x.num).wf = true) : ∀ f i, i < f → i < m → PlT (treT t f i) := by
  intro f
  induction f with
  | zero => intro i h1; omega
  | succ f ih =>
    intro i hif him
    have hit : i < t.length := by omega
    obtain ⟨Si, hSi, hk, hK⟩ := kids_atS h i him
    have hKR := kidsRt_eq hSi hk
    have hKN := kidsN_eq hSi hk
    obtain ⟨K, hKe⟩ : ∃ K, Si.drop (Si.length - (t[i]).kids.toNat) = K := ⟨_, rfl⟩
    rw [hKe] at hK hKR hKN
    have hlt := kidsRt_lt h him
    have hmem : ndAt t i ∈ t := by rw [ndAt_get hit]; exact List.getElem_mem hit
    obtain ⟨h1, h2⟩ := hx _ hmem
    have hA : after t t.length = some (S, ys) := by rw [HM]; exact h
    have hok := hP.2.2.2 i hit
    rw [okP_eq hA i hit] at hok
    unfold okAt at hok
    simp only [Bool.and_eq_true] at hok
    have e1 : ((kidsRt t i).map (treT t f)).map Tre.nd = kidsN t i := by
      rw [hKN, hKR, List.map_map, List.map_map]
      refine List.map_congr_left (fun x _ => ?_)
      simp only [Function.comp]
      cases f <;> rfl
    refine .mk _ _ ⟨by rw [e1]; exact hok.1, h1, h2, ?_, ?_⟩ (fun k hk9 => ?_)
    · rw [List.length_map, hKR, List.length_map]
      have := hK.len
      have := hP.1
      omega
    · rw [List.length_map, hKR, List.length_map, ndAt_get hit]
      exact hK.num.choose_spec
    · obtain ⟨r, hr, rfl⟩ := List.mem_map.1 hk9
      have := hlt r hr
      exact ih r (by omega) (by omega)
end Go.Proofs.YtedlofpgddjpgaaGreat

namespace Go.Proofs.YtedlofpgddjpgaaGreat
open Go.RowKit Go.Maps
theorem treT_rep {t : List Nd} {S ys : List Sp} {m : Nat} (h : after t m = some (S, ys)) {w : World} {A : Nat → Prop} (hPL : ∀ f i, i < f → i < m → PlT (treT t f i)) : ∀ (f i b : Nat), i < f → i < m → TreeAt t w A b i → PRep w A (treT t f i) b := by
  intro f
  induction f with
  | zero => intro i b h1; omega
  | succ f ih =>
    intro i b h1 h2 hT
    have hlen := (hPL (f + 1) i h1 h2).node.len
    obtain ⟨bs, g, c, cur, hA, hG, blk, row, cells, cap, len, kids⟩ := hT.inv
    have hl : ((kidsRt t i).map (treT t f)).length = bs.length := by rw [List.length_map]; exact len.symm
    refine .mk (ndAt t i) ((kidsRt t i).map (treT t f)) b (some ⟨g, 0, none⟩, bs.length, c) (fun j => bs.getD j 0) hA hl.symm (by rw [hl]; exact cap) hlen blk (fun j hj => ?_) (fun j hj => ?_)
    · have hj2 : j < bs.length := by omega
      refine ⟨g, rfl, hG, ?_⟩
      rw [cell_of_row _ _ _ _ _ _ row, cells j hj2]
      simp [hj2]
    · have hj2 : j < bs.length := by omega
      have hj3 : j < (kidsRt t i).length := by omega
      have hk := kids j hj2 hj3
      have hlt := kidsRt_lt h h2 _ (List.getElem_mem hj3)
      have e1 : bs.getD j 0 = bs[j] := by simp [hj2]
      have e2 : ((kidsRt t i).map (treT t f))[j] = treT t f (kidsRt t i)[j] := by simp
      rw [e1, e2]
      exact ih _ _ (by omega) (by omega) hk
end Go.Proofs.YtedlofpgddjpgaaGreat

import Derived.Test.YtahdmflbdmlfhaaGreatDoorWAA
import Derived.Deep.RegionLaw
namespace Go.Proofs.YtahdmflbdmlfhaaGreatDoor
open Go.RowKit

section
variable {P : Program} (w : World)

/-- Where the new slice lies: where the old one lay, or in a new block. -/
theorem append_where (t ty e : TypeId) (i : TypeInfo) (z : Value) (ht : P.underlying t = some (.slice e)) (hi : P.info? e = some i) (hz : i.zero = some z)
    (base g n cap : Nat) (xs : List Value) (hown : w.ownsRow base e i.size (.slice (some ⟨g, 0, none⟩) n cap) n xs)
    (a : Addr) (m c : Nat) (news : List Value) (hl : news.length = m * i.size) (hnews : ∀ j u, news[j]? = some u → w.cell? (a.add j) = some u) (h1 : ∀ u ∈ news, u.oneCell' = true)
    (h63 : n + m ≤ maxLen) (hbytes : (n + m) * i.bytes ≤ 140737488355328) {v' : Value} {w' : World}
    (hr : (Builtin.append_ #[t, t] ty #[.slice (some ⟨g, 0, none⟩) n cap, .slice (some a) m c]).run P w = .ok v' w') :
    ∃ g' cap', v' = .slice (some ⟨g', 0, none⟩) (n + m) cap' ∧ (g' = g ∨ g' = w.heap.size) := by
  rcases hown.2 with ⟨h, _⟩ | ⟨g2, cap2, cur, he, _, hg, hnc, hcm, hcs, htake⟩
  · cases h
  · simp only [Value.slice.injEq, Option.some.injEq, Addr.mk.injEq, and_true, true_and] at he
    obtain ⟨rfl, rfl⟩ := he
    have hsmall : n + m ≤ 9223372036854775807 := by simp only [maxLen] at h63; omega
    by_cases hroom : n + m ≤ cap
    · have hfit : n * i.size + news.length ≤ cur.size := by rw [hl, hcs, ← Nat.add_mul]; exact Nat.mul_le_mul_right _ hroom
      have h2 := run_append_room (P := P) w t ty e i ht hi g n cap cur hg a m c news hl hnews h1 hroom hfit
      rw [h2] at hr
      simp only [Result.ok.injEq] at hr
      exact ⟨g, cap, hr.1.symm, Or.inl rfl⟩
    · have holds : ∀ j u, xs[j]? = some u → w.cell? ((⟨g, 0, none⟩ : Addr).add j) = some u := hown.cells (g := g) rfl
      have h2 := run_append_grow (P := P) w t ty e i z ht hi hz ⟨g, 0, none⟩ n cap xs hown.1 holds a m c news hl hnews (by omega) (by omega) (growslice_fits (by omega) hbytes)
      rw [h2] at hr
      simp only [Result.ok.injEq] at hr
      exact ⟨w.heap.size, _, hr.1.symm, Or.inr rfl⟩

/-- append to a slice of the call's own that is not nil, as one operation. -/
theorem wp_append2 {o : Oper} {a : Act} {K : Act → World → Prop} {Q : Exit → Act → World → Prop} (s x : Operand) (t : TypeId)
    (ho : o.op = .call { callee := .builtin .append, args := #[s, x], argTypes := #[t, t] })
    (base : Nat) (e : TypeId) (i : TypeInfo) (z : Value) (size bytes : Nat) (ht : P.underlying t = some (.slice e)) (hi : P.info? e = some i) (hz : i.zero = some z)
    (hsize : i.size = size) (hby : i.bytes = bytes) (hzs : z.cells.size = size) (hsz : 0 < size)
    (g n cap : Nat) (xs : List Value) (hs : a.eval s = .slice (some ⟨g, 0, none⟩) n cap) (hown : w.ownsRow base e size (.slice (some ⟨g, 0, none⟩) n cap) n xs)
    (ad : Addr) (m c : Nat) (news : List Value) (hx : a.eval x = .slice (some ad) m c) (hl : news.length = m * size) (hnews : ∀ j u, news[j]? = some u → w.cell? (ad.add j) = some u) (h1 : ∀ u ∈ news, u.oneCell' = true)
    (h63 : n + m ≤ maxLen) (hbytes : (n + m) * bytes ≤ 140737488355328) (hbase : base ≤ w.heap.size)
    (h : ∀ g' cap' w', w'.ownsRow base e size (.slice (some ⟨g', 0, none⟩) (n + m) cap') (n + m) (xs ++ news) → w.grownBy w' (some g) → (g' = g ∨ g' = w.heap.size) → K (a.put o.dst (.slice (some ⟨g', 0, none⟩) (n + m) cap')) w') : o.wp P a w K Q := by
  subst hsize hby
  obtain ⟨v', w', hr, h2, h3, h4⟩ := run_append_own (P := P) w base t o.type e i z i.size i.bytes ht hi hz rfl rfl hzs hsz _ n xs hown ad m c news hl hnews h1 h63 hbytes hbase
  obtain ⟨g', cap', rfl, hw⟩ := append_where w t o.type e i z ht hi hz base g n cap xs hown ad m c news hl hnews h1 h63 hbytes hr
  unfold Oper.wp execOp
  simp only [ho, resolve, invoke, builtin, Sem.run_bind, Sem.run_pure, Result.andThen_ok, List.map_toArray, List.map_cons, List.map_nil, hs, hx, hr]
  exact h g' cap' w' h2 h3 hw

/-- .. in a row of operations. -/
theorem wpList_append2 {ops : Array Oper} {rest : List Oper} {o : Oper} {a : Act} {Q : Exit → Act → World → Prop} (hgd : o.guard = none) (s x : Operand) (t : TypeId)
    (ho : o.op = .call { callee := .builtin .append, args := #[s, x], argTypes := #[t, t] })
    (base : Nat) (e : TypeId) (i : TypeInfo) (z : Value) (size bytes : Nat) (ht : P.underlying t = some (.slice e)) (hi : P.info? e = some i) (hz : i.zero = some z)
    (hsize : i.size = size) (hby : i.bytes = bytes) (hzs : z.cells.size = size) (hsz : 0 < size)
    (g n cap : Nat) (xs : List Value) (hs : a.eval s = .slice (some ⟨g, 0, none⟩) n cap) (hown : w.ownsRow base e size (.slice (some ⟨g, 0, none⟩) n cap) n xs)
    (ad : Addr) (m c : Nat) (news : List Value) (hx : a.eval x = .slice (some ad) m c) (hl : news.length = m * size) (hnews : ∀ j u, news[j]? = some u → w.cell? (ad.add j) = some u) (h1 : ∀ u ∈ news, u.oneCell' = true)
    (h63 : n + m ≤ maxLen) (hbytes : (n + m) * bytes ≤ 140737488355328) (hbase : base ≤ w.heap.size)
    (h : ∀ g' cap' w', w'.ownsRow base e size (.slice (some ⟨g', 0, none⟩) (n + m) cap') (n + m) (xs ++ news) → w.grownBy w' (some g) → (g' = g ∨ g' = w.heap.size) → wpList P ops Q rest (a.put o.dst (.slice (some ⟨g', 0, none⟩) (n + m) cap')) w') : wpList P ops Q (o :: rest) a w :=
  wpList_plain hgd fun _ hK => wp_append2 w s x t ho base e i z size bytes ht hi hz hsize hby hzs hsz g n cap xs hs hown ad m c news hx hl hnews h1 h63 hbytes hbase fun g' cap' w' h2 h3 h4 => hK _ _ (h g' cap' w' h2 h3 h4)

/-- .. in a region that draws its order. -/
theorem step_append2 {ops : Array Oper} {o : Oper} {a : Act} {K : Act → World → Prop} {Q : Exit → Act → World → Prop} {E : Prop} (hgd : o.guard = none) (s x : Operand) (t : TypeId)
    (ho : o.op = .call { callee := .builtin .append, args := #[s, x], argTypes := #[t, t] })
    (base : Nat) (e : TypeId) (i : TypeInfo) (z : Value) (size bytes : Nat) (ht : P.underlying t = some (.slice e)) (hi : P.info? e = some i) (hz : i.zero = some z)
    (hsize : i.size = size) (hby : i.bytes = bytes) (hzs : z.cells.size = size) (hsz : 0 < size)
    (g n cap : Nat) (xs : List Value) (hs : a.eval s = .slice (some ⟨g, 0, none⟩) n cap) (hown : w.ownsRow base e size (.slice (some ⟨g, 0, none⟩) n cap) n xs)
    (ad : Addr) (m c : Nat) (news : List Value) (hx : a.eval x = .slice (some ad) m c) (hl : news.length = m * size) (hnews : ∀ j u, news[j]? = some u → w.cell? (ad.add j) = some u) (h1 : ∀ u ∈ news, u.oneCell' = true)
    (h63 : n + m ≤ maxLen) (hbytes : (n + m) * bytes ≤ 140737488355328) (hbase : base ≤ w.heap.size)
    (h : ∀ g' cap' w', w'.ownsRow base e size (.slice (some ⟨g', 0, none⟩) (n + m) cap') (n + m) (xs ++ news) → w.grownBy w' (some g) → (g' = g ∨ g' = w.heap.size) → K (a.put o.dst (.slice (some ⟨g', 0, none⟩) (n + m) cap')) w') :
    if Region.wanted o (yielded ops a.tmps) = true then Oper.wp P o a w K Q else E := by
  have hw : Region.wanted o (yielded ops a.tmps) = true := by simp [Region.wanted, hgd]
  rw [if_pos hw]
  exact wp_append2 w s x t ho base e i z size bytes ht hi hz hsize hby hzs hsz g n cap xs hs hown ad m c news hx hl hnews h1 h63 hbytes hbase h
end

/-- A shorter part of an owned slice. -/
theorem owns_take {w : World} {base : Nat} {e : TypeId} {size g n cap : Nat} {xs : List Value} (h : w.ownsRow base e size (.slice (some ⟨g, 0, none⟩) n cap) n xs) (m : Nat) (hm : m ≤ n) :
    w.ownsRow base e size (.slice (some ⟨g, 0, none⟩) m cap) m (xs.take (m * size)) := by
  have hle : m * size ≤ n * size := Nat.mul_le_mul_right _ hm
  refine ⟨by rw [List.length_take, h.1]; omega, ?_⟩
  rcases h.2 with ⟨h', _⟩ | ⟨g2, cap2, cur, he, hb, hg, hnc, hcm, hcs, htake⟩
  · cases h'
  · simp only [Value.slice.injEq, Option.some.injEq, Addr.mk.injEq, and_true, true_and] at he
    obtain ⟨rfl, rfl⟩ := he
    exact Or.inr ⟨g, cap, cur, rfl, hb, hg, by omega, hcm, hcs, by rw [← htake, List.take_take, Nat.min_eq_left hle]⟩

/-- What an owned slice holds. -/
theorem owns_at {w : World} {base : Nat} {e : TypeId} {size g n cap : Nat} {xs : List Value} (h : w.ownsRow base e size (.slice (some ⟨g, 0, none⟩) n cap) n xs) (j : Nat) (hj : j < n * size) : w.cell? ⟨g, j, none⟩ = xs[j]? := h.cellAt j hj

theorem owns_kept {w w' : World} {base : Nat} {e : TypeId} {size g n cap : Nat} {xs : List Value} (h : w.ownsRow base e size (.slice (some ⟨g, 0, none⟩) n cap) n xs) {k : Nat} (hg : w.grownBy w' (some k)) (hne : g ≠ k) : w'.ownsRow base e size (.slice (some ⟨g, 0, none⟩) n cap) n xs := by
  refine ⟨h.1, ?_⟩
  rcases h.2 with h' | ⟨g2, cap2, cur, he, hb, hh, r⟩
  · exact Or.inl h'
  · have he' := he
    simp only [Value.slice.injEq, Option.some.injEq, Addr.mk.injEq, and_true, true_and] at he
    obtain ⟨rfl, rfl⟩ := he
    exact Or.inr ⟨g, cap, cur, rfl, hb, (hg.block g (Array.getElem?_eq_some_iff.1 hh).1 (by simpa using hne)).trans hh, r⟩

theorem owns_block {w : World} {base : Nat} {e : TypeId} {size g n cap : Nat} {xs : List Value} (h : w.ownsRow base e size (.slice (some ⟨g, 0, none⟩) n cap) n xs) : base ≤ g ∧ g < w.heap.size := by
  rcases h.2 with ⟨h', _⟩ | ⟨g2, cap2, cur, he, hb, hh, r⟩
  · cases h'
  · simp only [Value.slice.injEq, Option.some.injEq, Addr.mk.injEq, and_true, true_and] at he
    obtain ⟨rfl, rfl⟩ := he
    exact ⟨hb, (Array.getElem?_eq_some_iff.1 hh).1⟩

theorem owns_but {S : Nat → Prop} {w w' : World} {base : Nat} {e : TypeId} {size g n cap : Nat} {xs : List Value} (h : w.ownsRow base e size (.slice (some ⟨g, 0, none⟩) n cap) n xs) (hb : But S w w') (hne : ¬ S g) : w'.ownsRow base e size (.slice (some ⟨g, 0, none⟩) n cap) n xs := by
  refine ⟨h.1, ?_⟩
  rcases h.2 with h' | ⟨g2, cap2, cur, he, hbs, hh, r⟩
  · exact Or.inl h'
  · simp only [Value.slice.injEq, Option.some.injEq, Addr.mk.injEq, and_true, true_and] at he
    obtain ⟨rfl, rfl⟩ := he
    exact Or.inr ⟨g, cap, cur, rfl, hbs, (hb.block g (Array.getElem?_eq_some_iff.1 hh).1 hne).trans hh, r⟩

end Go.Proofs.YtahdmflbdmlfhaaGreatDoor

namespace Go.Proofs.YtahdmflbdmlfhaaGreatDoor

/-- A term inside a list: where it begins, its root, how deep it is. -/
structure Sp where
  fr : Nat
  rt : Nat
  dp : Nat

def dpOf (kids : List Sp) : Nat := kids.foldl (fun d k => max d (k.dp + 1)) 1

def frOf (kids : List Sp) (i : Nat) : Nat := match kids with
  | [] => i
  | k :: _ => k.fr

def over (kids : List Sp) (i : Nat) : Sp := ⟨frOf kids i, i, dpOf kids⟩

/-- One node more: what is free behind it, and its own term; none where it asks for kids that are not there. -/
def step (S : List Sp) (i : Nat) (n : Int) : Option (List Sp × Sp) :=
  if n < 0 ∨ (S.length : Int) < n then none
  else some (S.take (S.length - n.toNat) ++ [over (S.drop (S.length - n.toNat)) i], over (S.drop (S.length - n.toNat)) i)

/-- Behind k nodes: what is free, and the terms of all k. -/
def after (t : List Nd) : Nat → Option (List Sp × List Sp)
  | 0 => some ([], [])
  | k + 1 => match after t k with
    | none => none
    | some (S, ys) => match t[k]? with
      | none => none
      | some x => match step S k x.kids with
        | none => none
        | some (S', s) => some (S', ys ++ [s])

theorem after_succ {t : List Nd} {k : Nat} {S ys S' : List Sp} {s : Sp} (h : after t k = some (S, ys)) (hk : k < t.length) (hs : step S k t[k].kids = some (S', s)) : after t (k + 1) = some (S', ys ++ [s]) := by
  simp only [after, h, List.getElem?_eq_getElem hk, hs]

theorem after_fail {t : List Nd} {k : Nat} {S ys : List Sp} (h : after t k = some (S, ys)) (hk : k < t.length) (hs : step S k t[k].kids = none) : after t (k + 1) = none := by
  simp only [after, h, List.getElem?_eq_getElem hk, hs]

theorem after_none {t : List Nd} {k : Nat} (h : after t k = none) : ∀ m, k ≤ m → after t m = none := by
  intro m hm
  induction m with
  | zero => have : k = 0 := by omega
            subst this; exact h
  | succ m ih =>
    by_cases e : k = m + 1
    · subst e; exact h
    · simp only [after, ih (by omega)]

theorem after_inv {t : List Nd} {k : Nat} {S' ys' : List Sp} (h : after t (k + 1) = some (S', ys')) : ∃ S ys s, ∃ hk : k < t.length, after t k = some (S, ys) ∧ step S k t[k].kids = some (S', s) ∧ ys' = ys ++ [s] := by
  simp only [after] at h
  cases ha : after t k with
  | none => simp [ha] at h
  | some p =>
    obtain ⟨S, ys⟩ := p
    simp only [ha] at h
    by_cases hk : k < t.length
    · rw [List.getElem?_eq_getElem hk] at h
      simp only at h
      cases hs : step S k t[k].kids with
      | none => simp [hs] at h
      | some q =>
        obtain ⟨S2, s⟩ := q
        simp only [hs, Option.some.injEq, Prod.mk.injEq] at h
        obtain ⟨rfl, rfl⟩ := h
        exact ⟨S, ys, s, hk, rfl, hs, rfl⟩
    · rw [List.getElem?_eq_none (by omega)] at h
      simp at h

theorem step_some {S : List Sp} {i : Nat} {n : Int} {S' : List Sp} {s : Sp} (h : step S i n = some (S', s)) :
    0 ≤ n ∧ n ≤ S.length ∧ S' = S.take (S.length - n.toNat) ++ [s] ∧ s = over (S.drop (S.length - n.toNat)) i := by
  unfold step at h
  split at h
  · simp at h
  · simp only [Option.some.injEq, Prod.mk.injEq] at h
    obtain ⟨h1, h2⟩ := h
    subst h2
    exact ⟨by omega, by omega, h1.symm, rfl⟩

theorem step_of {S : List Sp} {i : Nat} {n : Int} (h0 : 0 ≤ n) (h1 : n ≤ S.length) : step S i n = some (S.take (S.length - n.toNat) ++ [over (S.drop (S.length - n.toNat)) i], over (S.drop (S.length - n.toNat)) i) := by
  unfold step
  rw [if_neg (by omega)]

theorem step_none {S : List Sp} {i : Nat} {n : Int} (h : n < 0 ∨ (S.length : Int) < n) : step S i n = none := by
  unfold step
  rw [if_pos h]

/-- The terms that are free stand one behind the other, up to here. -/
def Chain (S : List Sp) (k : Nat) : Prop :=
  (∀ j (h : j < S.length), S[j].fr ≤ S[j].rt ∧ S[j].rt < k) ∧ (∀ j (h : j + 1 < S.length), S[j].rt + 1 = S[j + 1].fr) ∧ (∀ h : 0 < S.length, S[0].fr = 0 ∧ (S[S.length - 1]'(by omega)).rt + 1 = k) ∧ (S.length = 0 → k = 0)

/-- What holds of every state. -/
structure Fine (k : Nat) (S ys : List Sp) : Prop where
  len : ys.length = k
  root : ∀ i (h : i < ys.length), ys[i].rt = i ∧ ys[i].fr ≤ i ∧ 1 ≤ ys[i].dp ∧ ys[i].dp ≤ i + 1
  chain : Chain S k
  mem : ∀ j (h : j < S.length), ys[S[j].rt]? = some S[j]

theorem dpOf_le (kids : List Sp) (b : Nat) (h : ∀ x ∈ kids, x.dp ≤ b) : 1 ≤ dpOf kids ∧ dpOf kids ≤ b + 1 := by
  unfold dpOf
  have key : ∀ (l : List Sp) (d : Nat), (∀ x ∈ l, x.dp ≤ b) → 1 ≤ d → d ≤ b + 1 → 1 ≤ l.foldl (fun d k => max d (k.dp + 1)) d ∧ l.foldl (fun d k => max d (k.dp + 1)) d ≤ b + 1 := by
    intro l
    induction l with
    | nil => intro d _ h1 h2; exact ⟨h1, h2⟩
    | cons x l ih =>
      intro d hl h1 h2
      have hx := hl x (by simp)
      exact ih (max d (x.dp + 1)) (fun y hy => hl y (by simp [hy])) (by omega) (by omega)
  exact key kids 1 h (by omega) (by omega)

theorem Fine.snoc {k : Nat} {S ys : List Sp} {n : Int} {S' : List Sp} {s : Sp} (hf : Fine k S ys) (hstep : step S k n = some (S', s)) : Fine (k + 1) S' (ys ++ [s]) := by
  obtain ⟨h0, h1, rfl, hs⟩ := step_some hstep
  clear hstep
  obtain ⟨m, hm⟩ : ∃ m, m = S.length - n.toNat := ⟨_, rfl⟩
  rw [← hm] at hs ⊢
  have hmS : m ≤ S.length := by omega
  have hrt : s.rt = k := by rw [hs]; rfl
  have hlt : (S.take m).length = m := by simp; omega
  have hfr : s.fr = if h : m < S.length then S[m].fr else k := by
    rw [hs]
    show frOf (S.drop m) k = _
    split
    · rename_i h
      rw [List.drop_eq_getElem_cons h]
      rfl
    · rename_i h
      rw [List.drop_eq_nil_of_le (by omega)]
      rfl
  have hfk : s.fr ≤ k := by
    rw [hfr]
    split
    · rename_i h
      have := hf.chain.1 m h
      omega
    · omega
  have hdp : 1 ≤ s.dp ∧ s.dp ≤ k + 1 := by
    rw [hs]
    refine dpOf_le (S.drop m) k ?_
    intro x hx
    obtain ⟨j, hj, rfl⟩ := List.getElem_of_mem hx
    rw [List.getElem_drop]
    have hjS : m + j < S.length := by simp at hj; omega
    have h2 := hf.mem (m + j) hjS
    obtain ⟨hlt2, he⟩ := List.getElem?_eq_some_iff.1 h2
    have h3 := hf.root _ hlt2
    rw [he] at h3
    have := hf.len
    omega
  refine ⟨by simp [hf.len], ?_, ⟨?_, ?_, ?_, ?_⟩, ?_⟩
  · intro i hi
    by_cases hik : i < ys.length
    · rw [List.getElem_append_left hik]; exact hf.root i hik
    · have hl := hf.len
      have e : i = k := by simp at hi; omega
      subst e
      rw [List.getElem_append_right (by omega)]
      simp only [List.getElem_singleton]
      exact ⟨hrt, hfk, hdp⟩
  · intro j hj
    by_cases hjm : j < m
    · rw [List.getElem_append_left (by omega), List.getElem_take]
      have := hf.chain.1 j (by omega)
      omega
    · rw [List.getElem_append_right (by omega)]
      simp only [List.getElem_singleton]
      omega
  · intro j hj
    simp only [List.length_append, hlt, List.length_cons, List.length_nil] at hj
    rw [List.getElem_append_left (by omega), List.getElem_take]
    by_cases hjm : j + 1 < m
    · rw [List.getElem_append_left (by omega), List.getElem_take]
      exact hf.chain.2.1 j (by omega)
    · rw [List.getElem_append_right (by omega)]
      simp only [List.getElem_singleton]
      rw [hfr]
      have e : m = j + 1 := by omega
      subst e
      split
      · rename_i h; exact hf.chain.2.1 j h
      · rename_i h
        have h2 := hf.chain.2.2.1 (by omega)
        have e2 : S.length - 1 = j := by omega
        have h3 := h2.2
        simp only [e2] at h3
        exact h3
  · intro h
    constructor
    · by_cases hm0 : 0 < m
      · rw [List.getElem_append_left (by omega), List.getElem_take]
        exact (hf.chain.2.2.1 (by omega)).1
      · rw [List.getElem_append_right (by omega)]
        simp only [List.getElem_singleton]
        rw [hfr]
        have e : m = 0 := by omega
        subst e
        split
        · rename_i h2; exact (hf.chain.2.2.1 h2).1
        · rename_i h2; have := hf.chain.2.2.2 (by omega); omega
    · rw [List.getElem_append_right (by simp)]
      simp only [List.getElem_singleton]
      omega
  · intro h
    simp at h
  · intro j hj
    simp only [List.length_append, hlt, List.length_cons, List.length_nil] at hj
    by_cases hjm : j < m
    · rw [List.getElem_append_left (by omega), List.getElem_take]
      have h1 := hf.mem j (by omega)
      have h2 := (List.getElem?_eq_some_iff.1 h1).1
      rw [List.getElem?_append_left h2]
      exact h1
    · rw [List.getElem_append_right (by omega)]
      simp only [List.getElem_singleton, hrt]
      rw [List.getElem?_append_right (by have := hf.len; omega)]
      have : k - ys.length = 0 := by have := hf.len; omega
      rw [this]
      rfl

theorem after_fine {t : List Nd} : ∀ {k : Nat} {S ys : List Sp}, after t k = some (S, ys) → Fine k S ys := by
  intro k
  induction k with
  | zero =>
    intro S ys h
    simp only [after, Option.some.injEq, Prod.mk.injEq] at h
    obtain ⟨rfl, rfl⟩ := h
    exact ⟨rfl, fun i h => by simp at h, ⟨fun j h => by simp at h, fun j h => by simp at h, fun h => by simp at h, fun _ => rfl⟩, fun j h => by simp at h⟩
  | succ k ih =>
    intro S' ys' h
    obtain ⟨S, ys, s, hk, ha, hs, rfl⟩ := after_inv h
    exact (ih ha).snoc hs

theorem after_le {t : List Nd} {k : Nat} {S ys : List Sp} (h : after t k = some (S, ys)) : k ≤ t.length := by
  cases k with
  | zero => omega
  | succ k => obtain ⟨_, _, _, hk, _⟩ := after_inv h; omega

/-- The states ahead of a state: its terms are a part of the later ones. -/
theorem after_part {t : List Nd} {k : Nat} {S ys : List Sp} (h : after t k = some (S, ys)) : ∀ m, m ≤ k → ∃ S', after t m = some (S', ys.take m) := by
  intro m hm
  induction k generalizing S ys with
  | zero =>
    have : m = 0 := by omega
    subst this
    exact ⟨S, by simp only [after, Option.some.injEq, Prod.mk.injEq] at h ⊢; obtain ⟨rfl, rfl⟩ := h; simp⟩
  | succ k ih =>
    have hfl := (after_fine h).len
    by_cases e : m = k + 1
    · subst e
      exact ⟨S, by rw [List.take_of_length_le (by omega)]; exact h⟩
    · obtain ⟨S0, ys0, s, hk, ha, hs, rfl⟩ := after_inv h
      obtain ⟨S', h'⟩ := ih ha (by omega)
      have hl := (after_fine ha).len
      exact ⟨S', by rw [List.take_append_of_le_length (by omega)]; exact h'⟩

theorem chain_len {S : List Sp} {k : Nat} (h : Chain S k) : S.length ≤ k := by
  have key : ∀ j (hj : j < S.length), j ≤ S[j].rt := by
    intro j
    induction j with
    | zero => intro _; omega
    | succ j ih =>
      intro hj
      have h1 := ih (by omega)
      have h2 := h.2.1 j hj
      have h3 := (h.1 (j + 1) hj).1
      omega
  by_cases h0 : S.length = 0
  · omega
  · have h1 := key (S.length - 1) (by omega)
    have h2 := (h.1 (S.length - 1) (by omega)).2
    omega

/-- How deep the list is; 0 where it is no term, or too great a one. -/
def deepOf (t : List Nd) : Nat :=
  if 6000 < t.length then 0 else match after t t.length with
  | none => 0
  | some (_, ys) => match ys.getLast? with
    | none => 0
    | some s => if s.fr = 0 ∧ s.dp ≤ 300 then s.dp else 0

end Go.Proofs.YtahdmflbdmlfhaaGreatDoor

namespace Go.Proofs.YtahdmflbdmlfhaaGreatDoor

open Go.RowKit

theorem new_cells (w : World) (n : Nd) : ∀ j u, n.row[j]? = some u →
    (w.alloc (.cells #[.int .i64 n.kind, .int .i64 n.num, .string n.text, .int .i64 n.kids, .int .i64 n.place] 40)).cell? (Addr.add ⟨w.heap.size, 0, none⟩ j) = some u := by
  intro j u hj
  have hl : j < n.row.length := (List.getElem?_eq_some_iff.1 hj).1
  have ad : Addr.add ⟨w.heap.size, 0, none⟩ j = ⟨w.heap.size, j, none⟩ := by
    unfold Addr.add
    split
    · simp_all
    · simp
  rw [ad, cell_of_row _ w.heap.size j _ 40 (0, 0) (heap_alloc_new _ _), ← hj]
  simp [Nd.row]

theorem row_one (n : Nd) : ∀ u ∈ n.row, u.oneCell' = true := by
  intro u hu
  simp [Nd.row] at hu
  rcases hu with rfl | rfl | rfl | rfl | rfl <;> rfl

/-- A slice that owns the nodes zs. -/
def HoldsJ (w : World) (B : Nat) (v : Value) (zs : List Nd) : Prop := w.ownsRow B 40 5 v zs.length (flat zs)

theorem HoldsJ.length {w : World} {B : Nat} {v : Value} {zs : List Nd} (_ : HoldsJ w B v zs) : (flat zs).length = zs.length * 5 := flat_length zs

theorem HoldsJ.push {w : World} {B : Nat} {v : Value} {zs : List Nd} {x : Nd} {m : Nat} (h : w.ownsRow B 40 5 v m (flat zs ++ x.row)) (hm : m = zs.length + 1) : HoldsJ w B v (zs ++ [x]) := by
  subst hm
  unfold HoldsJ
  rw [flat_append, List.length_append]
  exact h

theorem HoldsJ.block {w : World} {B : Nat} {v : Value} {zs : List Nd} (h : HoldsJ w B v zs) : ∀ k, v.ownBlock = some k → B ≤ k := by
  intro k hk
  rcases h.2 with ⟨rfl, _⟩ | ⟨g, cap, cur, rfl, hg, _⟩
  · simp [Value.ownBlock] at hk
  · simp [Value.ownBlock] at hk
    omega

theorem HoldsJ.mono {w : World} {B B' : Nat} {v : Value} {zs : List Nd} (h : HoldsJ w B v zs) (hb : B' ≤ B) : HoldsJ w B' v zs := by
  refine ⟨h.1, ?_⟩
  rcases h.2 with h2 | ⟨g, cap, cur, e, hg, r⟩
  · exact Or.inl h2
  · exact Or.inr ⟨g, cap, cur, e, Nat.le_trans hb hg, r⟩

/-- What a slice that owns nodes is: a row of nodes. -/
theorem HoldsJ.row {w : World} {B : Nat} {v : Value} {zs : List Nd} (h : HoldsJ w B v zs) (hne : zs ≠ []) : ∃ g cap, v = .slice (some ⟨g, 0, none⟩) zs.length cap ∧ B ≤ g ∧ Row w g zs := by
  rcases h.2 with ⟨_, h0⟩ | ⟨g, cap, cur, e, hg, hh, _, _, _, ht⟩
  · exact absurd (List.length_eq_zero_iff.1 h0) hne
  · refine ⟨g, cap, e, hg, cur, cur.toList.drop (zs.length * 5), hh, ?_⟩
    rw [← ht, List.take_append_drop]

theorem flatten_take_succ (kss : List (List Nd)) (k : Nat) (h : k < kss.length) : (kss.take (k + 1)).flatten = (kss.take k).flatten ++ kss[k] := by
  rw [List.take_succ_eq_append_getElem h, List.flatten_append]
  simp only [List.flatten_cons, List.flatten_nil, List.append_nil]

theorem length_flatten_take (kss : List (List Nd)) (k : Nat) : (kss.take k).flatten.length ≤ total kss := by
  have := total_take_le kss k
  rw [List.length_flatten]
  exact this

set_option maxHeartbeats 1000000 in
theorem specJoin_any (x : Nd) (kss : List (List Nd)) (n : Nat) (HN : Hid (kss.length = n)) (ao : Option Addr) (cap : Nat) (w : World) (hx : Lists w ao kss) (ht : total kss ≤ 1048576) (hlen : n ≤ 1048576) :
    Calls Tryz.prog 11 #[.agg #[.int .i64 x.kind, .int .i64 x.num, .string x.text, .int .i64 x.kids, .int .i64 x.place], .slice ao n cap] w fun e w' =>
      ∃ v, e = .returned v ∧ HoldsJ w' w.heap.size v (kss.flatten ++ [{ x with kids := (n : Int) }]) ∧ Below w.heap.size w w' := by
  obtain ⟨i0, hi, hz0, hz1, hz2⟩ := info_parts Tryz.infoN
  go_enter Tryz.func11, Tryz.ntmps11
  go_wp2
  obtain ⟨W1, hW1⟩ : ∃ W1, W1 = w.alloc (.cells #[.int .i64 x.kind, .int .i64 x.num, .string x.text, .int .i64 x.kids, .int .i64 x.place] 40) := ⟨_, rfl⟩
  have HW1 : Hid (W1 = w.alloc (.cells #[.int .i64 x.kind, .int .i64 x.num, .string x.text, .int .i64 x.kids, .int .i64 x.place] 40)) := hW1
  have HB1 : Below w.heap.size w W1 := by rw [hW1]; exact (Below.refl _ _).alloc (Nat.le_refl _) _
  have HS1 : Hid (W1.heap.size = w.heap.size + 1) := by show W1.heap.size = w.heap.size + 1; rw [hW1]; simp
  have hx1 := hx.below HB1
  clear hx hW1
  go_loopw [5, 6] (fun v i wr => ∃ (k : Nat), k ≤ n ∧ i = .int .i64 k ∧ HoldsJ wr (w.heap.size + 1) v (kss.take k).flatten ∧ Below W1.heap.size W1 wr) (fun _ i _ => n - (intOf i).toNat)
  case atStart =>
    refine ⟨0, Nat.zero_le _, rfl, ⟨by simp [flat], Or.inr ⟨w.heap.size + 1, 0, #[], rfl, Nat.le_refl _, ?_, Nat.le_refl _, by simp [maxLen], rfl, by simp [flat]⟩⟩, ?_⟩
    · rw [← HW1.out, ← HS1.out]; exact heap_alloc_new _ _
    · rw [← HW1.out]; exact (Below.refl _ _).alloc (Nat.le_refl _) _
  case round =>
    obtain ⟨k, hk, rfl, hown, hb⟩ := hrel
    by_cases hlt : k < n
    · have hltk : k < kss.length := by have := HN.out; omega
      obtain ⟨b, o, ai, ci, rfl, hc, hn⟩ := hx1 k hltk
      obtain ⟨ks, hks⟩ : ∃ ks, kss[k] = ks := ⟨_, rfl⟩
      have HKS : Hid (kss[k] = ks) := hks
      have hml : ks.length ≤ 1048576 := by have := length_le_total kss k hltk; rw [hks] at this; omega
      have hdl := length_flatten_take kss k
      have HFT : Hid ((kss.take (k + 1)).flatten = (kss.take k).flatten ++ ks) := by have := flatten_take_succ kss k hltk; rw [hks] at this; exact this
      have htl : (kss.take k).flatten.length + ks.length ≤ total kss := by
        have := length_flatten_take kss (k + 1)
        rw [HFT.out, List.length_append] at this
        exact this
      obtain ⟨dn, hdn⟩ : ∃ dn, (kss.take k).flatten = dn := ⟨_, rfl⟩
      have HDN : Hid ((kss.take k).flatten = dn) := hdn
      rw [hdn] at hown hdl htl
      rw [hks] at hc hn
      clear hks hx1 hdn
      go_wp2
      go_loopw [5, 7] (fun v i wr => ∃ (j : Nat), j ≤ ks.length ∧ i = .int .i64 j ∧ HoldsJ wr (w.heap.size + 1) v (dn ++ ks.take j) ∧ Below W1.heap.size W1 wr) (fun _ i _ => ks.length - (intOf i).toNat)
      case atStart => exact ⟨0, Nat.zero_le _, rfl, by simpa using hown, hb⟩
      case round =>
        clear hown hb
        obtain ⟨j, hj, rfl, hown, hb⟩ := hrel
        have hcc := (hb.cell (p := ⟨b, o + k, none⟩) (lt_of_cell hc)).trans hc
        by_cases hjl : j < ks.length
        · obtain ⟨b', o', rfl, hnj⟩ := hn.below hb j hjl
          obtain ⟨y, hy⟩ : ∃ y, ks[j] = y := ⟨_, rfl⟩
          have HY : Hid (ks[j] = y) := hy
          rw [hy] at hnj
          obtain ⟨e0, e1, e2, e3, e4⟩ := hnj
          clear hy hn hc
          have hlen2 : (dn ++ ks.take j).length = dn.length + j := by simp; omega
          have HL2 : Hid ((dn ++ ks.take j).length = dn.length + j) := hlen2
          clear hlen2
          go_wp2_with (at_builtin; refine wpList_append_own _ rfl _ _ 29 rfl (w.heap.size + 1) 40 i0 _ 5 48 Tryz.underlying29 hi hz0 hz1 hz2 rfl (by decide) _ _ _ rfl (hown.alloc _) ⟨_, 0, none⟩ 1 1 y.row rfl rfl ?c1 ?c2 ?c3 ?c4 ?c5 ?_)
          case c1 => exact new_cells _ y
          case c2 => exact row_one y
          case c3 => rw [HL2.out]; unfold maxLen; omega
          case c4 => rw [HL2.out]; omega
          case c5 => have := hb.size; have := HS1.out; simp; omega
          intro v' w1 hown' hgrow _
          have H2 : HoldsJ w1 (w.heap.size + 1) v' (dn ++ ks.take (j + 1)) := by
            have := HoldsJ.push hown' (by rw [HL2.out])
            rw [List.take_succ_eq_append_getElem hjl, HY.out, ← List.append_assoc]
            exact this
          have hbb : Below W1.heap.size W1 w1 := (hb.alloc hb.size _).grown hgrow (by have := hb.size; simp; omega) (fun q hq => by have := HoldsJ.block hown q hq; have := HS1.out; omega)
          clear hown hown' hgrow hb hcc e0 e1 e2 e3 e4
          go_wp2
          go_roundw
          case rel => exact ⟨j + 1, by omega, by go_num, H2, hbb⟩
          case measure => simp [intOf]; omega
        · have hje : ks.take j = ks := List.take_of_length_le (by omega)
          have H2 : HoldsJ wr (w.heap.size + 1) u5 (kss.take (k + 1)).flatten := by
            rw [HFT.out, HDN.out]
            rw [hje] at hown
            exact hown
          clear hown hje hn hc
          go_wp2
          go_roundw
          case rel => exact ⟨k + 1, by omega, by go_num, H2, hb⟩
          case measure => simp [intOf]; omega
    · have hke : k = n := by omega
      subst hke
      have HE : Hid (kss.take k = kss) := List.take_of_length_le (by have := HN.out; omega)
      rw [HE.out] at hown
      have hfl : kss.flatten.length ≤ 1048576 := by have := length_flatten_take kss k; rw [HE.out] at this; omega
      have hz : ∀ j, wr.cell? ⟨w.heap.size, j, none⟩ = W1.cell? ⟨w.heap.size, j, none⟩ := fun j => hb.cell (p := ⟨w.heap.size, j, none⟩) (by have := HS1.out; show w.heap.size < _; omega)
      have hf3 : wr.frozen? ⟨w.heap.size, 3, none⟩ = false := by
        rw [hb.frozen (p := ⟨w.heap.size, 3, none⟩) (by have := HS1.out; show w.heap.size < _; omega), HW1.out]
        exact frozen_of_row _ w.heap.size 3 _ 40 (heap_alloc_new _ _)
      have g0 : wr.cell? ⟨w.heap.size, 0, none⟩ = some (.int .i64 x.kind) := by rw [hz, HW1.out, cell_of_row _ w.heap.size 0 _ 40 (0, 0) (heap_alloc_new _ _)]; rfl
      have g1 : wr.cell? ⟨w.heap.size, 1, none⟩ = some (.int .i64 x.num) := by rw [hz, HW1.out, cell_of_row _ w.heap.size 1 _ 40 (0, 0) (heap_alloc_new _ _)]; rfl
      have g2 : wr.cell? ⟨w.heap.size, 2, none⟩ = some (.string x.text) := by rw [hz, HW1.out, cell_of_row _ w.heap.size 2 _ 40 (0, 0) (heap_alloc_new _ _)]; rfl
      have g3 : wr.cell? ⟨w.heap.size, 3, none⟩ = some (.int .i64 x.kids) := by rw [hz, HW1.out, cell_of_row _ w.heap.size 3 _ 40 (0, 0) (heap_alloc_new _ _)]; rfl
      have g4 : wr.cell? ⟨w.heap.size, 4, none⟩ = some (.int .i64 x.place) := by rw [hz, HW1.out, cell_of_row _ w.heap.size 4 _ 40 (0, 0) (heap_alloc_new _ _)]; rfl
      have hown3 := ownsRow_setCell_below hown (a := ⟨w.heap.size, 3, none⟩) (Nat.lt_succ_self _) (.int .i64 (k : Int))
      clear hz hx1
      go_wp2_with (at_builtin; refine wpList_append_own _ rfl _ _ 29 rfl (w.heap.size + 1) 40 i0 _ 5 48 Tryz.underlying29 hi hz0 hz1 hz2 rfl (by decide) _ _ _ rfl (hown3.alloc _) ⟨_, 0, none⟩ 1 1 (Nd.row { x with kids := (k : Int) }) rfl rfl ?d1 ?d2 ?d3 ?d4 ?d5 ?_)
      case d1 =>
        have := new_cells (wr.setCell ⟨w.heap.size, 3, none⟩ (.int .i64 (k : Int))) { x with kids := (k : Int) }
        rw [size_setCell] at this
        exact this
      case d2 => exact row_one _
      case d3 => unfold maxLen; omega
      case d4 => omega
      case d5 => have := hb.size; have := HS1.out; simp; omega
      intro v' w1 hown' hgrow _
      have H2 := HoldsJ.push hown' (by rw [List.length_flatten])
      have hb2 : Below w.heap.size w wr := HB1.trans (hb.mono HB1.size)
      have hbb : Below w.heap.size w w1 := ((hb2.setCell (p := ⟨w.heap.size, 3, none⟩) (Nat.le_refl _) (.int .i64 (k : Int))).alloc (by rw [size_setCell]; exact hb2.size) _).grown hgrow (by have := hb2.size; simp; omega) (fun q hq => by have := HoldsJ.block hown q hq; omega)
      clear hown hown' hgrow hb hown3 g0 g1 g2 g3 g4
      go_wp2
      go_ret
      exact ⟨_, rfl, H2.mono (Nat.le_succ _), hbb⟩

end Go.Proofs.YtahdmflbdmlfhaaGreatDoor

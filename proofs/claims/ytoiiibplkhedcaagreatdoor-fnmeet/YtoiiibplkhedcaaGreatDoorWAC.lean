import Derived.Test.YtoiiibplkhedcaaGreatDoorWAB
import Derived.Deep.RegionLaw
import Derived.Deep.Light
import Derived.Laws.BytesArg
import Derived.Deep.RegionWith
namespace Go.Proofs.YtoiiibplkhedcaaGreatDoor
open Go.RowKit
section
variable {P : Program} (w : World)
theorem Qiu (t ty e : TypeId) (i : TypeInfo) (z : Value) (ht : P.underlying t = some (.slice e)) (hi : P.info? e = some i) (hz : i.zero = some z)
    (base g n cap : Nat) (xs : List Value) (hown : w.ownsRow base e i.size (.slice (some ⟨g, 0, none⟩) n cap) n xs)
    (a : Addr) (m c : Nat) (news : List Value) (hl : news.length = m * i.size) (hnews : ∀ j u, news[j]? = some u → w.cell? (a.add j) = some u) (h1 : ∀ u ∈ news, u.oneCell' = true)
    (h63 : n + m ≤ maxLen) (hbytes : (n + m) * i.bytes ≤ 140737488355328) {v' : Value} {w' : World}
    (hr : (Builtin.append_ #[t, t] ty #[.slice (some ⟨g, 0, none⟩) n cap, .slice (some a) m c]).run P w = .ok v' w') :
    ∃ g' cap', v' = .slice (some ⟨g', 0, none⟩) (n + m) cap' ∧ (g' = g ∨ g' = w.heap.size) := by
  rcases hown.2 with ⟨h, _⟩ | ⟨g2, cap2, cur, he, _, hg, hnc, hcm, hcs, htake⟩
  · cases h
  · simp only [Value.slice.injEq, Option.some.injEq, Addr.mk.injEq, and_true, true_and] at he
    obtain ⟨rfl, rfl⟩ := he
    have hsmall : n + m ≤ 9223372036854775807 := by simp only [maxLen] at h63; omega
    by_cases hroom : n + m ≤ cap
    · have hfit : n * i.size + news.length ≤ cur.size := by rw [hl, hcs, ← Nat.add_mul]; exact Nat.mul_le_mul_right _ hroom
      have h2 := run_append_room (P := P) w t ty e i ht hi g n cap cur hg a m c news hl hnews h1 hroom hfit
      rw [h2] at hr
      simp only [Result.ok.injEq] at hr
      exact ⟨g, cap, hr.1.symm, Or.inl rfl⟩
    · have holds : ∀ j u, xs[j]? = some u → w.cell? ((⟨g, 0, none⟩ : Addr).add j) = some u := hown.cells (g := g) rfl
      have h2 := run_append_grow (P := P) w t ty e i z ht hi hz ⟨g, 0, none⟩ n cap xs hown.1 holds a m c news hl hnews (by omega) (by omega) (growslice_fits (by omega) hbytes)
      rw [h2] at hr
      simp only [Result.ok.injEq] at hr
      exact ⟨w.heap.size, _, hr.1.symm, Or.inr rfl⟩
theorem Qhp {o : Oper} {a : Act} {K : Act → World → Prop} {Q : Exit → Act → World → Prop} (s x : Operand) (t : TypeId)
    (ho : o.op = .call { callee := .builtin .append, args := #[s, x], argTypes := #[t, t] })
    (base : Nat) (e : TypeId) (i : TypeInfo) (z : Value) (size bytes : Nat) (ht : P.underlying t = some (.slice e)) (hi : P.info? e = some i) (hz : i.zero = some z)
    (hsize : i.size = size) (hby : i.bytes = bytes) (hzs : z.cells.size = size) (hsz : 0 < size)
    (g n cap : Nat) (xs : List Value) (hs : a.eval s = .slice (some ⟨g, 0, none⟩) n cap) (hown : w.ownsRow base e size (.slice (some ⟨g, 0, none⟩) n cap) n xs)
    (ad : Addr) (m c : Nat) (news : List Value) (hx : a.eval x = .slice (some ad) m c) (hl : news.length = m * size) (hnews : ∀ j u, news[j]? = some u → w.cell? (ad.add j) = some u) (h1 : ∀ u ∈ news, u.oneCell' = true)
    (h63 : n + m ≤ maxLen) (hbytes : (n + m) * bytes ≤ 140737488355328) (hbase : base ≤ w.heap.size)
    (h : ∀ g' cap' w', w'.ownsRow base e size (.slice (some ⟨g', 0, none⟩) (n + m) cap') (n + m) (xs ++ news) → w.grownBy w' (some g) → (g' = g ∨ g' = w.heap.size) → K (a.put o.dst (.slice (some ⟨g', 0, none⟩) (n + m) cap')) w') : o.wp P a w K Q := by
  subst hsize hby
  obtain ⟨v', w', hr, h2, h3, h4⟩ := run_append_own (P := P) w base t o.type e i z i.size i.bytes ht hi hz rfl rfl hzs hsz _ n xs hown ad m c news hl hnews h1 h63 hbytes hbase
  obtain ⟨g', cap', rfl, hw⟩ := Qiu w t o.type e i z ht hi hz base g n cap xs hown ad m c news hl hnews h1 h63 hbytes hr
  unfold Oper.wp execOp
  simp only [ho, resolve, invoke, builtin, Sem.run_bind, Sem.run_pure, Result.andThen_ok, List.map_toArray, List.map_cons, List.map_nil, hs, hx, hr]
  exact h g' cap' w' h2 h3 hw
theorem Qac {ops : Array Oper} {rest : List Oper} {o : Oper} {a : Act} {Q : Exit → Act → World → Prop} (hgd : o.guard = none) (s x : Operand) (t : TypeId)
    (ho : o.op = .call { callee := .builtin .append, args := #[s, x], argTypes := #[t, t] })
    (base : Nat) (e : TypeId) (i : TypeInfo) (z : Value) (size bytes : Nat) (ht : P.underlying t = some (.slice e)) (hi : P.info? e = some i) (hz : i.zero = some z)
    (hsize : i.size = size) (hby : i.bytes = bytes) (hzs : z.cells.size = size) (hsz : 0 < size)
    (g n cap : Nat) (xs : List Value) (hs : a.eval s = .slice (some ⟨g, 0, none⟩) n cap) (hown : w.ownsRow base e size (.slice (some ⟨g, 0, none⟩) n cap) n xs)
    (ad : Addr) (m c : Nat) (news : List Value) (hx : a.eval x = .slice (some ad) m c) (hl : news.length = m * size) (hnews : ∀ j u, news[j]? = some u → w.cell? (ad.add j) = some u) (h1 : ∀ u ∈ news, u.oneCell' = true)
    (h63 : n + m ≤ maxLen) (hbytes : (n + m) * bytes ≤ 140737488355328) (hbase : base ≤ w.heap.size)
    (h : ∀ g' cap' w', w'.ownsRow base e size (.slice (some ⟨g', 0, none⟩) (n + m) cap') (n + m) (xs ++ news) → w.grownBy w' (some g) → (g' = g ∨ g' = w.heap.size) → wpList P ops Q rest (a.put o.dst (.slice (some ⟨g', 0, none⟩) (n + m) cap')) w') : wpList P ops Q (o :: rest) a w :=
  wpList_plain hgd fun _ hK => Qhp w s x t ho base e i z size bytes ht hi hz hsize hby hzs hsz g n cap xs hs hown ad m c news hx hl hnews h1 h63 hbytes hbase fun g' cap' w' h2 h3 h4 => hK _ _ (h g' cap' w' h2 h3 h4)
theorem Qfl {ops : Array Oper} {o : Oper} {a : Act} {K : Act → World → Prop} {Q : Exit → Act → World → Prop} {E : Prop} (hgd : o.guard = none) (s x : Operand) (t : TypeId)
    (ho : o.op = .call { callee := .builtin .append, args := #[s, x], argTypes := #[t, t] })
    (base : Nat) (e : TypeId) (i : TypeInfo) (z : Value) (size bytes : Nat) (ht : P.underlying t = some (.slice e)) (hi : P.info? e = some i) (hz : i.zero = some z)
    (hsize : i.size = size) (hby : i.bytes = bytes) (hzs : z.cells.size = size) (hsz : 0 < size)
    (g n cap : Nat) (xs : List Value) (hs : a.eval s = .slice (some ⟨g, 0, none⟩) n cap) (hown : w.ownsRow base e size (.slice (some ⟨g, 0, none⟩) n cap) n xs)
    (ad : Addr) (m c : Nat) (news : List Value) (hx : a.eval x = .slice (some ad) m c) (hl : news.length = m * size) (hnews : ∀ j u, news[j]? = some u → w.cell? (ad.add j) = some u) (h1 : ∀ u ∈ news, u.oneCell' = true)
    (h63 : n + m ≤ maxLen) (hbytes : (n + m) * bytes ≤ 140737488355328) (hbase : base ≤ w.heap.size)
    (h : ∀ g' cap' w', w'.ownsRow base e size (.slice (some ⟨g', 0, none⟩) (n + m) cap') (n + m) (xs ++ news) → w.grownBy w' (some g) → (g' = g ∨ g' = w.heap.size) → K (a.put o.dst (.slice (some ⟨g', 0, none⟩) (n + m) cap')) w') :
    if Region.wanted o (yielded ops a.tmps) = true then Oper.wp P o a w K Q else E := by
  have hw : Region.wanted o (yielded ops a.tmps) = true := by simp [Region.wanted, hgd]
  rw [if_pos hw]
  exact Qhp w s x t ho base e i z size bytes ht hi hz hsize hby hzs hsz g n cap xs hs hown ad m c news hx hl hnews h1 h63 hbytes hbase h
end
theorem Qdt {w : World} {base : Nat} {e : TypeId} {size g n cap : Nat} {xs : List Value} (h : w.ownsRow base e size (.slice (some ⟨g, 0, none⟩) n cap) n xs) (m : Nat) (hm : m ≤ n) :
    w.ownsRow base e size (.slice (some ⟨g, 0, none⟩) m cap) m (xs.take (m * size)) := by
  have hle : m * size ≤ n * size := Nat.mul_le_mul_right _ hm
  refine ⟨by rw [List.length_take, h.1]; omega, ?_⟩
  rcases h.2 with ⟨h', _⟩ | ⟨g2, cap2, cur, he, hb, hg, hnc, hcm, hcs, htake⟩
  · cases h'
  · simp only [Value.slice.injEq, Option.some.injEq, Addr.mk.injEq, and_true, true_and] at he
    obtain ⟨rfl, rfl⟩ := he
    exact Or.inr ⟨g, cap, cur, rfl, hb, hg, by omega, hcm, hcs, by rw [← htake, List.take_take, Nat.min_eq_left hle]⟩
theorem Qdu {w : World} {base : Nat} {e : TypeId} {size g n cap : Nat} {xs : List Value} (h : w.ownsRow base e size (.slice (some ⟨g, 0, none⟩) n cap) n xs) (j : Nat) (hj : j < n * size) : w.cell? ⟨g, j, none⟩ = xs[j]? := h.cellAt j hj
theorem Qjr {w w' : World} {base : Nat} {e : TypeId} {size g n cap : Nat} {xs : List Value} (h : w.ownsRow base e size (.slice (some ⟨g, 0, none⟩) n cap) n xs) {k : Nat} (hg : w.grownBy w' (some k)) (hne : g ≠ k) : w'.ownsRow base e size (.slice (some ⟨g, 0, none⟩) n cap) n xs := by
  refine ⟨h.1, ?_⟩
  rcases h.2 with h' | ⟨g2, cap2, cur, he, hb, hh, r⟩
  · exact Or.inl h'
  · have he' := he
    simp only [Value.slice.injEq, Option.some.injEq, Addr.mk.injEq, and_true, true_and] at he
    obtain ⟨rfl, rfl⟩ := he
    exact Or.inr ⟨g, cap, cur, rfl, hb, (hg.block g (Array.getElem?_eq_some_iff.1 hh).1 (by simpa using hne)).trans hh, r⟩
theorem Qad {w : World} {base : Nat} {e : TypeId} {size g n cap : Nat} {xs : List Value} (h : w.ownsRow base e size (.slice (some ⟨g, 0, none⟩) n cap) n xs) : base ≤ g ∧ g < w.heap.size := by
  rcases h.2 with ⟨h', _⟩ | ⟨g2, cap2, cur, he, hb, hh, r⟩
  · cases h'
  · simp only [Value.slice.injEq, Option.some.injEq, Addr.mk.injEq, and_true, true_and] at he
    obtain ⟨rfl, rfl⟩ := he
    exact ⟨hb, (Array.getElem?_eq_some_iff.1 hh).1⟩
theorem Qah {S : Nat → Prop} {w w' : World} {base : Nat} {e : TypeId} {size g n cap : Nat} {xs : List Value} (h : w.ownsRow base e size (.slice (some ⟨g, 0, none⟩) n cap) n xs) (hb : But S w w') (hne : ¬ S g) : w'.ownsRow base e size (.slice (some ⟨g, 0, none⟩) n cap) n xs := by
  refine ⟨h.1, ?_⟩
  rcases h.2 with h' | ⟨g2, cap2, cur, he, hbs, hh, r⟩
  · exact Or.inl h'
  · simp only [Value.slice.injEq, Option.some.injEq, Addr.mk.injEq, and_true, true_and] at he
    obtain ⟨rfl, rfl⟩ := he
    exact Or.inr ⟨g, cap, cur, rfl, hbs, (hb.block g (Array.getElem?_eq_some_iff.1 hh).1 hne).trans hh, r⟩
end Go.Proofs.YtoiiibplkhedcaaGreatDoor
namespace Go.Proofs.YtoiiibplkhedcaaGreatDoor
open Go.RowKit




def Qyq (f : Nd → Nd → Bool) (xs ys : List Nd) : Prop := xs.length = ys.length ∧ ∀ i (h : i < xs.length) (h' : i < ys.length), f xs[i] ys[i] = true
def Lists (w : World) (ao : Option Addr) (kss : List (List Nd)) : Prop :=
  ∀ i (h : i < kss.length), ∃ b o ai ci, ao = some ⟨b, o, none⟩ ∧ w.cell? ⟨b, o + i, none⟩ = some (.slice ai kss[i].length ci) ∧ Nodes w ai kss[i]
theorem Lists.below {w w' : World} {ao : Option Addr} {kss : List (List Nd)} (h : Lists w ao kss) (hb : Below w.heap.size w w') : Lists w' ao kss := by
  intro i hi
  obtain ⟨b, o, ai, ci, e, hc, hn⟩ := h i hi
  exact ⟨b, o, ai, ci, e, (hb.cell (p := ⟨b, o + i, none⟩) (Qaa hc)).trans hc, hn.below hb⟩
def Qfh (kss : List (List Nd)) : Nat := (kss.map List.length).sum
theorem Qji (kss : List (List Nd)) (k : Nat) (h : k < kss.length) : Qfh (kss.take (k + 1)) = Qfh (kss.take k) + kss[k].length := by
  rw [List.take_succ_eq_append_getElem h]
  simp only [Qfh, List.map_append, List.sum_append, List.map_cons, List.map_nil, List.sum_cons, List.sum_nil, Nat.add_zero]
theorem Qgy (kss : List (List Nd)) (k : Nat) : Qfh (kss.take k) ≤ Qfh kss := by
  have e : Qfh kss = Qfh (kss.take k) + Qfh (kss.drop k) := by
    conv => lhs; rw [← List.take_append_drop k kss]
    simp only [Qfh, List.map_append, List.sum_append]
  omega
theorem Qjy (kss : List (List Nd)) (k : Nat) (h : k < kss.length) : kss[k].length ≤ Qfh kss := by
  have h1 := Qji kss k h
  have h2 := Qgy kss (k + 1)
  omega
end Go.Proofs.YtoiiibplkhedcaaGreatDoor
namespace Go.Proofs.YtoiiibplkhedcaaGreatDoor
open Go.RowKit
/-! What a store was at a time. -/
def tdAt (dec : ∀ p : Prop, Decidable p) (X : Nat → Prop) (f : Nat → CC) (t : Int) (b : Nat) : Option Nat := @ite _ (X b ∧ (f b).si ≤ t) (dec _) (f b).td none
def gcAt (K : (Option Addr × Nat × Nat) → List Nat) (f : Nat → CC) (t : Int) : Nat → GC := fun i => ⟨(f i).nd, K (f i).ks, decide (t < (f i).told) || (f i).open?⟩
theorem tdAt_some {X : Nat → Prop} {f : Nat → CC} {t : Int} {b j : Nat} : tdAt Classical.propDecidable X f t b = some j ↔ X b ∧ (f b).si ≤ t ∧ (f b).td = some j := by
  unfold tdAt
  by_cases h : X b ∧ (f b).si ≤ t
  · rw [if_pos h]
    exact ⟨fun e => ⟨h.1, h.2, e⟩, fun e => e.2.2⟩
  · rw [if_neg h]
    exact ⟨(fun e => by cases e), fun e => absurd ⟨e.1, e.2.1⟩ h⟩
theorem tdAt_none {X : Nat → Prop} {f : Nat → CC} {t : Int} {b : Nat} : tdAt Classical.propDecidable X f t b = none ↔ (X b → (f b).si ≤ t → (f b).td = none) := by
  unfold tdAt
  by_cases h : X b ∧ (f b).si ≤ t
  · rw [if_pos h]
    exact ⟨fun e _ _ => e, fun e => e h.1 h.2⟩
  · rw [if_neg h]
    exact ⟨fun _ h1 h2 => absurd ⟨h1, h2⟩ h, fun _ => rfl⟩
structure Hist (X : Nat → Prop) (f : Nat → CC) (lk : Nat → Option Nat) (now : Int) : Prop where
  now0 : 0 ≤ now
  hd : SameHd lk (tdAt Classical.propDecidable X f now)
  acyc : ∃ d, Acyc (tdAt Classical.propDecidable X f now) d
  inX : ∀ b j, X b → (f b).td = some j → X j
  si : ∀ b j, X b → (f b).td = some j → (f b).si ≤ now
  told : ∀ b, X b → 0 ≤ (f b).told ∧ (f b).told ≤ now
  open' : ∀ b, X b → (f b).nd.kind = 61 → (f b).lv = 1
theorem Hist.isOpen {X : Nat → Prop} {f : Nat → CC} {lk : Nat → Option Nat} {now : Int} (h : Hist X f lk now) {b : Nat} (hb : X b) : (f b).open? = decide ((f b).nd.kind = 61) := by
  unfold CC.open?
  by_cases hk : (f b).nd.kind = 61
  · simp [hk, h.open' b hb hk]
  · simp [hk]
theorem Qkd {lk : Nat → Option Nat} {h q : Nat} (hh : lk h = none) (hq : lk q = none) (hne : h ≠ q) (i r : Nat) : Hd (tied lk h q) i r ↔ (Hd lk i r ∧ r ≠ q) ∨ (Hd lk i q ∧ r = h) := by
  have hth : tied lk h q h = none := by simp [tied, hne, hh]
  constructor
  · intro H
    induction H using Hd.elim with
    | @root i e =>
      have hiq : i ≠ q := fun e9 => by subst e9; simp [tied] at e
      simp only [tied, hiq, if_false] at e
      exact .inl ⟨.root e, hiq⟩
    | @step i j r e _ ih =>
      by_cases hiq : i = q
      · subst hiq
        simp only [tied, if_true, Option.some.injEq] at e
        subst e
        rcases ih with ⟨h1, h2⟩ | ⟨h1, h2⟩
        · exact .inr ⟨.root hq, h1.fun (.root hh)⟩
        · exact absurd ((Hd.root hh).fun h1) hne
      · simp only [tied, hiq, if_false] at e
        rcases ih with ⟨h1, h2⟩ | ⟨h1, h2⟩
        · exact .inl ⟨.step e h1, h2⟩
        · exact .inr ⟨.step e h1, h2⟩
  · have key : ∀ {i r}, Hd lk i r → r ≠ q → Hd (tied lk h q) i r := by
      intro i r H
      induction H using Hd.elim with
      | @root i e => exact fun hr => .root (by simp [tied, hr, e])
      | @step i j r e _ ih =>
        intro hr
        have hiq : i ≠ q := fun e9 => by subst e9; rw [hq] at e; cases e
        exact .step (by simp [tied, hiq, e]) (ih hr)
    have key2 : ∀ {i r}, Hd lk i r → r = q → Hd (tied lk h q) i h := by
      intro i r H
      induction H using Hd.elim with
      | @root i e => exact fun hr => by subst hr; exact .step (j := h) (by simp [tied]) (.root hth)
      | @step i j r e _ ih =>
        intro hr
        have hiq : i ≠ q := fun e9 => by subst e9; rw [hq] at e; cases e
        exact .step (by simp [tied, hiq, e]) (ih hr)
    rintro (⟨h1, h2⟩ | ⟨h1, rfl⟩)
    · exact key h1 h2
    · exact key2 h1 rfl
theorem SameHd.tied {lk lk' : Nat → Option Nat} (hs : SameHd lk lk') {h q : Nat} (hh : lk h = none) (hq : lk q = none) (hne : h ≠ q) : SameHd (tied lk h q) (tied lk' h q) := by
  have hh' : lk' h = none := (Qaw lk' h).2 ((hs h h).1 ((Qaw lk h).1 hh))
  have hq' : lk' q = none := (Qaw lk' q).2 ((hs q q).1 ((Qaw lk q).1 hq))
  intro i r
  rw [Qkd hh hq hne, Qkd hh' hq' hne, hs i r, hs i q]
theorem SameHd.rootN {lk lk' : Nat → Option Nat} (hs : SameHd lk lk') {i : Nat} (h : lk i = none) : lk' i = none := (Qaw lk' i).2 ((hs i i).1 ((Qaw lk i).1 h))
section
variable {X : Nat → Prop} {f : Nat → CC} {lk : Nat → Option Nat} {now : Int}
theorem Hist.tdNone (H : Hist X f lk now) {b : Nat} (hb : X b) (hl : lk b = none) : (f b).td = none := by
  have h9 := H.hd.rootN hl
  cases e : (f b).td with
  | none => rfl
  | some j => rw [tdAt_none] at h9; have := h9 hb (H.si b j hb e); rw [e] at this; cases this
theorem Qnl {a h q : Nat} {r : Int} (hXq : X q) (hhq : h ≠ q) (tdq : (f q).td = none) (t : Int) : (t < now → tdAt Classical.propDecidable X (Qat f a h q r now) t = tdAt Classical.propDecidable X f t) ∧ (now ≤ t → tdAt Classical.propDecidable X (Qat f a h q r now) t = tied (tdAt Classical.propDecidable X f t) h q) := by
  have e1 : ∀ i, i ≠ q → ((Qat f a h q r now i).td = (f i).td ∧ (Qat f a h q r now i).si = (f i).si) := by
    intro i hi
    unfold Qat
    rw [if_neg hi]
    split
    · rename_i e
      subst e
      split <;> exact ⟨rfl, rfl⟩
    · exact ⟨rfl, rfl⟩
  have e2 : (Qat f a h q r now q).td = some h ∧ (Qat f a h q r now q).si = now := by
    unfold Qat
    rw [if_pos rfl]
    exact ⟨rfl, rfl⟩
  refine ⟨fun ht => ?_, fun ht => ?_⟩
  · funext i
    by_cases hi : i = q
    · subst hi
      have h1 : tdAt Classical.propDecidable X (Qat f a h i r now) t i = none := tdAt_none.2 (fun _ h9 => by rw [e2.2] at h9; omega)
      have h2 : tdAt Classical.propDecidable X f t i = none := tdAt_none.2 (fun _ _ => tdq)
      rw [h1, h2]
    · unfold tdAt
      rw [(e1 i hi).1, (e1 i hi).2]
  · funext i
    by_cases hi : i = q
    · subst hi
      have h1 : tdAt Classical.propDecidable X (Qat f a h i r now) t i = some h := tdAt_some.2 ⟨hXq, by rw [e2.2]; exact ht, e2.1⟩
      rw [h1]
      simp [tied]
    · simp only [tied, hi, if_false]
      unfold tdAt
      rw [(e1 i hi).1, (e1 i hi).2]
theorem Hist.step (H : Hist X f lk now) {lk2 : Nat → Option Nat} {a b h q : Nat} {r : Int} (hXa : X a) (hXb : X b) (hab : a ≠ b) (ha : lk a = none) (hb : lk b = none) (hq : h = a ∧ q = b ∨ h = b ∧ q = a) (hs : SameHd (tied lk h q) lk2) : Hist X (Qat f a h q r now) lk2 now := by
  have hhq : h ≠ q := by
    rcases hq with ⟨rfl, rfl⟩ | ⟨rfl, rfl⟩
    · exact hab
    · exact fun e => hab e.symm
  have hlq : lk q = none := by rcases hq with ⟨rfl, rfl⟩ | ⟨rfl, rfl⟩ <;> assumption
  have hlh : lk h = none := by rcases hq with ⟨rfl, rfl⟩ | ⟨rfl, rfl⟩ <;> assumption
  have hXq : X q := by rcases hq with ⟨rfl, rfl⟩ | ⟨rfl, rfl⟩ <;> assumption
  have hXh : X h := by rcases hq with ⟨rfl, rfl⟩ | ⟨rfl, rfl⟩ <;> assumption
  have ht := (Qnl (f := f) (now := now) (a := a) (r := r) hXq hhq (H.tdNone hXq hlq) now).2 (Int.le_refl _)
  refine ⟨H.now0, ?_, ?_, fun i j hi e => ?_, fun i j hi e => ?_, fun i hi => ?_, fun i hi e => ?_⟩
  · rw [ht]
    exact hs.symm.trans (H.hd.tied hlh hlq hhq)
  · rw [ht]
    obtain ⟨d, hd⟩ := H.acyc
    exact Qpw hd (H.hd.rootN hlh) (H.hd.rootN hlq) hhq
  · by_cases hiq : i = q
    · subst hiq
      simp only [Qat, if_true, Option.some.injEq] at e
      rw [← e]; exact hXh
    · unfold Qat at e
      rw [if_neg hiq] at e
      split at e
      · rename_i e9
        subst e9
        split at e <;> exact H.inX i j hi e
      · exact H.inX i j hi e
  · by_cases hiq : i = q
    · subst hiq
      simp [Qat]
    · unfold Qat at e ⊢
      rw [if_neg hiq] at e ⊢
      split at e
      · rename_i e9
        subst e9
        simp only [if_true]
        split at e
        · rename_i hk; rw [if_pos hk]; exact H.si i j hi e
        · rename_i hk; rw [if_neg hk]; exact H.si i j hi e
      · rename_i hih
        rw [if_neg hih]
        exact H.si i j hi e
  · unfold Qat
    split
    · rename_i e9; subst e9; exact H.told i hi
    · split
      · rename_i e9
        subst e9
        split
        · exact ⟨H.now0, Int.le_refl _⟩
        · exact H.told i hi
      · exact H.told i hi
  · unfold Qat at e ⊢
    by_cases hiq : i = q
    · subst hiq
      rw [if_pos rfl] at e ⊢
      exact H.open' i hi e
    · rw [if_neg hiq] at e ⊢
      by_cases hih : i = h
      · subst hih
        rw [if_pos rfl] at e ⊢
        by_cases hk : (f i).nd.kind = 61
        · rw [if_pos hk] at e ⊢
          exact H.open' a hXa e
        · rw [if_neg hk] at e ⊢
          exact H.open' i hi e
      · rw [if_neg hih] at e ⊢
        exact H.open' i hi e
theorem Qtc (K : (Option Addr × Nat × Nat) → List Nat) (H : Hist X f lk now) {a b h q : Nat} {r : Int} (hXa : X a) (hXb : X b) (hab : a ≠ b) (ha : lk a = none) (hb : lk b = none) (hq : h = a ∧ q = b ∨ h = b ∧ q = a) (t : Int) (ht : t < now) (θ : Nat → DT) : SatC X (gcAt K (Qat f a h q r now) t) (tdAt Classical.propDecidable X (Qat f a h q r now) t) θ ↔ SatC X (gcAt K f t) (tdAt Classical.propDecidable X f t) θ := by
  have hhq : h ≠ q := by
    rcases hq with ⟨rfl, rfl⟩ | ⟨rfl, rfl⟩
    · exact hab
    · exact fun e => hab e.symm
  have hlq : lk q = none := by rcases hq with ⟨rfl, rfl⟩ | ⟨rfl, rfl⟩ <;> assumption
  have hXq : X q := by rcases hq with ⟨rfl, rfl⟩ | ⟨rfl, rfl⟩ <;> assumption
  have hXh : X h := by rcases hq with ⟨rfl, rfl⟩ | ⟨rfl, rfl⟩ <;> assumption
  rw [(Qnl (f := f) (now := now) (a := a) (r := r) hXq hhq (H.tdNone hXq hlq) t).1 ht]
  have key : ∀ i, X i → (gcAt K (Qat f a h q r now) t i = gcAt K f t i) ∨ ((gcAt K (Qat f a h q r now) t i).op = true ∧ (gcAt K f t i).op = true) := by
    intro i hi
    unfold gcAt Qat
    by_cases hiq : i = q
    · subst hiq
      left
      simp [CC.open?]
    · by_cases hih : i = h
      · subst hih
        by_cases hk : (f i).nd.kind = 61
        · right
          have h1 := H.isOpen hi
          simp only [hk, decide_true] at h1
          simp [hiq, hk, h1, ht]
        · left
          simp [hiq, hk, CC.open?]
      · left
        simp [hiq, hih]
  constructor
  · rintro ⟨h1, h2⟩
    refine ⟨h1, fun i hi hl ho => ?_⟩
    rcases key i hi with e | ⟨e1, e2⟩
    · rw [← e] at ho ⊢
      exact h2 i hi hl ho
    · rw [e2] at ho; cases ho
  · rintro ⟨h1, h2⟩
    refine ⟨h1, fun i hi hl ho => ?_⟩
    rcases key i hi with e | ⟨e1, e2⟩
    · rw [e] at ho ⊢
      exact h2 i hi hl ho
    · rw [e1] at ho; cases ho
theorem Hist.satNow (K : (Option Addr × Nat × Nat) → List Nat) (H : Hist X f lk now) {d : Nat → Nat} (ha : Acyc lk d) (θ : Nat → DT) : SatC X (gcAt K f now) (tdAt Classical.propDecidable X f now) θ ↔ SatC X (gc K f) lk θ := by
  obtain ⟨d', hd'⟩ := H.acyc
  rw [H.hd.sat (g := gcAt K f now) ha hd']
  have key : ∀ i, X i → gcAt K f now i = gc K f i := by
    intro i hi
    have := (H.told i hi).2
    unfold gcAt gc
    have h9 : decide (now < (f i).told) = false := decide_eq_false (by omega)
    rw [h9, Bool.false_or]
  constructor
  · rintro ⟨h1, h2⟩
    refine ⟨h1, fun i hi hl ho => ?_⟩
    rw [← key i hi] at ho ⊢
    exact h2 i hi hl ho
  · rintro ⟨h1, h2⟩
    refine ⟨h1, fun i hi hl ho => ?_⟩
    rw [key i hi] at ho ⊢
    exact h2 i hi hl ho
theorem Hist.short (H : Hist X f lk now) {lk2 : Nat → Option Nat} (hs : SameHd lk lk2) : Hist X f lk2 now :=
  { H with hd := hs.symm.trans H.hd }
theorem Ties.hist {f' : Nat → CC} {lk' : Nat → Option Nat} (h : Ties X now f lk f' lk') (H : Hist X f lk now) : Hist X f' lk' now ∧ ∀ K t θ, t < now → (SatC X (gcAt K f' t) (tdAt Classical.propDecidable X f' t) θ ↔ SatC X (gcAt K f t) (tdAt Classical.propDecidable X f t) θ) := by
  induction h using Ties.elim with
  | same hs => exact ⟨H.short hs, fun _ _ _ _ => Iff.rfl⟩
  | step _ hXa hXb hab ha hb hq _ hs ih =>
    obtain ⟨h1, h2⟩ := ih
    exact ⟨h1.step hXa hXb hab ha hb hq hs, fun K t θ ht => (Qtc K h1 hXa hXb hab ha hb hq t ht θ).trans (h2 K t θ ht)⟩
structure NumOk (X : Nat → Prop) (U : Int → Option Nat) (f : Nat → CC) (lk : Nat → Option Nat) : Prop where
  low : ∀ x b r, U x = some b → Hd lk b r → (f r).open? = true → (f r).nd.num ≤ x
  has : ∀ r, X r → lk r = none → (f r).open? = true → ∃ b, U (f r).nd.num = some b ∧ Hd lk b r
theorem NumOk.short {U : Int → Option Nat} (H : NumOk X U f lk) {lk2 : Nat → Option Nat} (hs : SameHd lk lk2) : NumOk X U f lk2 := by
  refine ⟨fun x b r hu hr ho => H.low x b r hu ((hs b r).2 hr) ho, fun r hX hl ho => ?_⟩
  obtain ⟨b, h1, h2⟩ := H.has r hX (hs.symm.rootN hl) ho
  exact ⟨b, h1, (hs b r).1 h2⟩
theorem Qjs {c d : CC} (h : c.core = d.core) : c.open? = d.open? ∧ c.nd = d.nd := by
  obtain ⟨n1, n2, n3⟩ := Qik h
  exact ⟨by simp [CC.open?, n1, n3], n1⟩
theorem NumOk.step {U : Int → Option Nat} (hU : NumOk X U f lk) (H : Hist X f lk now) {lk2 : Nat → Option Nat} {a b h q : Nat} {r : Int} (hXa : X a) (hXb : X b) (hab : a ≠ b) (ha : lk a = none) (hb : lk b = none) (hq : h = a ∧ q = b ∨ h = b ∧ q = a) (hm : Qma (f a) (f b)) (hs : SameHd (tied lk h q) lk2) : NumOk X U (Qat f a h q r now) lk2 := by
  have hhq : h ≠ q := by
    rcases hq with ⟨rfl, rfl⟩ | ⟨rfl, rfl⟩
    · exact hab
    · exact fun e => hab e.symm
  have hlq : lk q = none := by rcases hq with ⟨rfl, rfl⟩ | ⟨rfl, rfl⟩ <;> assumption
  have hlh : lk h = none := by rcases hq with ⟨rfl, rfl⟩ | ⟨rfl, rfl⟩ <;> assumption
  have hXh : X h := by rcases hq with ⟨rfl, rfl⟩ | ⟨rfl, rfl⟩ <;> assumption
  have hop : ∀ i, i ≠ h → (Qat f a h q r now i).open? = (f i).open? ∧ (Qat f a h q r now i).nd = (f i).nd := fun i hi => Qjs (Qdh f r now i hi)
  have hoh : (Qat f a h q r now h).open? = true → (f a).open? = true ∧ (f b).open? = true ∧ (Qat f a h q r now h).nd = (f a).nd := by
    intro ho
    have hc := Qhr f (a := a) hhq r now
    have ha61 := H.isOpen hXa
    have hb61 := H.isOpen hXb
    have hh61 := H.isOpen hXh
    by_cases hk : (f h).nd.kind = 61
    · rw [if_pos hk] at hc
      have hc := Qjs hc
      rw [hc.1] at ho
      refine ⟨ho, ?_, hc.2⟩
      rcases hm with ⟨h1, _⟩ | ⟨h1, _⟩
      · exact h1
      · rw [h1] at ho; cases ho
    · rw [if_neg hk] at hc
      have hc := Qjs hc
      rw [hc.1, hh61] at ho
      simp [hk] at ho
  refine NumOk.short ⟨fun x c r' hu hr ho => ?_, fun r' hX hl ho => ?_⟩ hs
  · rw [Qkd hlh hlq hhq] at hr
    by_cases hrh : r' = h
    · subst hrh
      obtain ⟨o1, o2, o3⟩ := hoh ho
      rw [o3]
      have hle : (f a).nd.num ≤ (f b).nd.num := by
        rcases hm with ⟨_, h2⟩ | ⟨h1, _⟩
        · exact h2 o1
        · rw [h1] at o1; cases o1
      have hab' : Hd lk c a ∨ Hd lk c b := by
        rcases hq with ⟨rfl, rfl⟩ | ⟨rfl, rfl⟩
        · rcases hr with ⟨h1, _⟩ | ⟨h1, _⟩
          · exact .inl h1
          · exact .inr h1
        · rcases hr with ⟨h1, _⟩ | ⟨h1, _⟩
          · exact .inr h1
          · exact .inl h1
      rcases hab' with h1 | h1
      · exact hU.low x c a hu h1 o1
      · have := hU.low x c b hu h1 o2
        omega
    · rcases hr with ⟨h1, h2⟩ | ⟨_, h2⟩
      · rw [(hop r' hrh).1] at ho
        rw [(hop r' hrh).2]
        exact hU.low x c r' hu h1 ho
      · exact absurd h2 hrh
  · have hrq : r' ≠ q := fun e9 => by subst e9; simp [tied] at hl
    simp only [tied, hrq, if_false] at hl
    by_cases hrh : r' = h
    · subst hrh
      obtain ⟨o1, o2, o3⟩ := hoh ho
      obtain ⟨c, c1, c2⟩ := hU.has a hXa ha o1
      refine ⟨c, by rw [o3]; exact c1, ?_⟩
      rw [Qkd hlh hlq hhq]
      rcases hq with ⟨rfl, rfl⟩ | ⟨rfl, rfl⟩
      · exact .inl ⟨c2, hab⟩
      · exact .inr ⟨c2, rfl⟩
    · rw [(hop r' hrh).1] at ho
      obtain ⟨c, c1, c2⟩ := hU.has r' hX hl ho
      refine ⟨c, by rw [(hop r' hrh).2]; exact c1, ?_⟩
      rw [Qkd hlh hlq hhq]
      exact .inl ⟨c2, hrq⟩
theorem Ties.num {U : Int → Option Nat} {f' : Nat → CC} {lk' : Nat → Option Nat} (h : Ties X now f lk f' lk') (H : Hist X f lk now) (hU : NumOk X U f lk) : NumOk X U f' lk' := by
  induction h using Ties.elim with
  | same hs => exact hU.short hs
  | step h1 hXa hXb hab ha hb hq hm hs ih => exact ih.step (h1.hist H).1 hXa hXb hab ha hb hq hm hs
end
end Go.Proofs.YtoiiibplkhedcaaGreatDoor
namespace Go.Proofs.YtoiiibplkhedcaaGreatDoor
open Go.RowKit

end Go.Proofs.YtoiiibplkhedcaaGreatDoor
namespace Go.Proofs.YtoiiibplkhedcaaGreatDoor
def val (g : Nat → GC) (hd : Nat → Nat) : List Nat → Nat → Option Nd
  | [], i => some (g (hd i)).nd
  | j :: p, i => match (g (hd i)).ks[j]? with
    | some k => val g hd p k
    | none => none
theorem Qmc (g : Nat → GC) (hd : Nat → Nat) (i : Nat) : (fun p => val g hd p i) = con (g (hd i)).nd ((g (hd i)).ks.map fun k => fun p => val g hd p k) := by
  funext p
  cases p with
  | nil => rfl
  | cons j p =>
    simp only [val, con, List.getElem?_map]
    cases (g (hd i)).ks[j]? <;> rfl
theorem Qvn {X : Nat → Prop} {g : Nat → GC} {lk : Nat → Option Nat} {hd : Nat → Nat} (h1 : ∀ i j, lk i = some j → hd i = hd j) (h2 : ∀ i, lk i = none → hd i = i) : SatC X g lk (fun i p => val g hd p i) := by
  refine ⟨fun i j e => ?_, fun i _ hl _ => ?_⟩
  · show (fun p => val g hd p i) = fun p => val g hd p j
    rw [Qmc, Qmc, h1 i j e]
  · have := Qmc g hd i
    rw [h2 i hl] at this
    exact this
def Fin'F (R : DT × List Nd → Prop) (x : DT × List Nd) : Prop :=
  (∃ (n : Nd) (ds : List DT) (xss : List (List Nd)), x = (con n ds, xss.flatten ++ [n]) ∧ (ds.length = xss.length) ∧ (∀ i (h1 : i < ds.length) (h2 : i < xss.length), R (ds[i], xss[i])))
structure Fin' (d : DT) (xs : List Nd) : Prop where
  of ::
  lfp : Lfp (Fin'F) (d, xs)
theorem Fin'.grows : Qkq (Fin'F) := by
  rintro R R' x h0 ⟨n, ds, xss, e0, hl, h⟩
  · exact ⟨n, ds, xss, e0, hl, fun i h1 h2 => h0 _ (h i h1 h2)⟩
theorem Fin'.mk (n : Nd) (ds : List DT) (xss : List (List Nd)) (hl : ds.length = xss.length) (h : ∀ i (h1 : i < ds.length) (h2 : i < xss.length), Fin' (ds[i]) (xss[i])) : Fin' (con n ds) (xss.flatten ++ [n]) :=
  ⟨Lfp.fold (Fin'.grows) (⟨n, ds, xss, rfl, hl, fun i h1 h2 => (h i h1 h2).lfp⟩)⟩
theorem Fin'.elim {motive : ∀ d xs, Fin' d xs → Prop}
    (mk : ∀ (n : Nd) (ds : List DT) (xss : List (List Nd)) (hl : ds.length = xss.length) (h : ∀ i (h1 : i < ds.length) (h2 : i < xss.length), Fin' (ds[i]) (xss[i])), (∀ i (h1 : i < ds.length) (h2 : i < xss.length), motive (ds[i]) (xss[i]) (h i h1 h2)) → motive (con n ds) (xss.flatten ++ [n]) (Fin'.mk n ds xss hl h))
    {d : DT} {xs : List Nd} (h : Fin' d xs) : motive d xs h := by
  have key : ∀ h, motive (d, xs).1 (d, xs).2 h := Lfp.ind (Fin'.grows) (p := fun x => ∀ h, motive x.1 x.2 h) (by
    rintro x ⟨n, ds, xss, e0, hl, h⟩ h9
    · subst e0; exact mk n ds xss hl (fun i h1 h2 => ⟨(h i h1 h2).1⟩) (fun i h1 h2 => (h i h1 h2).2 _)) h.lfp
  exact key h
theorem Fin'.inv {motive : ∀ d xs, Fin' d xs → Prop}
    (mk : ∀ (n : Nd) (ds : List DT) (xss : List (List Nd)) (hl : ds.length = xss.length) (h : ∀ i (h1 : i < ds.length) (h2 : i < xss.length), Fin' (ds[i]) (xss[i])), motive (con n ds) (xss.flatten ++ [n]) (Fin'.mk n ds xss hl h))
    {d : DT} {xs : List Nd} (h : Fin' d xs) : motive d xs h := by
  induction h using Fin'.elim with
  | mk n ds xss hl h _ => exact mk n ds xss hl h
theorem Fin'.root {d : DT} {xs : List Nd} (h : Fin' d xs) : ∃ n, d [] = some n := by
  cases h using Fin'.inv with
  | mk n ds xss _ _ => exact ⟨n, rfl⟩
theorem Qna {n m : Nd} {ds es : List DT} (h : con n ds = con m es) (h1 : ∀ d ∈ ds, ∃ k, d [] = some k) (h2 : ∀ d ∈ es, ∃ k, d [] = some k) : ds.length = es.length := by
  have key : ∀ {n m : Nd} {ds es : List DT}, con n ds = con m es → (∀ d ∈ es, ∃ k, d [] = some k) → ¬ ds.length < es.length := by
    intro n m ds es h h2 hlt
    have h9 := congrFun h [ds.length]
    obtain ⟨k, hk⟩ := h2 es[ds.length] (List.getElem_mem hlt)
    simp [con, List.getElem?_eq_getElem hlt, hk] at h9
  have a := key h h2
  have b := key h.symm h1
  omega
theorem Fin'.one {d : DT} {xs : List Nd} (h : Fin' d xs) : ∀ {ys : List Nd}, Fin' d ys → xs = ys := by
  induction h using Fin'.elim with
  | mk n ds xss hl h1 ih =>
    intro ys h'
    generalize hd : con n ds = d at h'
    cases h' using Fin'.inv with
    | mk m es yss hl' h2 =>
      obtain rfl := Qfg hd
      have r1 : ∀ d ∈ ds, ∃ k, d [] = some k := by
        intro d hm
        obtain ⟨i, hi, rfl⟩ := List.getElem_of_mem hm
        exact (h1 i hi (by omega)).root
      have r2 : ∀ d ∈ es, ∃ k, d [] = some k := by
        intro d hm
        obtain ⟨i, hi, rfl⟩ := List.getElem_of_mem hm
        exact (h2 i hi (by omega)).root
      have hlE := Qna hd r1 r2
      obtain rfl := Qfc hd hlE
      have : xss = yss := by
        apply List.ext_getElem (by omega)
        intro i h3 h4
        exact ih i (by omega) h3 (h2 i (by omega) h4)
      rw [this]
end Go.Proofs.YtoiiibplkhedcaaGreatDoor

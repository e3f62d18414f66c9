import Derived.Test.YtahdmflbdmlfhaaGreatDoorWAA
import Derived.Deep.RegionWith
import Derived.Laws.BytesArg
import Derived.Test.YtahdmflbdmlfhaaGreatDoorWAB
import Derived.Test.YtahdmflbdmlfhaaGreatDoorWAC
import Derived.BigQuiet
namespace Go.Proofs.YtahdmflbdmlfhaaGreatDoor

open Go.RowKit



/-- The decimal digits, as the loop lays them. -/
def digs : Nat → Nat → ByteArray → ByteArray
  | 0, _, out => out
  | f + 1, q, out => if q = 0 then out else digs f (q / 10) (strOfNums [48 + (q : Int) % 10] ++ out)

def mtext (k : Nat) : ByteArray := ⟨#[109]⟩ ++ digs 20 k ⟨#[]⟩

/-- The node that bears the marks from j on. -/
def mk (j : Nat) : Nd := ⟨(j : Int), (j : Int) + 1, mtext (j + 2), (j : Int) + 1 + 1 + 1, (j : Int) + 1 + 1 + 1 + 1⟩

def marks (k n : Nat) : List Nd := (List.range n).map fun i => mk (k + 5 * i)



/-- The slices that lead to rows of nodes, each with its block and its capacity. -/
def leadsC (ps : List (Nat × Nat)) (kss : List (List Nd)) : List Value := List.zipWith (fun p ks => .slice (some ⟨p.1, 0, none⟩) ks.length p.2) ps kss

theorem leadsC_length {ps : List (Nat × Nat)} {kss : List (List Nd)} (h : ps.length = kss.length) : (leadsC ps kss).length = kss.length := by
  simp [leadsC, h]

theorem leadsC_get (ps : List (Nat × Nat)) (kss : List (List Nd)) (i : Nat) (h : i < ps.length) (h' : i < kss.length) : (leadsC ps kss)[i]? = some (.slice (some ⟨ps[i].1, 0, none⟩) kss[i].length ps[i].2) := by
  simp [leadsC, List.getElem?_zipWith, List.getElem?_eq_getElem h, List.getElem?_eq_getElem h']

theorem leadsC_snoc (ps : List (Nat × Nat)) (kss : List (List Nd)) (p : Nat × Nat) (ks : List Nd) (h : ps.length = kss.length) : leadsC (ps ++ [p]) (kss ++ [ks]) = leadsC ps kss ++ [.slice (some ⟨p.1, 0, none⟩) ks.length p.2] := by
  unfold leadsC
  rw [List.zipWith_append h]
  rfl

/-- A row of slices of the call's own, perhaps with room behind. -/
def OwnR (w : World) (g : Nat) (cs : List Value) : Prop := ∃ cur rest, w.heap[g]? = some (.cells cur 29 (0, 0)) ∧ cur.toList = cs ++ rest

theorem OwnR.lt {w : World} {g : Nat} {cs : List Value} (h : OwnR w g cs) : g < w.heap.size := by
  obtain ⟨cur, _, hg, _⟩ := h
  exact (Array.getElem?_eq_some_iff.1 hg).1

theorem OwnR.at {w : World} {g : Nat} {cs : List Value} (h : OwnR w g cs) (j : Nat) (hj : j < cs.length) : w.cell? ⟨g, j, none⟩ = cs[j]? := by
  obtain ⟨cur, rest, hg, hc⟩ := h
  rw [cell_of_row w g _ cur 29 (0, 0) hg, ← Array.getElem?_toList, hc, List.getElem?_append_left hj]

theorem OwnR.but {S : Nat → Prop} {w w' : World} {g : Nat} {cs : List Value} (h : OwnR w g cs) (hb : But S w w') (hs : ¬ S g) : OwnR w' g cs := by
  have hlt := h.lt
  obtain ⟨cur, rest, hg, hc⟩ := h
  exact ⟨cur, rest, (hb.block g hlt hs).trans hg, hc⟩

theorem OwnR.ne {w : World} {g h : Nat} {cs ds : List Value} (a : OwnR w g cs) (b : Own w h ds) : h ≠ g := by
  rintro rfl
  obtain ⟨cur, _, hg, _⟩ := a
  obtain ⟨cur', _, hg', _⟩ := b
  rw [hg] at hg'
  simp at hg'

/-- A slice of slices: the row g of slices, the rows ps of nodes, no two of them one, all from B on. -/
structure Rag (w : World) (B g : Nat) (ps : List (Nat × Nat)) (kss : List (List Nd)) : Prop where
  lead : OwnR w g (leadsC ps kss)
  base : B ≤ g
  len : ps.length = kss.length
  rows : ∀ i (h : i < ps.length) (h' : i < kss.length), Row w ps[i].1 kss[i]
  from_ : ∀ p ∈ ps, B ≤ p.1
  nodup : (ps.map (·.1)).Nodup

theorem Rag.but {S : Nat → Prop} {w w' : World} {B g : Nat} {ps : List (Nat × Nat)} {kss : List (List Nd)} (h : Rag w B g ps kss) (hb : But S w w') (hs : ∀ k, S k → k < B) : Rag w' B g ps kss :=
  ⟨h.lead.but hb (fun hk => by have := hs _ hk; have := h.base; omega), h.base, h.len,
    fun i hi hi' => hb.row (h.rows i hi hi') (fun hk => by have := hs _ hk; have := h.from_ _ (List.getElem_mem hi); omega), h.from_, h.nodup⟩

theorem Rag.below {w w' : World} {B g : Nat} {ps : List (Nat × Nat)} {kss : List (List Nd)} (h : Rag w B g ps kss) (hb : Below w.heap.size w w') : Rag w' B g ps kss :=
  h.but (S := fun _ => False) (But.ofBelow hb) (fun _ h => h.elim)

theorem Rag.lists {w : World} {B g : Nat} {ps : List (Nat × Nat)} {kss : List (List Nd)} (h : Rag w B g ps kss) : Lists w (some ⟨g, 0, none⟩) kss := by
  intro i hi
  have hi' : i < ps.length := by rw [h.len]; exact hi
  refine ⟨g, 0, some ⟨ps[i].1, 0, none⟩, ps[i].2, rfl, ?_, (h.rows i hi' hi).nodes⟩
  rw [Nat.zero_add, h.lead.at i (by rw [leadsC_length h.len]; exact hi)]
  exact leadsC_get ps kss i hi' hi

/-- The same as it grows. -/
structure RagO (w : World) (B g c k : Nat) (ps : List (Nat × Nat)) (kss : List (List Nd)) : Prop where
  num : kss.length = k
  own : w.ownsRow B 29 1 (.slice (some ⟨g, 0, none⟩) k c) k (leadsC ps kss)
  len : ps.length = kss.length
  rows : ∀ i (h : i < ps.length) (h' : i < kss.length), Row w ps[i].1 kss[i]
  from_ : ∀ p ∈ ps, B ≤ p.1
  nodup : (ps.map (·.1)).Nodup

theorem owns_ownR {w : World} {B g c k : Nat} {xs : List Value} (h : w.ownsRow B 29 1 (.slice (some ⟨g, 0, none⟩) k c) k xs) : B ≤ g ∧ OwnR w g xs := by
  rcases h.2 with ⟨h', _⟩ | ⟨g2, cap2, cur, he, hb, hh, _, _, _, htake⟩
  · cases h'
  · simp only [Value.slice.injEq, Option.some.injEq, Addr.mk.injEq, and_true, true_and] at he
    obtain ⟨rfl, rfl⟩ := he
    exact ⟨hb, cur, cur.toList.drop (k * 1), hh, by rw [← htake, List.take_append_drop]⟩

theorem RagO.rag {w : World} {B g c k : Nat} {ps : List (Nat × Nat)} {kss : List (List Nd)} (h : RagO w B g c k ps kss) : Rag w B g ps kss :=
  ⟨(owns_ownR h.own).2, (owns_ownR h.own).1, h.len, h.rows, h.from_, h.nodup⟩

theorem RagO.lt {w : World} {B g c k : Nat} {ps : List (Nat × Nat)} {kss : List (List Nd)} (h : RagO w B g c k ps kss) : B ≤ g ∧ g < w.heap.size := owns_block h.own

theorem RagO.but {S : Nat → Prop} {w w' : World} {B g c k : Nat} {ps : List (Nat × Nat)} {kss : List (List Nd)} (h : RagO w B g c k ps kss) (hb : But S w w') (hs : ∀ k, S k → k < B) : RagO w' B g c k ps kss :=
  ⟨h.num, owns_but h.own hb (fun hk => by have := hs _ hk; have := h.lt; omega), h.len,
    fun i hi hi' => hb.row (h.rows i hi hi') (fun hk => by have := hs _ hk; have := h.from_ _ (List.getElem_mem hi); omega), h.from_, h.nodup⟩

theorem RagO.below {w w' : World} {B g c k : Nat} {ps : List (Nat × Nat)} {kss : List (List Nd)} (h : RagO w B g c k ps kss) (hb : Below w.heap.size w w') : RagO w' B g c k ps kss :=
  h.but (S := fun _ => False) (But.ofBelow hb) (fun _ h => h.elim)

theorem RagO.empty {w : World} {B : Nat} (hB : B ≤ w.heap.size) : RagO (w.alloc (.cells #[] 29)) B w.heap.size 0 0 [] [] :=
  ⟨rfl, ⟨rfl, Or.inr ⟨_, 0, #[], rfl, hB, heap_alloc_new _ _, Nat.le_refl _, by simp [maxLen], rfl, rfl⟩⟩, rfl, fun i hi => by simp at hi, fun p hp => by simp at hp, by simp⟩

/-- After an append of a slice that leads to a new row. -/
theorem RagO.push {w0 w w' : World} {B g c k g' c' h ch : Nat} {ps : List (Nat × Nat)} {kss : List (List Nd)} {ks : List Nd} (hO : RagO w0 B g c k ps kss) (hw : But (fun _ => False) w0 w)
    (hr : Row w h ks) (hh : w0.heap.size ≤ h) (hB : B ≤ h)
    (hown : w'.ownsRow B 29 1 (.slice (some ⟨g', 0, none⟩) (k + 1) c') (k + 1) (leadsC ps kss ++ [.slice (some ⟨h, 0, none⟩) ks.length ch])) (hg : w.grownBy w' (some g)) : RagO w' B g' c' (k + 1) (ps ++ [(h, ch)]) (kss ++ [ks]) := by
  have hR : Rag w B g ps kss := hO.rag.but hw (fun _ h => h.elim)
  have hg2 : ∀ q ys, Row w q ys → q ≠ g → Row w' q ys := by
    intro q ys hq hne
    have hlt := hq.lt
    obtain ⟨cur, rest, hc, he⟩ := hq
    exact ⟨cur, rest, (hg.block q hlt (by simpa using hne)).trans hc, he⟩
  refine ⟨by simp [hO.num], by rw [leadsC_snoc _ _ _ _ hO.len]; exact hown, by simp [hO.len], ?_, ?_, ?_⟩
  · intro i hi hi'
    by_cases hik : i < ps.length
    · have h1 := hR.rows i hik (by rw [← hO.len]; exact hik)
      rw [List.getElem_append_left hik, List.getElem_append_left (by rw [← hO.len]; exact hik)]
      exact hg2 _ _ h1 (hR.lead.ne h1)
    · have e : i = ps.length := by simp at hi; omega
      subst e
      have e2 : (kss ++ [ks])[ps.length]'hi' = ks := by
        rw [List.getElem_append_right (by rw [hO.len]; exact Nat.le_refl _)]
        simp
      rw [e2, List.getElem_append_right (Nat.le_refl _)]
      simp only [Nat.sub_self, List.getElem_cons_zero]
      exact hg2 _ _ hr (hR.lead.ne hr)
  · intro p hp
    rcases List.mem_append.1 hp with h1 | h1
    · exact hO.from_ p h1
    · simp at h1; subst h1; exact hB
  · rw [List.map_append]
    refine List.nodup_append.2 ⟨hO.nodup, by simp, ?_⟩
    intro a ha b hb
    simp at hb
    subst hb
    obtain ⟨p, hp, rfl⟩ := List.mem_map.1 ha
    obtain ⟨i, hi, rfl⟩ := List.getElem_of_mem hp
    have h1 := (hO.rows i hi (by rw [← hO.len]; exact hi)).lt
    omega

theorem deepOf_some {t : List Nd} {S ys : List Sp} {m : Nat} (hm : t.length = m) (h6 : m ≤ 6000) (h0 : 0 < m) (h : after t m = some (S, ys)) :
    ∃ s, ys[m - 1]? = some s ∧ deepOf t = (if s.fr = 0 ∧ s.dp ≤ 300 then s.dp else 0) ∧ s.rt = m - 1 ∧ s.fr ≤ m - 1 ∧ 1 ≤ s.dp ∧ s.dp ≤ m := by
  have hf := after_fine h
  have hl : m - 1 < ys.length := by have := hf.len; omega
  have hr := hf.root (m - 1) hl
  refine ⟨ys[m - 1], List.getElem?_eq_getElem hl, ?_, hr.1, hr.2.1, hr.2.2.1, by omega⟩
  unfold deepOf
  rw [if_neg (by omega), hm, h]
  have hg : ys.getLast? = some ys[m - 1] := by
    have := hf.len
    rw [List.getLast?_eq_getElem?]
    have e : ys.length - 1 = m - 1 := by omega
    rw [e, List.getElem?_eq_getElem hl]
  simp only [hg]

theorem deepOf_none {t : List Nd} (h : after t t.length = none) : deepOf t = 0 := by
  unfold deepOf
  split
  · rfl
  · rw [h]

theorem deepOf_great {t : List Nd} (h : 6000 < t.length) : deepOf t = 0 := by
  unfold deepOf
  rw [if_pos h]

theorem deepOf_nil {t : List Nd} (h : t.length = 0) : deepOf t = 0 := by
  have : t = [] := List.eq_nil_of_length_eq_zero h
  subst this
  rfl

set_option maxRecDepth 100000 in
set_option maxHeartbeats 1000000 in
theorem specGood_any (t : List Nd) (m : Nat) (HM : Hid (t.length = m)) (hm : m ≤ 1048576) (ao : Option Addr) (cap : Nat) (w : World) (hx : Nodes w ao t) :
    Calls Tryz.prog 31 #[.slice ao m cap] w fun e w' => e = .returned (.bool (decide (0 < deepOf t))) ∧ Below w.heap.size w w' := by
  by_cases h0 : m = 0
  · subst h0
    have HD : Hid (deepOf t = 0) := deepOf_nil HM.out
    clear hx
    go_enter Tryz.func31, Tryz.ntmps31
    go_wp2
    go_ret
    exact ⟨by rw [HD.out]; rfl, Below.refl _ _⟩
  by_cases h6 : m ≤ 6000
  · have h0' : ((m : Int) == 0) = false := by simp; omega
    go_enter Tryz.func31, Tryz.ntmps31
    go_wp2_with fail
    refine (sizes_any t m HM h6 ao cap w hx).mono ?_
    rintro e w1 ⟨gz, cz, n, rfl, hz, hb⟩
    have hx1 := hx.below hb
    clear hx
    cases hA : after t m with
    | none =>
      have HD : Hid (deepOf t = 0) := deepOf_none (by rw [HM.out]; exact hA)
      have hn0 : n = 0 := by
        have h9 := hz.1
        unfold sizesOf at h9
        rw [HM.out, hA] at h9
        simpa using h9.symm
      subst hn0
      clear hz hA hx1
      go_wp2
      go_ret
      exact ⟨by rw [HD.out]; rfl, hb⟩
    | some p =>
      obtain ⟨S, ys⟩ := p
      have HA : Hid (after t m = some (S, ys)) := hA
      have hsz : sizesOf t = ys.map szOf := by unfold sizesOf; rw [HM.out, hA]
      rw [hsz] at hz
      have hyl := (after_fine hA).len
      have hnm : n = m := by have h9 := hz.1; simp at h9; omega
      subst hnm
      obtain ⟨s, hs, hd1, hd2, hd3, hd4, hd5⟩ := deepOf_some HM.out h6 (by omega) hA
      have HD : Hid (deepOf t = if s.fr = 0 ∧ s.dp ≤ 300 then s.dp else 0) := hd1
      have cz1 : w1.cell? ⟨gz, n - 1, none⟩ = some (.int .i64 ((n : Int) - (s.fr : Int))) := by
        rw [hz.at (n - 1) (by simp; omega)]
        obtain ⟨h8, h9⟩ := List.getElem?_eq_some_iff.1 hs
        simp [szOf, h9]
        omega
      have HYS : Hid (ys[n - 1]? = some s) := hs
      have HYL : Hid (ys.length = n) := hyl
      have hbz := hz.block
      clear hA hsz hd1 hs hyl
      by_cases hfr : s.fr = 0
      · rw [hfr] at cz1
        have cz2 : w1.cell? ⟨gz, n - 1, none⟩ = some (.int .i64 (n : Int)) := by simpa using cz1
        clear cz1
        go_wp2_with fail
        refine (depths_any t S ys n HM h6 HA ao cap gz cz w.heap.size w1 hx1 hz).mono ?_
        rintro e w2 ⟨g, c, rfl, hd, hb2⟩
        have cd : w2.cell? ⟨g, n - 1, none⟩ = some (.int .i64 (s.dp : Int)) := by
          rw [hd.at (n - 1) (by have := HYL.out; simp [dps]; omega)]
          obtain ⟨h8, h9⟩ := List.getElem?_eq_some_iff.1 HYS.out
          simp [dps, h9]
        have hbb := Below.step hb hb2
        have HV : Hid (deepOf t = if s.dp ≤ 300 then s.dp else 0) := by rw [HD.out, hfr]; simp [Hid]
        clear hz hx1 hd hb hb2 cz2
        by_cases h3 : s.dp ≤ 300
        · go_wp2
          go_ret
          exact ⟨by rw [HV.out, if_pos h3]; congr 2; simp; omega, hbb⟩
        · go_wp2
          go_ret
          exact ⟨by rw [HV.out, if_neg h3]; congr 2; simp; omega, hbb⟩
      · have HV : Hid (deepOf t = 0) := by rw [HD.out, if_neg (by omega)]; rfl
        have hne : (((n : Int) - (s.fr : Int)) != (n : Int)) = true := by simp; omega
        clear hz hx1
        go_wp2
        go_ret
        exact ⟨by rw [HV.out]; rfl, hb⟩
  · have HD : Hid (deepOf t = 0) := deepOf_great (by have := HM.out; omega)
    have h0' : ((m : Int) == 0) = false := by simp; omega
    clear hx
    go_enter Tryz.func31, Tryz.ntmps31
    go_wp2
    go_ret
    exact ⟨by rw [HD.out]; rfl, Below.refl _ _⟩

theorem nd_new_cells (w : World) (n : Nd) : ∀ j u, n.row[j]? = some u →
    (w.alloc (.cells #[.int .i64 n.kind, .int .i64 n.num, .string n.text, .int .i64 n.kids, .int .i64 n.place] 40)).cell? (Addr.add ⟨w.heap.size, 0, none⟩ j) = some u := by
  intro j u hj
  have ad : Addr.add ⟨w.heap.size, 0, none⟩ j = ⟨w.heap.size, j, none⟩ := by
    unfold Addr.add
    split
    · simp_all
    · simp
  rw [ad, cell_of_row _ w.heap.size j _ 40 (0, 0) (heap_alloc_new _ _), ← hj]
  simp [Nd.row]

theorem nd_row_one (n : Nd) : ∀ u ∈ n.row, u.oneCell' = true := by
  intro u hu
  simp [Nd.row] at hu
  rcases hu with rfl | rfl | rfl | rfl | rfl <;> rfl

theorem nd_flat_one (ks : List Nd) : ∀ u ∈ flat ks, u.oneCell' = true := by
  intro u hu
  unfold flat at hu
  obtain ⟨n, _, hn⟩ := List.mem_flatMap.1 hu
  exact nd_row_one n u hn

/-- A slice of nodes of the call's own. -/
def OwnN (w : World) (B g c l : Nat) (zs : List Nd) : Prop := zs.length = l ∧ w.ownsRow B 40 5 (.slice (some ⟨g, 0, none⟩) l c) l (flat zs)

theorem OwnN.row {w : World} {B g c l : Nat} {zs : List Nd} (h : OwnN w B g c l zs) : B ≤ g ∧ Row w g zs := by
  obtain ⟨hl, ho⟩ := h
  rcases ho.2 with ⟨h', _⟩ | ⟨g2, cap2, cur, he, hb, hh, _, _, _, htake⟩
  · cases h'
  · simp only [Value.slice.injEq, Option.some.injEq, Addr.mk.injEq, and_true, true_and] at he
    obtain ⟨rfl, rfl⟩ := he
    exact ⟨hb, cur, cur.toList.drop (l * 5), hh, by rw [← htake, List.take_append_drop]⟩

theorem OwnN.empty {w : World} {B : Nat} (hB : B ≤ w.heap.size) : OwnN (w.alloc (.cells #[] 40)) B w.heap.size 0 0 [] :=
  ⟨rfl, rfl, Or.inr ⟨_, 0, #[], rfl, hB, heap_alloc_new _ _, Nat.le_refl _, by simp [maxLen], rfl, rfl⟩⟩

theorem OwnN.alloc {w : World} {B g c l : Nat} {zs : List Nd} (h : OwnN w B g c l zs) (o : Obj) : OwnN (w.alloc o) B g c l zs := ⟨h.1, h.2.alloc o⟩

theorem OwnN.below {w w' : World} {B g c l : Nat} {zs : List Nd} (h : OwnN w B g c l zs) (hb : Below w.heap.size w w') : OwnN w' B g c l zs :=
  ⟨h.1, owns_but (S := fun _ => False) h.2 (But.ofBelow hb) (fun h => h)⟩

theorem OwnN.push {w : World} {B g c l m : Nat} {zs : List Nd} {x : Nd} (h : w.ownsRow B 40 5 (.slice (some ⟨g, 0, none⟩) m c) m (flat zs ++ x.row)) (hl : zs.length = l) (hm : m = l + 1) : OwnN w B g c (l + 1) (zs ++ [x]) := by
  subst hm
  refine ⟨by simp [hl], ?_⟩
  rw [flat_append]
  have e : flat [x] = x.row := by simp [flat]
  rw [e]
  exact h

/-- The nodes from f on up to i. -/
def span (t : List Nd) (f i : Nat) : List Nd := (t.take (i + 1)).drop f

theorem span_length (t : List Nd) (f i : Nat) (hi : i < t.length) : (span t f i).length = i + 1 - f := by simp [span]; omega

theorem deep_after {t : List Nd} {m : Nat} (hm : t.length = m) (hd : 0 < deepOf t) : 0 < m ∧ m ≤ 6000 ∧ ∃ S ys, after t m = some (S, ys) ∧ ys.length = m := by
  have h6 : m ≤ 6000 := by
    by_cases h : m ≤ 6000
    · exact h
    · have := deepOf_great (t := t) (by omega)
      omega
  have h0 : 0 < m := by
    by_cases h : m = 0
    · have := deepOf_nil (t := t) (by omega)
      omega
    · omega
  cases hA : after t m with
  | none =>
    have := deepOf_none (t := t) (by rw [hm]; exact hA)
    omega
  | some p =>
    obtain ⟨S, ys⟩ := p
    exact ⟨h0, h6, S, ys, rfl, (after_fine hA).len⟩

/-- The kids themselves. -/
def kidsIn (t : List Nd) (K : List Sp) : List (List Nd) := K.map fun s => span t s.fr s.rt

/-- A node that may stand in a plain type. -/
def Nd.plainb (n : Nd) : Bool :=
  n.place == 0 &&
    (((n.kind == 60 || n.kind == 61) && n.kids == 0 && decide (1 ≤ n.num) && n.text.size == 0) || (n.kind == 12 && n.num == 0) ||
      (((n.kind == 13 && n.kids == 2) || (n.kind == 14 && n.kids != 1)) && n.num == 0 && n.text.size == 0))

theorem all_false {α : Type} {p : α → Bool} {xs : List α} (k : Nat) (h : k < xs.length) (hf : p xs[k] = false) : xs.all p = false := by
  cases h9 : xs.all p
  · rfl
  · exact absurd (List.all_eq_true.1 h9 _ (List.getElem_mem h)) (by simp [hf])

theorem take_all {α : Type} {p : α → Bool} {xs : List α} (k : Nat) (h : k < xs.length) (ht : p xs[k] = true) (ha : (xs.take k).all p = true) : (xs.take (k + 1)).all p = true := by
  rw [List.take_succ_eq_append_getElem h, List.all_append, ha]
  simp [ht]

set_option maxRecDepth 100000 in
set_option maxHeartbeats 2000000 in
theorem isPlain_any (t : List Nd) (m : Nat) (HM : Hid (t.length = m)) (hm : m ≤ 1048576) (ao : Option Addr) (cap : Nat) (w : World) (hx : Nodes w ao t) :
    Calls Tryz.prog 32 #[.slice ao m cap] w fun e w' => e = .returned (.bool (t.all Nd.plainb)) ∧ Below w.heap.size w w' := by
  go_enter Tryz.func32, Tryz.ntmps32
  go_wp2
  go_loopw [3] (fun i wr => ∃ (k : Nat), k ≤ m ∧ i = .int .i64 k ∧ (t.take k).all Nd.plainb = true ∧ Below w.heap.size w wr) (fun i _ => m - (intOf i).toNat)
  case atStart => exact ⟨0, Nat.zero_le _, rfl, by simp, Below.refl _ _⟩
  case round =>
    obtain ⟨k, hk, rfl, hall, hb⟩ := hrel
    by_cases hlt : k < m
    · have hltx : k < t.length := by have := HM.out; omega
      obtain ⟨⟨kd, nm, tx, ks, pl⟩, hxk⟩ : ∃ x, t[k] = x := ⟨_, rfl⟩
      obtain ⟨b, o, rfl, hcx⟩ := hx.below hb k hltx
      rw [hxk] at hcx
      obtain ⟨c0, c1, c2, c3, c4⟩ := hcx
      simp only at c0 c1 c2 c3 c4
      have hlb : b < wr.heap.size := lt_of_cell c0
      have HF : Hid (Nd.plainb ⟨kd, nm, tx, ks, pl⟩ = false → t.all Nd.plainb = false) := fun h => all_false k hltx (by rw [hxk]; exact h)
      have HT : Hid (Nd.plainb ⟨kd, nm, tx, ks, pl⟩ = true → (t.take (k + 1)).all Nd.plainb = true) := fun h => take_all k hltx (by rw [hxk]; exact h) hall
      clear hx hall hxk
      by_cases hp : pl = 0
      · subst hp
        by_cases h60 : kd = 60 ∨ kd = 61
        · have tk : ((kd : Int) == 60 || (kd : Int) == 61) = true := by simpa using h60
          rcases h60 with rfl | rfl
          all_goals
            by_cases hks : ks = 0
            · subst hks
              by_cases hnm : nm < 1
              · have tn : decide (nm < 1) = true := by simpa using hnm
                go_wp2
                go_ret
                exact ⟨by rw [HF.out (by simp [Nd.plainb]; omega)]; rfl, hb.alloc hb.size _⟩
              · have tn : decide (nm < 1) = false := by simpa using hnm
                by_cases htx : tx.size = 0
                · have tt : decide ((tx.size : Int) > 0) = false := decide_eq_false (by rw [htx]; decide)
                  go_wp2
                  go_roundw
                  case rel => exact ⟨k + 1, by omega, by go_num, HT.out (by simp [Nd.plainb, htx]; omega), hb.alloc hb.size _⟩
                  case measure => simp [intOf]; omega
                · have tt : decide ((tx.size : Int) > 0) = true := by simp; omega
                  go_wp2
                  go_ret
                  exact ⟨by rw [HF.out (by simp [Nd.plainb, htx])]; rfl, hb.alloc hb.size _⟩
            · have ts : ((ks : Int) != 0) = true := by simpa using hks
              go_wp2
              go_ret
              exact ⟨by rw [HF.out (by simp [Nd.plainb, hks])]; rfl, hb.alloc hb.size _⟩
        · have t60 : ((kd : Int) == 60) = false := by simp; omega
          have t61 : ((kd : Int) == 61) = false := by simp; omega
          by_cases h12 : kd = 12
          · subst h12
            by_cases hnm : nm = 0
            · subst hnm
              go_wp2
              go_roundw
              case rel => exact ⟨k + 1, by omega, by go_num, HT.out (by simp [Nd.plainb]), hb.alloc hb.size _⟩
              case measure => simp [intOf]; omega
            · have tn : ((nm : Int) != 0) = true := by simpa using hnm
              go_wp2
              go_ret
              exact ⟨by rw [HF.out (by simp [Nd.plainb, hnm])]; rfl, hb.alloc hb.size _⟩
          · have t12 : ((kd : Int) == 12) = false := by simpa using h12
            by_cases h13 : kd = 13
            · subst h13
              by_cases hks : ks = 2
              · subst hks
                by_cases hnm : nm = 0
                · subst hnm
                  by_cases htx : tx.size = 0
                  · have tt : decide ((tx.size : Int) > 0) = false := decide_eq_false (by rw [htx]; decide)
                    go_wp2
                    go_roundw
                    case rel => exact ⟨k + 1, by omega, by go_num, HT.out (by simp [Nd.plainb, *]), hb.alloc hb.size _⟩
                    case measure => simp [intOf]; omega
                  · have tt : decide ((tx.size : Int) > 0) = true := by simp; omega
                    go_wp2
                    go_ret
                    exact ⟨by rw [HF.out (by simp [Nd.plainb, *])]; rfl, hb.alloc hb.size _⟩
                · have tn : ((nm : Int) != 0) = true := by simpa using hnm
                  go_wp2
                  go_ret
                  exact ⟨by rw [HF.out (by simp [Nd.plainb, *])]; rfl, hb.alloc hb.size _⟩
              · have ts : ((ks : Int) == 2) = false := by simpa using hks
                go_wp2
                go_ret
                exact ⟨by rw [HF.out (by simp [Nd.plainb, hks])]; rfl, hb.alloc hb.size _⟩
            · have t13 : ((kd : Int) == 13) = false := by simpa using h13
              by_cases h14 : kd = 14
              · subst h14
                by_cases hks : ks = 1
                · subst hks
                  go_wp2
                  go_ret
                  exact ⟨by rw [HF.out (by simp [Nd.plainb])]; rfl, hb.alloc hb.size _⟩
                · have ts : ((ks : Int) != 1) = true := by simpa using hks
                  by_cases hnm : nm = 0
                  · subst hnm
                    by_cases htx : tx.size = 0
                    · have tt : decide ((tx.size : Int) > 0) = false := decide_eq_false (by rw [htx]; decide)
                      go_wp2
                      go_roundw
                      case rel => exact ⟨k + 1, by omega, by go_num, HT.out (by simp [Nd.plainb, *]), hb.alloc hb.size _⟩
                      case measure => simp [intOf]; omega
                    · have tt : decide ((tx.size : Int) > 0) = true := by simp; omega
                      go_wp2
                      go_ret
                      exact ⟨by rw [HF.out (by simp [Nd.plainb, *])]; rfl, hb.alloc hb.size _⟩
                  · have tn : ((nm : Int) != 0) = true := by simpa using hnm
                    go_wp2
                    go_ret
                    exact ⟨by rw [HF.out (by simp [Nd.plainb, *])]; rfl, hb.alloc hb.size _⟩
              · have t14 : ((kd : Int) == 14) = false := by simpa using h14
                go_wp2
                go_ret
                exact ⟨by rw [HF.out (by simp [Nd.plainb]; omega)]; rfl, hb.alloc hb.size _⟩
      · have tp : ((pl : Int) != 0) = true := by simpa using hp
        go_wp2
        go_ret
        exact ⟨by rw [HF.out (by simp [Nd.plainb, hp])]; rfl, hb.alloc hb.size _⟩
    · have HA : Hid (t.all Nd.plainb = true) := by
        have h9 := hall
        rw [List.take_of_length_le (by have := HM.out; omega)] at h9
        exact h9
      clear hall hx
      go_wp2
      go_ret
      exact ⟨by rw [HA.out]; rfl, hb⟩

/-- A type of chapter 8. -/
def typeb (t : List Nd) : Bool := decide (t.length ≤ 300) && decide (0 < deepOf t) && t.all Nd.plainb

set_option maxHeartbeats 1000000 in
theorem isType_any (t : List Nd) (m : Nat) (HM : Hid (t.length = m)) (hm : m ≤ 1048576) (ao : Option Addr) (cap : Nat) (w : World) (hx : Nodes w ao t) :
    Calls Tryz.prog 15 #[.slice ao m cap] w fun e w' => e = .returned (.bool (typeb t)) ∧ Below w.heap.size w w' := by
  by_cases h3 : m ≤ 300
  · have t3 : decide ((m : Int) ≤ 300) = true := decide_eq_true (by omega)
    have HV : Hid (typeb t = (decide (0 < deepOf t) && t.all Nd.plainb)) := by
      have h9 : decide (t.length ≤ 300) = true := decide_eq_true (by have := HM.out; omega)
      simp only [typeb, h9, Bool.true_and, Hid]
    go_enter Tryz.func15, Tryz.ntmps15
    go_wp2_with fail
    refine (specGood_any t m HM hm ao cap w hx).mono ?_
    rintro e w1 ⟨rfl, hb1⟩
    cases hg : decide (0 < deepOf t)
    · rw [hg] at HV
      have HW : Hid (typeb t = false) := HV.out
      clear HV hx
      go_wp2
      go_ret
      exact ⟨by rw [HW.out]; rfl, hb1⟩
    · rw [hg] at HV
      have hx1 := hx.below hb1
      go_wp2_with fail
      refine (isPlain_any t m HM hm ao cap w1 hx1).mono ?_
      rintro e w2 ⟨rfl, hb2⟩
      have hb := Below.step hb1 hb2
      have HW : Hid (typeb t = t.all Nd.plainb) := HV.out
      clear HV hx hx1 hb1 hb2
      go_wp2
      go_ret
      exact ⟨by rw [HW.out]; rfl, hb⟩
  · have t3 : decide ((m : Int) ≤ 300) = false := decide_eq_false (by omega)
    have HV : Hid (typeb t = false) := by
      have h9 : decide (t.length ≤ 300) = false := decide_eq_false (by have := HM.out; omega)
      simp only [typeb, h9, Bool.false_and, Hid]
    clear hx
    go_enter Tryz.func15, Tryz.ntmps15
    go_wp2
    go_ret
    exact ⟨by rw [HV.out]; rfl, Below.refl _ _⟩

/-- A slice of int64s of the call's own. -/
def Longs (w : World) (B g cap : Nat) (n : Nat) (xs : List Int) : Prop := xs.length = n ∧ w.ownsRow B 2 1 (.slice (some ⟨g, 0, none⟩) n cap) n (ints xs)

theorem Longs.at {w : World} {B g cap n : Nat} {xs : List Int} (h : Longs w B g cap n xs) (j : Nat) (hj : j < xs.length) : w.cell? ⟨g, j, none⟩ = some (.int .i64 xs[j]) := by
  rw [owns_at h.2 j (by have := h.1; omega)]
  simp [ints, List.getElem?_eq_getElem hj]

theorem Longs.alloc {w : World} {B g cap n : Nat} {xs : List Int} (h : Longs w B g cap n xs) (o : Obj) : Longs (w.alloc o) B g cap n xs := ⟨h.1, h.2.alloc o⟩

theorem Longs.but {S : Nat → Prop} {w w' : World} {B g cap n : Nat} {xs : List Int} (h : Longs w B g cap n xs) (hb : But S w w') (hn : ¬ S g) : Longs w' B g cap n xs := ⟨h.1, owns_but h.2 hb hn⟩

theorem Longs.below {w w' : World} {B g cap n : Nat} {xs : List Int} (h : Longs w B g cap n xs) (hb : Below w.heap.size w w') : Longs w' B g cap n xs := h.but (S := fun _ => False) (But.ofBelow hb) (fun h => h)

theorem Longs.kept {w w' : World} {B g cap n k : Nat} {xs : List Int} (h : Longs w B g cap n xs) (hg : w.grownBy w' (some k)) (hne : g ≠ k) : Longs w' B g cap n xs := ⟨h.1, owns_kept h.2 hg hne⟩

theorem Longs.block {w : World} {B g cap n : Nat} {xs : List Int} (h : Longs w B g cap n xs) : B ≤ g ∧ g < w.heap.size := owns_block h.2

theorem Longs.empty {w : World} {B : Nat} (hB : B ≤ w.heap.size) : Longs (w.alloc (.cells #[] 2)) B w.heap.size 0 0 [] :=
  ⟨rfl, rfl, Or.inr ⟨_, 0, #[], rfl, hB, heap_alloc_new _ _, Nat.le_refl _, by simp [maxLen], rfl, rfl⟩⟩

theorem Longs.push {w : World} {B g cap n m : Nat} {xs : List Int} {x : Int} (h : w.ownsRow B 2 1 (.slice (some ⟨g, 0, none⟩) m cap) m (ints xs ++ [.int .i64 x])) (hn : xs.length = n) (hm : m = n + 1) : Longs w B g cap (n + 1) (xs ++ [x]) := by
  subst hm
  refine ⟨by simp [hn], ?_⟩
  simpa [ints] using h

theorem OwnN.but {S : Nat → Prop} {w w' : World} {B g c l : Nat} {zs : List Nd} (h : OwnN w B g c l zs) (hb : But S w w') (hn : ¬ S g) : OwnN w' B g c l zs := ⟨h.1, owns_but h.2 hb hn⟩

theorem OwnN.kept {w w' : World} {B g c l k : Nat} {zs : List Nd} (h : OwnN w B g c l zs) (hg : w.grownBy w' (some k)) (hne : g ≠ k) : OwnN w' B g c l zs := ⟨h.1, owns_kept h.2 hg hne⟩

theorem OwnN.one {w : World} {B : Nat} (hB : B ≤ w.heap.size) (n : Nd) : OwnN (w.alloc (.cells #[.int .i64 n.kind, .int .i64 n.num, .string n.text, .int .i64 n.kids, .int .i64 n.place] 40)) B w.heap.size 1 1 [n] :=
  ⟨rfl, rfl, Or.inr ⟨_, 1, _, rfl, hB, heap_alloc_new _ _, Nat.le_refl _, by simp [maxLen], rfl, by simp [flat, Nd.row]⟩⟩

/-- The place of a number among those met, or how many there are. -/
def placeIn (met : List Int) (x : Int) : Nat := met.findIdx (· == x)

theorem placeIn_found {met : List Int} {x : Int} {j : Nat} (h : j < met.length) (he : met[j] = x) (hall : ∀ i (h : i < met.length), i < j → met[i] ≠ x) : placeIn met x = j := by
  unfold placeIn
  exact (List.findIdx_eq h).2 ⟨by simp [he], fun i hi => by simpa using hall i (by omega) hi⟩

theorem placeIn_none {met : List Int} {x : Int} (hall : ∀ i (h : i < met.length), met[i] ≠ x) : placeIn met x = met.length := by
  unfold placeIn
  refine List.findIdx_eq_length.2 ?_
  intro y hy
  obtain ⟨i, hi, rfl⟩ := List.getElem_of_mem hy
  simpa using hall i hi

theorem below_drewN (w : World) (n : Nat) : Below w.heap.size w (w.drewN n) := ⟨rfl, rfl, rfl, Nat.le_refl _, fun _ _ => rfl⟩

end Go.Proofs.YtahdmflbdmlfhaaGreatDoor

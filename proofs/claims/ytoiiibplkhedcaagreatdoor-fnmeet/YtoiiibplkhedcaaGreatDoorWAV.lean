import Derived.Test.YtoiiibplkhedcaaGreatDoorNT
set_option maxRecDepth 20000
set_option maxHeartbeats 8000000
namespace Go.Proofs.YtoiiibplkhedcaaGreatDoor
open Go.RowKit Go.Maps
theorem CSto.asideK {w w' : World} {X : Nat → Prop} {f : Nat → CC} {lk : Nat → Option Nat} {d : Nat → Nat} {K : (Option Addr × Nat × Nat) → List Nat} (h : CSto w X f lk d K) {g : Nat} (hb : But (· = g) w w') (hX : ¬ X g) (hk : ∀ i, X i → K (f i).ks = [] ∨ (f i).ks.1 ≠ some ⟨g, 0, none⟩) : CSto w' X f lk d K := by
  refine ⟨h.cells.but hb (fun b hx e => hX (e ▸ hx)), h.acyc, fun b hx => ?_, h.inX, h.arity, h.met, h.low⟩
  obtain ⟨h1, h2⟩ := h.rows b hx
  refine ⟨h1, ?_⟩
  rcases h2 with e | ⟨g', cur, a1, a2, a3, a4, a5⟩
  · exact .inl e
  · rcases hk b hx with e | hne
    · exact .inl e
    · have hne' : g' ≠ g := fun e => hne (by rw [a1, e])
      exact .inr ⟨g', cur, a1, a2, Nat.lt_of_lt_of_le a3 hb.size, (hb.block g' a3 hne').trans a4, a5⟩
theorem Stor.asideK {w w' : World} {sb mb n : Nat} {t : Int} {X : Nat → Prop} {f : Nat → CC} {lk : Nat → Option Nat} {d : Nat → Nat} {K : (Option Addr × Nat × Nat) → List Nat} {U : Int → Int → Option Nat} {D : DataW Value} (h : Stor w sb mb n t X f lk d K U D) {g : Nat} (hb : But (· = g) w w') (hX : ¬ X g) (hs : sb ≠ g) (hm : mb ≠ g) (hk : ∀ i, X i → K (f i).ks = [] ∨ (f i).ks.1 ≠ some ⟨g, 0, none⟩) : Stor w' sb mb n t X f lk d K U D :=
  ⟨h.sto.asideK hb hX hk, (hb.cellB (Qaa h.s0) hs).trans h.s0, (hb.cellB (Qaa h.s1) hs).trans h.s1, h.sX, Qbm h.map hb hm, h.ud, h.inX, h.nil⟩
theorem TBox.but {w w' : World} {S : Nat → Prop} {sx lx sb : Nat} {lv : Int} (h : TBox w sx lx sb lv) (hb : But S w w') (h1 : ¬ S sx) (h2 : ¬ S lx) : TBox w' sx lx sb lv :=
  ⟨(hb.block sx (Array.getElem?_eq_some_iff.1 h.s).1 h1).trans h.s, (hb.block lx (Array.getElem?_eq_some_iff.1 h.l).1 h2).trans h.l⟩
structure Stack (w wr : World) (sb mb n B : Nat) (t lv : Int) (ok : (Int → DT) → Prop) (X : Nat → Prop) (f : Nat → CC) (lk : Nat → Option Nat) (d : Nat → Nat) (K : (Option Addr × Nat × Nat) → List Nat) (U : Int → Int → Option Nat) (L : Nat) (ty : List Nd) (k : Nat) (g c : Nat) (bs : List Nat) (A : List (List Nd)) (n' : Nat) (X' : Nat → Prop) (f' : Nat → CC) (K' : (Option Addr × Nat × Nat) → List Nat) (U' : Int → Int → Option Nat) (D' : DataW Value) (rt : List Nat) : Prop where
  own : wr.ownsRow B 64 1 (.slice (some ⟨g, 0, none⟩) bs.length c) bs.length (ptrs bs)
  len : A.length = bs.length
  made : A.flatten = ty.take k
  ones : ∀ x ∈ A, One x
  num : n' ≤ n + k
  stor : Stor wr sb mb n' t X' f' lk d K' U' D'
  grow : Grow lv ok X f lk K U X' f' lk K' U'
  inX : ∀ b ∈ bs, X' b
  mean : ∀ θ, SatC X' (gc K' f') lk θ → ∀ j (h1 : j < A.length) (h2 : j < bs.length), Ev (sg U' lv θ) A[j] (θ bs[j])
  known : ∀ x ∈ ty.take k, x.kind = 61 → ∃ b, U' lv x.num = some b
  free : ∀ i, X' i → K' (f' i).ks = [] ∨ (f' i).ks.1 ≠ some ⟨g, 0, none⟩
  roots : (∀ i, X' i → i ∈ rt) ∧ rt.length ≤ L + k
  old : But (fun i => i = mb ∨ B ≤ i) w wr
  base : B ≤ w.heap.size ∧ w.heap.size ≤ B ∧ sb < B ∧ mb < B
  src : ∀ x c, U' lv x = some c → U lv x = some c ∨ ∃ y ∈ ty.take k, y.kind = 61 ∧ y.num = x
  leaf : ∀ y ∈ ty.take k, y.kind = 61 → U lv y.num = none → ∃ b, U' lv y.num = some b ∧ gc K' f' b = ⟨y, [], decide (1 ≤ lv)⟩ ∧ lk b = none ∧ X' b
  fresh : ∀ i, X' i → X i ∨ B ≤ i
  nds : ∀ i, X' i → X i ∨ (f' i).nd ∈ ty
  um : ∀ i, X' i → ¬ X i → (f' i).nd.kind = 61 → U' lv (f' i).nd.num = some i
theorem Qvm {lv : Int} {ok : (Int → DT) → Prop} {X X' : Nat → Prop} {f f' : Nat → CC} {lk lk' : Nat → Option Nat} {K K' : (Option Addr × Nat × Nat) → List Nat} {U U' : Int → Int → Option Nat} (h : Grow lv ok X f lk K U X' f' lk' K' U') {θ : Nat → DT} {xs : List Nd} {dd : DT} (hk : ∀ x ∈ xs, x.kind = 61 → ∃ b, U lv x.num = some b) (he : Ev (sg U lv θ) xs dd) : Ev (sg U' lv θ) xs dd := by
  refine he.congr (fun n hn h61 => ?_)
  obtain ⟨b, hb⟩ := hk n hn h61
  unfold sg
  rw [hb, h.keep lv n.num b hb]
theorem Qlb : ∀ {A : List (List Nd)}, (∀ x ∈ A, One x) → wt A.flatten = (A.length : Int) := by
  intro A
  induction A with
  | nil => intro _; rfl
  | cons a A ih =>
    intro h
    rw [List.flatten_cons, Qjg, (h a (by simp)).wt, ih (fun x hx => h x (by simp [hx]))]
    simp
    omega
theorem Qzu : ∀ {A : List (List Nd)}, (∀ x ∈ A, One x) → A.length ≤ A.flatten.length := by
  intro A
  induction A with
  | nil => intro _; simp
  | cons a A ih =>
    intro h
    have h1 := List.length_pos_iff.2 (h a (by simp)).ne
    have h2 := ih (fun x hx => h x (by simp [hx]))
    simp only [List.flatten_cons, List.length_append, List.length_cons]
    omega
theorem Qxi {ty : List Nd} {m k : Nat} {S ys : List Sp} (h : Qag ty m = some (S, ys)) (hk : k < m) (hkl : k < ty.length) {A : List (List Nd)} (ho : ∀ x ∈ A, One x) (hA : A.flatten = ty.take k) : 0 ≤ ty[k].kids ∧ ty[k].kids ≤ (A.length : Int) := by
  have hm := Qee h
  have h1 : ∃ S1 ys1, Qag ty (k + 1) = some (S1, ys1) := by
    obtain ⟨S1, h1⟩ := Qdn h (k + 1) (by omega)
    exact ⟨S1, _, h1⟩
  obtain ⟨S1, ys1, h1⟩ := h1
  obtain ⟨S0, ys0, s, hk', ha, hs, _⟩ := Qcq h1
  obtain ⟨h2, h3, _, _⟩ := Qdq hs
  have h4 := Qfe ha
  rw [← hA, Qlb ho] at h4
  exact ⟨h2, by omega⟩
theorem Qvx (w : World) (b : Nat) : ∀ j u, (ptrs [b])[j]? = some u → (w.alloc (.cells #[.pointer (some ⟨b, 0, none⟩)] 64)).cell? (Addr.add ⟨w.heap.size, 0, none⟩ j) = some u := by
  intro j u hj
  rw [add0, cell_of_row _ w.heap.size j _ 64 (0, 0) (heap_alloc_new _ _), ← hj]
  simp [ptrs]
theorem Qsu {w wr W w4 w5 : World} {sb mb n B : Nat} {t lv : Int} {ok : (Int → DT) → Prop} {X : Nat → Prop} {f : Nat → CC} {lk : Nat → Option Nat} {d : Nat → Nat} {K : (Option Addr × Nat × Nat) → List Nat} {U : Int → Int → Option Nat} {L : Nat} {ty : List Nd} {k g c : Nat} {bs : List Nat} {A : List (List Nd)} {n' : Nat} {X' : Nat → Prop} {f' : Nat → CC} {K' : (Option Addr × Nat × Nat) → List Nat} {U' : Int → Int → Option Nat} {D' : DataW Value} {rt : List Nat}
    (hst : Stack w wr sb mb n B t lv ok X f lk d K U L ty k g c bs A n' X' f' K' U' D' rt) (hk : k < ty.length) {nd : Nd} (hnd : ty[k] = nd) (hL : Leafy ty) (hUQ : ∀ a ∈ ty, ∀ b ∈ ty, a.kind = 61 → b.kind = 61 → a.num = b.num → a = b) {kd fi : Nat} (hkd : nd.kids = (kd : Int)) (hfi : bs.length = fi + kd) (hW : Below wr.heap.size wr W) {b : Nat}
    (hres : TRes W sb mb n' t lv ok X' f' lk d K' U' nd (bs.drop fi) (.returned (.pointer (some ⟨b, 0, none⟩))) w4) {g5 c5 : Nat} (hown5 : w5.ownsRow B 64 1 (.slice (some ⟨g5, 0, none⟩) (fi + 1) c5) (fi + 1) (ptrs (bs.take fi) ++ ptrs [b]))
    (hgrow5 : (w4.alloc (.cells #[.pointer (some ⟨b, 0, none⟩)] 64)).grownBy w5 (some g)) (hwh : g5 = g ∨ g5 = (w4.alloc (.cells #[.pointer (some ⟨b, 0, none⟩)] 64)).heap.size) :
    ∃ n2 X2 f2 K2 U2 D2 rt2, Stack w w5 sb mb n B t lv ok X f lk d K U L ty (k + 1) g5 c5 (bs.take fi ++ [b]) (A.take fi ++ [(A.drop fi).flatten ++ [nd]]) n2 X2 f2 K2 U2 D2 rt2 := by
  obtain ⟨b', n2, X2, f2, K2, U2, D2, he, hn2, hS2, hG2, hXb, hsub2, hB2, hmeta, hnode, hks2, hfr2, hleaf2, hsrc2, hnew2⟩ := hres
  simp only [Ending.returned.injEq, Value.pointer.injEq, Option.some.injEq, Addr.mk.injEq, and_true] at he
  subst he
  obtain ⟨B1, B2, B3, B4⟩ := hst.base
  have hob := Qad hst.own
  have hgm : g ≠ mb := by omega
  have howW := Qah hst.own (But.ofBelow (S := fun _ => False) hW) (fun h => h)
  have how4 := Qah howW hB2 hgm
  have hbA : Below w4.heap.size w4 (w4.alloc (.cells #[.pointer (some ⟨b, 0, none⟩)] 64)) := (Below.refl _ _).alloc (Nat.le_refl _) _
  have hS3 := hS2.below hbA
  have how3 := how4.alloc (.cells #[.pointer (some ⟨b, 0, none⟩)] 64)
  have hb5 := Qcj hgrow5
  obtain ⟨_, cur, hcur⟩ := Qhb how3
  have hgX : ¬ X2 g := by
    intro h
    have h9 := hS3.sto.cells.at' g h
    unfold CellAt at h9
    rw [hcur] at h9
    simp at h9
  have hfree : ∀ i, X2 i → K2 (f2 i).ks = [] ∨ (f2 i).ks.1 ≠ some ⟨g, 0, none⟩ := by
    have old : ∀ i, X' i → K2 (f2 i).ks = [] ∨ (f2 i).ks.1 ≠ some ⟨g, 0, none⟩ := by
      intro i hi
      have e1 : K2 (f2 i).ks = K' (f' i).ks := congrArg GC.ks (hG2.same i hi)
      rw [e1, hks2 i hi]
      exact hst.free i hi
    intro i hi
    rcases hsub2 i hi with hi' | rfl
    · exact old i hi'
    · rcases hfr2 with h9 | h9
      · exact old i h9
      · exact h9 g (by have := hW.size; omega)
  have hS5 := hS3.asideK hb5 hgX (by omega) (by omega) hfree
  have hlA : A.length = fi + kd := by rw [hst.len, hfi]
  have htk : ty.take (k + 1) = ty.take k ++ [nd] := by rw [List.take_succ_eq_append_getElem hk, hnd]
  have hnl : nd.kind = 61 → kd = 0 := by
    intro h61
    have h9 := hL nd (by rw [← hnd]; exact List.getElem_mem hk) h61
    omega
  have hfl : (bs.take fi).length = fi := by simp; omega
  have hknown : ∀ x ∈ ty.take (k + 1), x.kind = 61 → ∃ b, U2 lv x.num = some b := by
    intro x hx h61
    rw [htk] at hx
    rcases List.mem_append.1 hx with hx | hx
    · obtain ⟨c, hc⟩ := hst.known x hx h61
      exact ⟨c, hG2.keep _ _ _ hc⟩
    · simp at hx
      subst hx
      exact ⟨b, hmeta h61⟩
  have hsubA : ∀ j (h : j < A.length), ∀ x ∈ A[j], x ∈ ty.take k := by
    intro j h x hx
    rw [← hst.made]
    exact List.mem_flatten.2 ⟨_, List.getElem_mem h, hx⟩
  have hmemT : ∀ y ∈ ty.take k, y ∈ ty := fun y hy => List.mem_of_mem_take hy
  have hndm : nd ∈ ty := by rw [← hnd]; exact List.getElem_mem hk
  have hsrcN : ∀ x c, U2 lv x = some c → U lv x = some c ∨ ∃ y ∈ ty.take (k + 1), y.kind = 61 ∧ y.num = x := by
    intro x c h
    rcases hsrc2 x c h with h9 | ⟨h9, rfl⟩
    · rcases hst.src x c h9 with h8 | ⟨y, hy, h7⟩
      · exact .inl h8
      · exact .inr ⟨y, by rw [htk]; exact List.mem_append_left _ hy, h7⟩
    · exact .inr ⟨nd, by rw [htk]; simp, h9, rfl⟩
  have hleafO : ∀ y ∈ ty.take k, y.kind = 61 → U lv y.num = none → ∃ b, U2 lv y.num = some b ∧ gc K2 f2 b = ⟨y, [], decide (1 ≤ lv)⟩ ∧ lk b = none ∧ X2 b := by
    intro y hy h61 hu
    obtain ⟨b9, h1, h2, h3, h4⟩ := hst.leaf y hy h61 hu
    exact ⟨b9, hG2.keep _ _ _ h1, by rw [hG2.same b9 h4]; exact h2, h3, hG2.sub b9 h4⟩
  have hleafN : ∀ y ∈ ty.take (k + 1), y.kind = 61 → U lv y.num = none → ∃ b, U2 lv y.num = some b ∧ gc K2 f2 b = ⟨y, [], decide (1 ≤ lv)⟩ ∧ lk b = none ∧ X2 b := by
    intro y hy h61 hu
    rw [htk] at hy
    rcases List.mem_append.1 hy with hy | hy
    · exact hleafO y hy h61 hu
    · simp at hy
      subst hy
      cases e9 : U' lv y.num with
      | none =>
        obtain ⟨h1, h2⟩ := hleaf2 h61 e9
        exact ⟨b, hmeta h61, h1, h2, hXb⟩
      | some c9 =>
        rcases hst.src _ _ e9 with h8 | ⟨z, hz, hz61, hzn⟩
        · rw [hu] at h8; cases h8
        · have e8 := hUQ z (hmemT z hz) y hndm hz61 h61 hzn
          subst e8
          exact hleafO z hz h61 hu
  have hfreshN : ∀ i, X2 i → X i ∨ B ≤ i := by
    intro i hi
    rcases hsub2 i hi with h9 | rfl
    · exact hst.fresh i h9
    · rcases hnew2 with h9 | h9
      · exact hst.fresh i h9
      · have h1 := hW.size
        have h2 := hst.old.size
        exact .inr (by omega)
  have hndsO : ∀ i, X' i → X i ∨ (f2 i).nd ∈ ty := by
    intro i h9
    rw [hG2.old i h9]
    exact hst.nds i h9
  have hndsN : ∀ i, X2 i → X i ∨ (f2 i).nd ∈ ty := by
    intro i hi
    rcases hsub2 i hi with h9 | rfl
    · exact hndsO i h9
    · by_cases h61 : nd.kind = 61
      · cases e9 : U' lv nd.num with
        | none =>
          have h9 := congrArg GC.nd (hleaf2 h61 e9).1
          simp only [gc] at h9
          rw [h9]
          exact .inr hndm
        | some c9 =>
          have h9 := hG2.keep _ _ _ e9
          rw [hmeta h61] at h9
          cases h9
          exact hndsO _ (hst.stor.inX _ _ _ e9)
      · have h9 := congrArg GC.nd (hnode h61).1
        simp only [gc] at h9
        rw [h9]
        exact .inr hndm
  have humO : ∀ i, X' i → ¬ X i → (f2 i).nd.kind = 61 → U2 lv (f2 i).nd.num = some i := by
    intro i h9 hx h61
    rw [hG2.old i h9] at h61 ⊢
    exact hG2.keep _ _ _ (hst.um i h9 hx h61)
  have humN : ∀ i, X2 i → ¬ X i → (f2 i).nd.kind = 61 → U2 lv (f2 i).nd.num = some i := by
    intro i hi hx h61i
    rcases hsub2 i hi with h9 | rfl
    · exact humO i h9 hx h61i
    · by_cases h61 : nd.kind = 61
      · cases e9 : U' lv nd.num with
        | none =>
          have h9 := congrArg GC.nd (hleaf2 h61 e9).1
          simp only [gc] at h9
          rw [h9]
          exact hmeta h61
        | some c9 =>
          have h9 := hG2.keep _ _ _ e9
          rw [hmeta h61] at h9
          cases h9
          exact humO _ (hst.stor.inX _ _ _ e9) hx h61i
      · have h9 := congrArg GC.nd (hnode h61).1
        simp only [gc] at h9
        rw [h9] at h61i
        exact absurd h61i h61
  refine ⟨n2, X2, f2, K2, U2, D2, b :: rt, ⟨?_, ?_, ?_, ?_, ?_, hS5, hst.grow.trans hG2 hst.stor.inX (fun i hi k hk => hst.stor.sto.inX i hi k hk), ?_, ?_, hknown, ?_, ?_, ?_, hst.base, hsrcN, hleafN, hfreshN, hndsN, humN⟩⟩
  · have e1 : (bs.take fi ++ [b]).length = fi + 1 := by simp; omega
    have e2 : ptrs (bs.take fi ++ [b]) = ptrs (bs.take fi) ++ ptrs [b] := by simp [ptrs]
    rw [e1, e2]
    exact hown5
  · simp; omega
  · rw [List.flatten_append]
    simp only [List.flatten_cons, List.flatten_nil, List.append_nil]
    rw [← List.append_assoc, ← List.flatten_append, List.take_append_drop, hst.made, htk]
  · intro x hx
    rcases List.mem_append.1 hx with hx | hx
    · exact hst.ones x (List.mem_of_mem_take hx)
    · simp only [List.mem_cons, List.not_mem_nil, or_false] at hx
      subst hx
      refine One.join (fun y hy => hst.ones y (List.mem_of_mem_drop hy)) ?_
      rw [hkd, List.length_drop]
      omega
  · have := hst.num; omega
  · intro x hx
    rcases List.mem_append.1 hx with hx | hx
    · exact hG2.sub x (hst.inX x (List.mem_of_mem_take hx))
    · simp only [List.mem_cons, List.not_mem_nil, or_false] at hx
      subst hx
      exact hXb
  · intro θ hs j h1 h2
    have hs' := hG2.back hs
    have hm : ∀ j (h1 : j < A.length) (h2 : j < bs.length), Ev (sg U2 lv θ) A[j] (θ bs[j]) := by
      intro j h1 h2
      exact Qvm hG2 (fun x hx h61 => hst.known x (hsubA j h1 x hx) h61) (hst.mean θ hs' j h1 h2)
    by_cases hj : j < fi
    · have e1 : (A.take fi ++ [(A.drop fi).flatten ++ [nd]])[j] = A[j]'(by omega) := by
        rw [List.getElem_append_left (by simp; omega), List.getElem_take]
      have e2 : (bs.take fi ++ [b])[j] = bs[j]'(by omega) := by
        rw [List.getElem_append_left (by simp; omega), List.getElem_take]
      rw [e1, e2]
      exact hm j (by omega) (by omega)
    · have hjf : j = fi := by simp at h2; omega
      subst hjf
      have e1 : (A.take j ++ [(A.drop j).flatten ++ [nd]])[j] = (A.drop j).flatten ++ [nd] := by
        rw [List.getElem_append_right (by simp; omega)]
        simp
      have e2 : (bs.take j ++ [b])[j] = b := by
        rw [List.getElem_append_right (by simp; omega)]
        simp
      rw [e1, e2]
      by_cases h61 : nd.kind = 61
      · have hk0 := hnl h61
        have hd : A.drop j = [] := List.drop_of_length_le (by omega)
        rw [hd]
        simp only [List.flatten_nil, List.nil_append]
        have e9 : sg U2 lv θ nd = θ b := by unfold sg; rw [hmeta h61]
        rw [← e9]
        exact Ev.leaf nd h61 (by omega)
      · obtain ⟨hgc, hlk⟩ := hnode h61
        have h9 := hs.2 b hXb hlk (by rw [hgc])
        rw [hgc] at h9
        simp only at h9
        rw [h9]
        refine Ev.node nd h61 (A.drop j) _ (by rw [hkd]; simp; omega) (by simp; omega) (fun i a1 a2 => ?_)
        simp only [List.length_drop] at a1
        simp only [List.getElem_map, List.getElem_drop]
        exact hm (j + i) (by omega) (by omega)
  · intro i hi
    rcases hwh with rfl | rfl
    · exact hfree i hi
    · obtain ⟨_, r2⟩ := hS3.sto.rows i hi
      rcases r2 with e | ⟨g', cur', a1, _, a3, _⟩
      · exact .inl e
      · right
        rw [a1]
        simp only [ne_eq, Option.some.injEq, Addr.mk.injEq, and_true]
        omega
  · refine ⟨fun i hi => ?_, by have := hst.roots.2; simp; omega⟩
    rcases hsub2 i hi with h9 | rfl
    · exact List.mem_cons_of_mem _ (hst.roots.1 i h9)
    · exact List.mem_cons_self
  · refine hst.old.trans ((But.ofBelow hW).trans ((hB2.mono (fun i h => .inl h)).trans ((But.ofBelow hbA).trans (hb5.mono (fun i h => .inr (by omega))))))
theorem Jao (w : World) (sb mb n : Nat) (hn : n ≤ 500000) (t lv : Int) (ok : (Int → DT) → Prop) (X : Nat → Prop) (f : Nat → CC) (lk : Nat → Option Nat) (d : Nat → Nat) (K : (Option Addr × Nat × Nat) → List Nat) (U : Int → Int → Option Nat) (D : DataW Value) (hS : Stor w sb mb n t X f lk d K U D) (sx lx : Nat) (hT : TBox w sx lx sb lv) (w1 : (Lit.int .i64 lv).wf = true) (hlv0 : lv = 0 ∨ lv = 1)
    (ty : List Nd) (m : Nat) (HM : Hid (ty.length = m)) (hm : m ≤ 300) (hm0 : 0 < m) (HW : Hid (∀ x ∈ ty, (Lit.int .i64 x.num).wf = true)) (HL : Hid (Leafy ty)) (HUQ : Hid (∀ a ∈ ty, ∀ b ∈ ty, a.kind = 61 → b.kind = 61 → a.num = b.num → a = b)) (S : List Sp) (ys : List Sp) (HA : Hid (Qag ty m = some (S, ys))) (hS1 : S.length = 1) (HOK : Hid (∀ ρ, ok ρ → lv = 0 → ∀ x ∈ ty, x.kind = 61 → ρ x.num = Qbh x)) (L : Nat) (rt : List Nat) (hrt : (∀ i, X i → i ∈ rt) ∧ rt.length ≤ L) (ao : Option Addr) (cap : Nat) (hx : Nodes w ao ty) :
    Calls Tryz.prog 61 #[.slice ao m cap, .func (.func 62) #[] #[.pointer (some ⟨sx, 0, none⟩), .pointer (some ⟨lx, 0, none⟩)]] w fun e w' => ∃ g c b n' X' f' K' U' D' rt', e = .returned (.pointer (some ⟨b, 0, none⟩)) ∧ Stack w w' sb mb n w.heap.size t lv ok X f lk d K U L ty m g c [b] [ty] n' X' f' K' U' D' rt' := by
  obtain ⟨i0, hi, hz0, hz1, hz2⟩ := info_parts Tryz.infoCP
  go_enter Tryz.func61, Tryz.ntmps61
  go_wp2
  have hO0 : (w.alloc (.cells #[] 64)).ownsRow w.heap.size 64 1 (.slice (some ⟨w.heap.size, 0, none⟩) 0 0) 0 [] := ⟨rfl, Or.inr ⟨_, 0, #[], rfl, Nat.le_refl _, heap_alloc_new _ _, Nat.le_refl _, by simp [maxLen], rfl, rfl⟩⟩
  have hb0 : Below w.heap.size w (w.alloc (.cells #[] 64)) := (Below.refl _ w).alloc (Nat.le_refl _) _
  have HST0 : Hid (Stack w (w.alloc (.cells #[] 64)) sb mb n w.heap.size t lv ok X f lk d K U L ty 0 w.heap.size 0 [] [] n X f K U D rt) := by
    refine ⟨hO0, rfl, rfl, by simp, by omega, hS.below hb0, Grow.refl hS.sto.cells.link, by simp, fun θ _ j h1 => by simp at h1, by simp, fun i hi => ?_, ⟨hrt.1, by omega⟩, But.ofBelow hb0, ⟨Nat.le_refl _, Nat.le_refl _, Qaa hS.s0, hS.map.lt⟩, fun x c h => .inl h, by simp, fun i hi => .inl hi, fun i hi => .inl hi, fun i hi hx => absurd hi hx⟩
    obtain ⟨_, r2⟩ := hS.sto.rows i hi
    rcases r2 with e | ⟨g', cur, a1, _, a3, _⟩
    · exact .inl e
    · right
      rw [a1]
      simp only [ne_eq, Option.some.injEq, Addr.mk.injEq, and_true]
      omega
  have HTB : Hid (TBox w sx lx sb lv) := hT
  have HX : Hid (Nodes w ao ty) := hx
  have HSL : Hid (sb < w.heap.size ∧ mb < w.heap.size ∧ ∀ i, X i → i < w.heap.size) := ⟨Qaa hS.s0, hS.map.lt, fun i hi => (hS.sto.cells.at' i hi).lt⟩
  have HMX : Hid (sx ≠ mb ∧ lx ≠ mb ∧ sx < w.heap.size ∧ lx < w.heap.size) := by
    obtain ⟨es, clock, h1, _⟩ := hS.map
    refine ⟨?_, ?_, (Array.getElem?_eq_some_iff.1 hT.s).1, (Array.getElem?_eq_some_iff.1 hT.l).1⟩
    · rintro rfl
      rw [hT.s] at h1
      cases h1
    · rintro rfl
      rw [hT.l] at h1
      cases h1
  have HMAP : Hid (∃ es clock, w.heap[mb]? = some (.map es clock)) := by
    obtain ⟨es, clock, h1, _⟩ := hS.map
    exact ⟨es, clock, h1⟩
  clear hO0 hb0 hT hx hS
  go_loopw [5, 12] (fun v i wr => ∃ (k g c : Nat) (bs : List Nat) (A : List (List Nd)) (n' : Nat) (X' : Nat → Prop) (f' : Nat → CC) (K' : (Option Addr × Nat × Nat) → List Nat) (U' : Int → Int → Option Nat) (D' : DataW Value) (rt' : List Nat), k ≤ m ∧ i = .int .i64 (k : Int) ∧ v = .slice (some ⟨g, 0, none⟩) bs.length c ∧ Stack w wr sb mb n w.heap.size t lv ok X f lk d K U L ty k g c bs A n' X' f' K' U' D' rt') (fun _ i _ => m - (intOf i).toNat)
  case atStart => exact ⟨0, w.heap.size, 0, [], [], n, X, f, K, U, D, rt, Nat.zero_le _, rfl, rfl, HST0.out⟩
  case round =>
    clear HST0
    obtain ⟨k, g, c, bs, A, n', X', f', K', U', D', rt', hk, rfl, rfl, hst⟩ := hrel
    have HST : Hid (Stack w wr sb mb n w.heap.size t lv ok X f lk d K U L ty k g c bs A n' X' f' K' U' D' rt') := hst
    clear hst
    by_cases hlt : k < m
    · have hltx : k < ty.length := by have := HM.out; omega
      obtain ⟨hk0, hkA⟩ := Qxi HA.out hlt hltx HST.out.ones HST.out.made
      rw [HST.out.len] at hkA
      obtain ⟨nd, hnd⟩ : ∃ x, ty[k] = x := ⟨_, rfl⟩
      rw [hnd] at hk0 hkA
      obtain ⟨kd, hkd⟩ : ∃ kd : Nat, nd.kids = (kd : Int) := ⟨nd.kids.toNat, by omega⟩
      obtain ⟨fi, hfi⟩ : ∃ fi, bs.length = fi + kd := ⟨bs.length - kd, by omega⟩
      have hoB := HST.out.old
      obtain ⟨l1, l2, l3⟩ := HSL.out
      obtain ⟨bb, oo, rfl, hcx⟩ := HX.out k hltx
      rw [hnd] at hcx
      have hnode : NodeAt wr bb (oo + k * 5) nd := by
        obtain ⟨c0, c1, c2, c3, c4⟩ := hcx
        have hbl : bb < w.heap.size := Qaa c0
        have hbm : ¬ (bb = mb ∨ w.heap.size ≤ bb) := by
          rintro (e | e)
          · subst e
            obtain ⟨es, clock, h1⟩ := HMAP.out
            rw [World.cell?] at c0
            simp [h1] at c0
          · omega
        exact ⟨(hoB.cellB hbl hbm).trans c0, (hoB.cellB hbl hbm).trans c1, (hoB.cellB hbl hbm).trans c2, (hoB.cellB hbl hbm).trans c3, (hoB.cellB hbl hbm).trans c4⟩
      obtain ⟨c0, c1, c2, c3, c4⟩ := hnode
      have hlb : bb < wr.heap.size := Qaa c0
      obtain ⟨hlc, cur, hcur⟩ := Qhb HST.out.own
      have hob := Qad HST.out.own
      rw [hkd] at c3
      have HKD : Hid (nd.kids = (kd : Int)) := hkd
      obtain ⟨l, hl⟩ : ∃ l, bs.length = l := ⟨_, rfl⟩
      have HLB : Hid (bs.length = l) := hl
      rw [hl] at hfi hlc ⊢
      have hfl : fi ≤ l := by omega
      have hfc : fi ≤ c := by omega
      have hsub : (l : Int) - (kd : Int) = (fi : Int) := by omega
      have h300 : l ≤ 300 := by
        have h1 := Qzu HST.out.ones
        rw [HST.out.made, HST.out.len, HLB.out] at h1
        simp at h1
        omega
      have hle : (fi : Int) ≤ (fi : Int) + (kd : Int) := by omega
      have hNB : Obj.cells #[.int .i64 nd.kind, .int .i64 nd.num, .string nd.text, .int .i64 nd.kids, .int .i64 nd.place] 43 = (Obj.cells #[.int .i64 nd.kind, .int .i64 nd.num, .string nd.text, .int .i64 (kd : Int), .int .i64 nd.place] 43) := by rw [HKD.out]
      have hbW : Below wr.heap.size wr (wr.alloc (.cells #[.int .i64 nd.kind, .int .i64 nd.num, .string nd.text, .int .i64 nd.kids, .int .i64 nd.place] 43)).drew := ((Below.refl _ wr).alloc (Nat.le_refl _) _).drew
      have hmem : nd ∈ ty := by rw [← hnd]; exact List.getElem_mem hltx
      have hlfw : nd.kind = 61 → nd.kids = 0 := HL.out nd hmem
      have HCALL : Hid (Calls Tryz.prog 62 #[.agg #[.int .i64 nd.kind, .int .i64 nd.num, .string nd.text, .int .i64 (kd : Int), .int .i64 nd.place], .slice (if c = fi then some ⟨g, 0, none⟩ else some ⟨g, fi, none⟩) kd (c - fi), .pointer (some ⟨sx, 0, none⟩), .pointer (some ⟨lx, 0, none⟩)] (wr.alloc (.cells #[.int .i64 nd.kind, .int .i64 nd.num, .string nd.text, .int .i64 (kd : Int), .int .i64 nd.place] 43)).drew fun e w' => ∃ b, e = .returned (.pointer (some ⟨b, 0, none⟩)) ∧ TRes (wr.alloc (.cells #[.int .i64 nd.kind, .int .i64 nd.num, .string nd.text, .int .i64 (kd : Int), .int .i64 nd.place] 43)).drew sb mb n' t lv ok X' f' lk d K' U' nd (bs.drop fi) (.returned (.pointer (some ⟨b, 0, none⟩))) w') := by
        have key : Calls Tryz.prog 62 #[.agg #[.int .i64 nd.kind, .int .i64 nd.num, .string nd.text, .int .i64 nd.kids, .int .i64 nd.place], .slice (if c = fi then some ⟨g, 0, none⟩ else some ⟨g, fi, none⟩) kd (c - fi), .pointer (some ⟨sx, 0, none⟩), .pointer (some ⟨lx, 0, none⟩)] (wr.alloc (.cells #[.int .i64 nd.kind, .int .i64 nd.num, .string nd.text, .int .i64 nd.kids, .int .i64 nd.place] 43)).drew fun e w' => TRes (wr.alloc (.cells #[.int .i64 nd.kind, .int .i64 nd.num, .string nd.text, .int .i64 nd.kids, .int .i64 nd.place] 43)).drew sb mb n' t lv ok X' f' lk d K' U' nd (bs.drop fi) e w' := by
          have hSW := HST.out.stor.below hbW
          have hnn := HST.out.num
          by_cases h61 : nd.kind = 61
          · obtain ⟨e1, e2, e3, e4⟩ := HMX.out
            have hTW := (HTB.out.but HST.out.old (by rintro (h | h); exact e1 h; omega) (by rintro (h | h); exact e2 h; omega)).but (But.ofBelow (S := fun _ => False) hbW) (fun h => h) (fun h => h)
            exact Qss _ sb mb n' (by omega) t lv ok X' f' lk d K' U' D' hSW sx lx hTW nd w1 (by omega) (HW.out nd hmem) h61 (hlfw h61) (fun ρ hρ h0 => HOK.out ρ hρ h0 nd hmem h61) hlv0 (bs.drop fi) _ kd (c - fi)
          · have hdl : (bs.drop fi).length = kd := by simp; have := HLB.out; omega
            have hbsX : ∀ b ∈ bs.drop fi, X' b := fun b hb => HST.out.inX b (List.mem_of_mem_drop hb)
            by_cases hcf : c = fi
            · rw [if_pos hcf]
              have hk0 : kd = 0 := by omega
              refine Qli _ sb mb n' t lv ok X' f' lk d K' U' D' hSW sx lx nd h61 (bs.drop fi) kd (c - fi) hdl (by omega) HKD.out hbsX ⟨g, 0, none⟩ (fun j u hj => ?_)
              have : bs.drop fi = [] := List.eq_nil_of_length_eq_zero (by omega)
              rw [this] at hj
              simp [ptrs] at hj
            · rw [if_neg hcf]
              refine Qli _ sb mb n' t lv ok X' f' lk d K' U' D' hSW sx lx nd h61 (bs.drop fi) kd (c - fi) hdl (by omega) HKD.out hbsX ⟨g, fi, none⟩ (fun j u hj => ?_)
              have hj9 : j < kd := by
                have := (List.getElem?_eq_some_iff.1 hj).1
                simp only [ptrs, List.length_map] at this
                omega
              have ead : Addr.add ⟨g, fi, none⟩ j = ⟨g, fi + j, none⟩ := by
                unfold Addr.add
                split
                · simp_all
                · rfl
              rw [ead]
              have h9 := Qdu (Qah HST.out.own (But.ofBelow (S := fun _ => False) hbW) (fun h => h)) (fi + j) (by have := HLB.out; omega)
              rw [h9]
              simp only [ptrs, List.getElem?_map, List.getElem?_drop] at hj ⊢
              exact hj
        rw [hNB, HKD.out] at key
        refine key.mono ?_
        rintro e w' hr
        obtain ⟨b, hr2⟩ := hr
        obtain ⟨n2, X2, f2, K2, U2, D2, rfl, hr3⟩ := hr2
        exact ⟨b, rfl, b, n2, X2, f2, K2, U2, D2, rfl, hr3⟩
      have HBW : Hid (Below wr.heap.size wr (wr.alloc (.cells #[.int .i64 nd.kind, .int .i64 nd.num, .string nd.text, .int .i64 (kd : Int), .int .i64 nd.place] 43)).drew) := by
        rw [hNB] at hbW
        exact hbW
      have hgm : g ≠ mb := by omega
      have HOWN : Hid (∀ w', But (· = mb) (wr.alloc (.cells #[.int .i64 nd.kind, .int .i64 nd.num, .string nd.text, .int .i64 (kd : Int), .int .i64 nd.place] 43)).drew w' → w'.ownsRow w.heap.size 64 1 (.slice (some ⟨g, 0, none⟩) fi c) fi (ptrs (bs.take fi)) ∧ w.heap.size ≤ w'.heap.size) := by
        intro w' hb'
        have h1 := Qah HST.out.own (But.ofBelow (S := fun _ => False) HBW.out) (fun h => h)
        have h2 := Qah h1 hb' hgm
        have h3 := Qdt h2 fi (by have := HLB.out; omega)
        have e9 : (ptrs bs).take (fi * 1) = ptrs (bs.take fi) := by rw [Nat.mul_one]; simp [ptrs, List.map_take]
        rw [e9] at h3
        have h4 := hb'.size
        have h5 := HBW.out.size
        exact ⟨h3, by omega⟩
      have HND : Hid (ty[k] = nd) := hnd
      have HFI : Hid (bs.length = fi + kd) := by rw [Hid, HLB.out]; exact hfi
      clear hcx hoB hkd hl hnd hNB hbW hmem hlfw
      go_wp2_with fail
      go_region_law (first
        | (go_simp; refine HCALL.out.mono ?_; rintro e w4 ⟨b, rfl, hres⟩; have hB4 : But (· = mb) (wr.alloc (.cells #[.int .i64 nd.kind, .int .i64 nd.num, .string nd.text, .int .i64 (kd : Int), .int .i64 nd.place] 43)).drew w4 := (by obtain ⟨_, _, _, _, _, _, _, _, _, _, _, _, _, h9, _⟩ := hres; exact h9); obtain ⟨how4, hsz4⟩ := HOWN.out w4 hB4; have how5 := how4.alloc (.cells #[.pointer (some ⟨b, 0, none⟩)] 64); have hpc := Qvx w4 b)
        | (refine Qfl _ rfl (.tmp 23) (.tmp 30) 116 rfl w.heap.size 64 i0 _ 1 8 Tryz.underlying116 hi hz0 hz1 hz2 rfl (by decide) g fi c _ rfl how5 ⟨_, 0, none⟩ 1 1 (ptrs [b]) rfl rfl hpc (Qry _) ?_ ?_ ?_ ?_; (unfold maxLen; omega); omega; ((try simp); omega); intro g5 c5 w5 hown5 hgrow5 hwh))
      all_goals
        have HN : Hid (∃ n2 X2 f2 K2 U2 D2 rt2, Stack w w5 sb mb n w.heap.size t lv ok X f lk d K U L ty (k + 1) g5 c5 (bs.take fi ++ [b]) (A.take fi ++ [(A.drop fi).flatten ++ [nd]]) n2 X2 f2 K2 U2 D2 rt2) := Qsu HST.out hltx HND.out HL.out HUQ.out HKD.out HFI.out HBW.out hres hown5 hgrow5 hwh
        have hlen : fi + 1 = (bs.take fi ++ [b]).length := by
          simp
          have := HFI.out
          omega
        clear hown5 hgrow5 hwh how4 how5 hpc hB4 hres HOWN HBW HCALL HST hcur hob c0 c1 c2 c3 c4
        simp only [Act.put, List.getElem_toArray, List.getElem_cons_succ, List.getElem_cons_zero, List.setIfInBounds_toArray, List.set_cons_zero, List.set_cons_succ]
        obtain ⟨n2, X2, f2, K2, U2, D2, rt2, hnx⟩ := HN.out
        go_wp2
        go_roundw
        case rel => exact ⟨k + 1, g5, c5, bs.take fi ++ [b], _, n2, X2, f2, K2, U2, D2, rt2, by omega, by go_num, by rw [← hlen], hnx⟩
        case measure => simp [intOf]; omega
    · obtain rfl : k = m := by omega
      have hAl : A.length = 1 := by
        have h1 := Qfe HA.out
        rw [← HST.out.made, Qlb HST.out.ones] at h1
        omega
      have hbl : bs.length = 1 := by rw [← HST.out.len]; exact hAl
      obtain ⟨a, rfl⟩ : ∃ a, A = [a] := List.length_eq_one_iff.1 hAl
      obtain ⟨b, rfl⟩ : ∃ b, bs = [b] := List.length_eq_one_iff.1 hbl
      have ha : a = ty := by
        have h1 := HST.out.made
        rw [List.take_of_length_le (by have := HM.out; omega)] at h1
        simpa using h1
      subst ha
      have q0 : wr.cell? ⟨g, 0, none⟩ = some (.pointer (some ⟨b, 0, none⟩)) := by
        have h9 := Qdu HST.out.own 0 (by simp)
        rw [h9]
        rfl
      go_wp2
      go_ret
      exact ⟨g, c, b, n', X', f', K', U', D', rt', rfl, HST.out⟩
structure Taken (w w' : World) (sb mb n : Nat) (t lv : Int) (ok : (Int → DT) → Prop) (X : Nat → Prop) (f : Nat → CC) (lk : Nat → Option Nat) (d : Nat → Nat) (K : (Option Addr × Nat × Nat) → List Nat) (U : Int → Int → Option Nat) (L : Nat) (ty : List Nd) (b n' : Nat) (X' : Nat → Prop) (f' : Nat → CC) (K' : (Option Addr × Nat × Nat) → List Nat) (U' : Int → Int → Option Nat) (D' : DataW Value) (rt : List Nat) : Prop where
  num : n' ≤ n + ty.length
  stor : Stor w' sb mb n' t X' f' lk d K' U' D'
  grow : Grow lv ok X f lk K U X' f' lk K' U'
  inX : X' b
  mean : ∀ θ, SatC X' (gc K' f') lk θ → Ev (sg U' lv θ) ty (θ b)
  known : ∀ x ∈ ty, x.kind = 61 → ∃ b, U' lv x.num = some b
  roots : (∀ i, X' i → i ∈ rt) ∧ rt.length ≤ L + ty.length
  old : But (fun i => i = mb) w w'
  src : ∀ x c, U' lv x = some c → U lv x = some c ∨ ∃ y ∈ ty, y.kind = 61 ∧ y.num = x
  leaf : ∀ y ∈ ty, y.kind = 61 → U lv y.num = none → ∃ b, U' lv y.num = some b ∧ gc K' f' b = ⟨y, [], decide (1 ≤ lv)⟩ ∧ lk b = none ∧ X' b
  fresh : ∀ i, X' i → X i ∨ w.heap.size ≤ i
  nds : ∀ i, X' i → X i ∨ (f' i).nd ∈ ty
  um : ∀ i, X' i → ¬ X i → (f' i).nd.kind = 61 → U' lv (f' i).nd.num = some i
theorem Qmf (w : World) (sb mb n : Nat) (hn : n ≤ 500000) (t lv : Int) (ok : (Int → DT) → Prop) (X : Nat → Prop) (f : Nat → CC) (lk : Nat → Option Nat) (d : Nat → Nat) (K : (Option Addr × Nat × Nat) → List Nat) (U : Int → Int → Option Nat) (D : DataW Value) (hS : Stor w sb mb n t X f lk d K U D) (w1 : (Lit.int .i64 lv).wf = true) (hlv0 : lv = 0 ∨ lv = 1)
    (ty : List Nd) (m : Nat) (HM : Hid (ty.length = m)) (hm : m ≤ 300) (hm0 : 0 < m) (HW : Hid (∀ x ∈ ty, (Lit.int .i64 x.num).wf = true)) (HL : Hid (Leafy ty)) (HUQ : Hid (∀ a ∈ ty, ∀ b ∈ ty, a.kind = 61 → b.kind = 61 → a.num = b.num → a = b)) (S : List Sp) (ys : List Sp) (HA : Hid (Qag ty m = some (S, ys))) (hS1 : S.length = 1) (HOK : Hid (∀ ρ, ok ρ → lv = 0 → ∀ x ∈ ty, x.kind = 61 → ρ x.num = Qbh x)) (L : Nat) (rt : List Nat) (hrt : (∀ i, X i → i ∈ rt) ∧ rt.length ≤ L) (ao : Option Addr) (cap : Nat) (hx : Nodes w ao ty) :
    Calls Tryz.prog 30 #[.pointer (some ⟨sb, 0, none⟩), .slice ao m cap, .int .i64 lv] w fun e w' => ∃ b n' X' f' K' U' D' rt', e = .returned (.pointer (some ⟨b, 0, none⟩)) ∧ Taken w w' sb mb n t lv ok X f lk d K U L ty b n' X' f' K' U' D' rt' := by
  have hb0 : Below w.heap.size w (w.alloc (.cells #[.pointer (some ⟨sb, 0, none⟩)] 59)) := (Below.refl _ w).alloc (Nat.le_refl _) _
  have hb1 := hb0.alloc hb0.size (.cells #[.int .i64 lv] 3)
  have k0 : ((w.alloc (.cells #[.pointer (some ⟨sb, 0, none⟩)] 59)).alloc (.cells #[.int .i64 lv] 3)).heap[w.heap.size]? = some (.cells #[.pointer (some ⟨sb, 0, none⟩)] 59 (0, 0)) := by
    rw [heap_alloc_old _ _ (by simp)]
    exact heap_alloc_new _ _
  have k1 : ((w.alloc (.cells #[.pointer (some ⟨sb, 0, none⟩)] 59)).alloc (.cells #[.int .i64 lv] 3)).heap[w.heap.size + 1]? = some (.cells #[.int .i64 lv] 3 (0, 0)) := by
    have h9 := heap_alloc_new (w.alloc (.cells #[.pointer (some ⟨sb, 0, none⟩)] 59)) (.cells #[.int .i64 lv] 3)
    simpa using h9
  have HF := Jao _ sb mb n hn t lv ok X f lk d K U D (hS.below hb1) w.heap.size (w.heap.size + 1) ⟨k0, k1⟩ w1 hlv0 ty m HM hm hm0 HW HL HUQ S ys HA hS1 HOK L rt hrt ao cap (hx.below hb1)
  have HB : Hid (But (fun i => i = mb) w ((w.alloc (.cells #[.pointer (some ⟨sb, 0, none⟩)] 59)).alloc (.cells #[.int .i64 lv] 3))) := But.ofBelow hb1
  have HZ : Hid (w.heap.size ≤ ((w.alloc (.cells #[.pointer (some ⟨sb, 0, none⟩)] 59)).alloc (.cells #[.int .i64 lv] 3)).heap.size) := hb1.size
  clear hS hx k0 k1 hb0 hb1
  go_enter Tryz.func30, Tryz.ntmps30
  go_wp2_with fail
  refine HF.mono ?_
  rintro e w2 ⟨g, c, b, n', X', f', K', U', D', rt', rfl, hst⟩
  have HT : Hid (Taken w w2 sb mb n t lv ok X f lk d K U L ty b n' X' f' K' U' D' rt') := by
    have hmt : ty.take m = ty := List.take_of_length_le (by have := HM.out; omega)
    have hl := HM.out
    refine ⟨by have := hst.num; omega, hst.stor, hst.grow, hst.inX b (by simp), fun θ hs => by simpa using hst.mean θ hs 0 (by simp) (by simp), fun x hx => hst.known x (by rw [hmt]; exact hx), ⟨hst.roots.1, by have := hst.roots.2; omega⟩, ?_, (by have h9 := hst.src; rw [hmt] at h9; exact h9), (by have h9 := hst.leaf; rw [hmt] at h9; exact h9), fun i hi => (hst.fresh i hi).imp id (fun h => Nat.le_trans HZ.out h), hst.nds, hst.um⟩
    refine ⟨hst.old.os.trans HB.out.os, hst.old.tape.trans HB.out.tape, hst.old.output.trans HB.out.output, Nat.le_trans HB.out.size hst.old.size, fun i hi hne => ?_⟩
    refine (hst.old.block i (Nat.lt_of_lt_of_le hi HB.out.size) ?_).trans (HB.out.block i hi hne)
    rintro (h | h)
    · exact hne h
    · have := HZ.out; omega
  clear hst HF
  go_wp2
  go_ret
  exact ⟨b, n', X', f', K', U', D', rt', rfl, HT.out⟩
end Go.Proofs.YtoiiibplkhedcaaGreatDoor
namespace Go.Proofs.YtoiiibplkhedcaaGreatDoor
open Go.RowKit
/-! What holds of the nodes of all cells stays. -/
section
variable {Q : Nd → Prop} {X X' : Nat → Prop} {f f' : Nat → CC} {lk lk' : Nat → Option Nat} {t : Int}
theorem Qyz (f : Nat → CC) (a h q : Nat) (r t : Int) (i : Nat) : (Qat f a h q r t i).nd = (f i).nd ∨ (Qat f a h q r t i).nd = (f a).nd := by
  unfold Qat
  by_cases h1 : i = q
  · rw [if_pos h1, h1]
    exact .inl rfl
  · rw [if_neg h1]
    by_cases h2 : i = h
    · rw [if_pos h2, h2]
      split
      · exact .inr rfl
      · exact .inl rfl
    · rw [if_neg h2]
      exact .inl rfl
theorem Ties.nds (h : Ties X t f lk f' lk') (hQ : ∀ r, X r → Q (f r).nd) : ∀ r, X r → Q (f' r).nd := by
  induction h using Ties.elim with
  | same _ => exact hQ
  | step _ ha _ _ _ _ _ _ _ ih =>
    intro i hi
    rcases Qyz _ _ _ _ _ _ i with e | e
    · rw [e]; exact ih i hi
    · rw [e]; exact ih _ ha
theorem Taken.plain {w w' : World} {sb mb n : Nat} {lv : Int} {ok : (Int → DT) → Prop} {d : Nat → Nat} {K K' : (Option Addr × Nat × Nat) → List Nat} {U U' : Int → Int → Option Nat} {L : Nat} {ty : List Nd} {b n' : Nat} {D' : DataW Value} {rt : List Nat} (T : Taken w w' sb mb n t lv ok X f lk d K U L ty b n' X' f' K' U' D' rt) (hQ : ∀ r, X r → Q (f r).nd) (hty : ∀ x ∈ ty, Q x) : ∀ r, X' r → Q (f' r).nd := by
  intro r hr
  by_cases hx : X r
  · rw [T.grow.old r hx]
    exact hQ r hx
  · exact hty _ ((T.nds r hr).resolve_left hx)
end
end Go.Proofs.YtoiiibplkhedcaaGreatDoor

import Derived.Test.YtemancdlnakkmaaGreatLPt
import Derived.Test.YtemancdlnakkmaaGreatProg
import Derived.Test.YtemancdlnakkmaaGreatWAA
import Derived.Deep.Light
import Derived.StillTactics
import Derived.Test.YtemancdlnakkmaaGreatWBH
namespace Go.Proofs.YtemancdlnakkmaaGreat
open Go.RowKit
def LessS (t l : List Nd) : Prop := (PlainS t ∧ l = lessL t t.length) ∨ (¬ PlainS t ∧ l = [])
theorem plain_pass (t : List Nd) (m : Nat) (HM : Hid (t.length = m)) (hP : PlainS t) (htx : ∀ x ∈ t, x.text.size ≤ 1048576 ∧ (Lit.int .i64 x.num).wf = true) (ao : Option Addr) (cap : Nat) (w : World) (hx : Nodes w ao t) :
    Calls Tryz.prog 14 #[.slice ao m cap] w fun e w' => ∃ g c l, e = .returned (.slice (some ⟨g, 0, none⟩) l c) ∧ OwnN w' w.heap.size g c l (lessL t m) ∧ Below w.heap.size w w' := by
  obtain ⟨h0, S, ys, hA, hS⟩ := one_of_raw hP.2.1
  rw [HM.out] at hA
  have hm6 : m ≤ 60000 := by have := hP.1; have := HM.out; omega
  have hm0 : 0 < m := by have := HM.out; omega
  obtain ⟨b, o, e, -⟩ := hx 0 h0
  subst e
  exact pass_any t m HM hm6 hm0 S ys hA hS (plain_tree HM.out hA hP htx) b o cap w hx
set_option maxHeartbeats 400000 in
theorem bare_any (x : Nd) (w : World) :
    Calls Tryz.prog 31 #[.agg #[.int .i64 x.kind, .int .i64 x.num, .string x.text, .int .i64 x.kids, .int .i64 x.place]] w fun e w' =>
      e = .returned (.agg #[.int .i64 x.kind, .int .i64 x.num, .string x.text, .int .i64 x.kids, .int .i64 0]) ∧ Below w.heap.size w w' := by
  go_enter Tryz.func31, Tryz.ntmps31
  go_wp2
  refine bodyPost_ret (v := .agg #[.int .i64 x.kind, .int .i64 x.num, .string x.text, .int .i64 x.kids, .int .i64 0]) (by simp [results, Tryz.results31, go_sem]) rfl ⟨rfl, ?_⟩
  exact ((Below.refl _ _).alloc (Nat.le_refl _) _).alloc (by simp) _
theorem neqN (x y : Nd) (w : World) :
    (binOp .neq 34 (.agg #[.int .i64 x.kind, .int .i64 x.num, .string x.text, .int .i64 x.kids, .int .i64 0]) (.agg #[.int .i64 y.kind, .int .i64 y.num, .string y.text, .int .i64 y.kids, .int .i64 0])).run Tryz.prog w =
      .ok (.bool (!(x.sameb y))) w := by
  unfold Nd.sameb
  go_simp
  repeat' split
  all_goals simp_all
theorem neqE (x y : Nd) (w : World) :
    (binOp .neq 34 (.agg #[.int .i64 x.kind, .int .i64 x.num, .string x.text, .int .i64 x.kids, .int .i64 x.place]) (.agg #[.int .i64 y.kind, .int .i64 y.num, .string y.text, .int .i64 y.kids, .int .i64 y.place])).run Tryz.prog w =
      .ok (.bool (!x.eqb y)) w := by
  unfold Nd.eqb
  go_simp
  repeat' split
  all_goals simp_all
theorem Tryz.mixedE : Tryz.prog.follows .mixedOrders = true := by kernel_rfl
set_option maxRecDepth 20000 in
set_option maxHeartbeats 2000000 in
theorem equalN_any (xs ys : List Nd) (n m : Nat) (HX : Hid (xs.length = n)) (HY : Hid (ys.length = m)) (ao bo : Option Addr) (cap cbp : Nat) (w : World) (hx : Nodes w ao xs) (hy : Nodes w bo ys) (hlx : n ≤ 1048576) (hly : m ≤ 1048576) :
    Calls Tryz.prog 20 #[.slice ao n cap, .slice bo m cbp] w fun e w' =>
      (∃ r : Bool, e = .returned (.bool r) ∧ (r = true ↔ Alike Nd.eqb xs ys)) ∧ Below w.heap.size w w' := by
  by_cases hl : n = m
  · subst hl
    go_enter Tryz.func20, Tryz.ntmps20
    go_wp2
    go_loopw [13] (fun i wr => ∃ (k : Nat), k ≤ n ∧ i = .int .i64 k ∧ Hid (∀ i (h : i < xs.length) (h' : i < ys.length), i < k → xs[i].eqb ys[i] = true) ∧ Below w.heap.size w wr) (fun i _ => n - (intOf i).toNat)
    case atStart => exact ⟨0, Nat.zero_le _, rfl, fun i _ _ h => absurd h (by omega), Below.refl _ _⟩
    case round =>
      obtain ⟨k, hk, rfl, HA, hb⟩ := hrel
      by_cases hlt : k < n
      · have hltx : k < xs.length := by have := HX.out; omega
        have hlty : k < ys.length := by have := HY.out; omega
        obtain ⟨x, hxk⟩ : ∃ x, xs[k] = x := ⟨_, rfl⟩
        obtain ⟨y, hyk⟩ : ∃ y, ys[k] = y := ⟨_, rfl⟩
        obtain ⟨b, o, rfl, hcx⟩ := hx.below hb k hltx
        obtain ⟨b', o', rfl, hcy⟩ := hy.below hb k hlty
        rw [hxk] at hcx
        rw [hyk] at hcy
        obtain ⟨c0, c1, c2, c3, c4⟩ := hcx
        obtain ⟨e0, e1, e2, e3, e4⟩ := hcy
        have HXK : Hid (xs[k] = x) := hxk
        have HYK : Hid (ys[k] = y) := hyk
        have hne := neqE x y
        clear hx hy hxk hyk
        cases hq : x.eqb y
        · rw [hq] at hne
          have HQ : Hid (x.eqb y = false) := hq
          clear hq
          go_wp2
          go_still Tryz.mixedE
          have hb2 : Below w.heap.size w wr.drew := hb.drew
          go_wp2
          go_ret
          exact ⟨⟨false, rfl, by simp only [Bool.false_eq_true, false_iff]; intro ha; have := ha.2 k hltx hlty; rw [HXK.out, HYK.out, HQ.out] at this; cases this⟩, hb2⟩
        · rw [hq] at hne
          have HA2 : Hid (∀ i (h : i < xs.length) (h' : i < ys.length), i < k + 1 → xs[i].eqb ys[i] = true) := by
            intro i h h' hi
            by_cases e : i = k
            · subst e; rw [HXK.out, HYK.out]; exact hq
            · exact HA.out i h h' (by omega)
          clear HA hq
          go_wp2
          go_still Tryz.mixedE
          have hb2 : Below w.heap.size w wr.drew := hb.drew
          go_wp2
          go_roundw
          case rel => exact ⟨k + 1, by omega, by go_num, HA2, hb2⟩
          case measure => (simp [intOf]) <;> omega
      · have HA2 : Hid (Alike Nd.eqb xs ys) := ⟨HX.out.trans HY.out.symm, fun i h h' => HA.out i h h' (by have := HX.out; omega)⟩
        clear HA hx hy
        go_wp2
        go_ret
        exact ⟨⟨true, rfl, by simp only [true_iff]; exact HA2.out⟩, hb⟩
  · have hne : ((n : Int) != (m : Int)) = true := by simp; omega
    clear hx hy
    go_enter Tryz.func20, Tryz.ntmps20
    go_wp2
    go_ret
    exact ⟨⟨false, rfl, by simp only [Bool.false_eq_true, false_iff]; intro ha; exact hl (HX.out.symm.trans (ha.1.trans HY.out))⟩, Below.refl _ _⟩
theorem eqbE_eq {x y : Nd} (h : x.eqb y = true) : x = y := by
  obtain ⟨a1, a2, a3, a4, a5⟩ := x
  obtain ⟨b1, b2, b3, b4, b5⟩ := y
  simp only [Nd.eqb, Bool.and_eq_true, beq_iff_eq] at h
  obtain ⟨⟨⟨⟨e1, e2⟩, e3⟩, e4⟩, e5⟩ := h
  have e6 : a3 = b3 := by
    rw [ByteArray.toList_eq, ByteArray.toList_eq] at e3
    cases a3; cases b3
    simp only [ByteArray.mk.injEq]
    exact Array.toList_inj.1 e3
  subst e1 e2 e4 e5 e6
  rfl
theorem alikeE_eq {xs ys : List Nd} (h : Alike Nd.eqb xs ys) : xs = ys :=
  List.ext_getElem h.1 (fun i h1 h2 => eqbE_eq (h.2 i h1 h2))
theorem alikeE_iff {xs ys : List Nd} : Alike Nd.eqb xs ys ↔ xs = ys :=
  ⟨alikeE_eq, fun h => by subst h; exact ⟨rfl, fun _ _ _ => Nd.eqb_refl _⟩⟩
theorem alikeS_iff {xs ys : List Nd} (hx : ∀ i (h : i < xs.length), xs[i].place = 0) (hy : ∀ i (h : i < ys.length), ys[i].place = 0) : Alike Nd.sameb xs ys ↔ xs = ys := by
  constructor
  · rintro ⟨h1, h2⟩
    refine alikeE_eq ⟨h1, fun i h h' => ?_⟩
    have h3 := h2 i h h'
    unfold Nd.sameb at h3
    unfold Nd.eqb
    rw [h3, hx i h, hy i h']
    rfl
  · rintro rfl
    exact ⟨rfl, fun i _ _ => by simp [Nd.sameb]⟩
structure RunK (t : List Nd) (a e : Nat) (S : List Sp) (ks : List Tre) (D : List Sp) : Prop where
  run : ∃ ys, after t e = some (S ++ D, ys)
  nds : D.map (fun s => ndAt t s.rt) = ks.map Tre.nd
  fr : frOf D e = a
  ok : ∀ i, a ≤ i → i < e → nodeOk plainOwn plainKids (ndAt t i) (kidsN t i) = true
def RunC (T : Tre) : Prop := ∀ (t : List Nd) (a : Nat) (S ys : List Sp), after t a = some (S, ys) → (∀ j, j < (outT T).length → t[a + j]? = (outT T)[j]?) → ∃ s, RunK t a (a + (outT T).length) S [T] [s]
theorem run_kids {t : List Nd} : ∀ (ks : List Tre), (∀ k ∈ ks, RunC k) → ∀ (a : Nat) (S ys : List Sp), after t a = some (S, ys) → (∀ j, j < (ks.map outT).flatten.length → t[a + j]? = (ks.map outT).flatten[j]?) → ∃ D, RunK t a (a + (ks.map outT).flatten.length) S ks D := by
  intro ks
  induction ks with
  | nil =>
    intro _ a S ys h _
    exact ⟨[], ⟨⟨ys, by simpa using h⟩, rfl, rfl, fun i h1 h2 => by simp at h2; omega⟩⟩
  | cons k ks ih =>
    intro hC a S ys h ht
    have el : ((k :: ks).map outT).flatten = outT k ++ (ks.map outT).flatten := by simp
    rw [el] at ht ⊢
    obtain ⟨s, hs⟩ := hC k (by simp) t a S ys h (fun j hj => by
      rw [ht j (by rw [List.length_append]; omega), List.getElem?_append_left hj])
    obtain ⟨y1, r1⟩ := hs.run
    obtain ⟨D, hD⟩ := ih (fun x hx => hC x (by simp [hx])) (a + (outT k).length) (S ++ [s]) y1 r1 (fun j hj => by
      rw [Nat.add_assoc, ht _ (by rw [List.length_append]; omega), List.getElem?_append_right (by omega)]
      congr 1
      omega)
    obtain ⟨y2, r2⟩ := hD.run
    have h1 : ndAt t s.rt = k.nd := by simpa using hs.nds
    rw [List.length_append, ← Nat.add_assoc]
    refine ⟨s :: D, ⟨⟨y2, by simpa using r2⟩, ?_, hs.fr, fun i h3 h4 => ?_⟩⟩
    · rw [List.map_cons, List.map_cons, hD.nds, h1]
    · by_cases hi : i < a + (outT k).length
      · exact hs.ok i h3 hi
      · exact hD.ok i (by omega) h4
theorem run_tree (T : Tre) : PlT T → RunC T := by
  refine Tre.ind (p := fun T => PlT T → RunC T) ?_ T
  intro n ks ih hP t a S ys h ht
  rw [outT_eq n ks] at ht ⊢
  obtain ⟨D, hD⟩ := run_kids ks (fun k hk => ih k hk (hP.kid k hk)) a S ys h (fun j hj => by
    rw [ht j (by rw [List.length_append]; omega), List.getElem?_append_left hj])
  obtain ⟨L, hL⟩ : ∃ L, (ks.map outT).flatten = L := ⟨_, rfl⟩
  rw [hL] at ht hD ⊢
  obtain ⟨y1, r1⟩ := hD.run
  have hn : t[a + L.length]? = some n := by
    rw [ht L.length (by simp), List.getElem?_append_right (Nat.le_refl _)]
    simp
  obtain ⟨hlt, hget⟩ := List.getElem?_eq_some_iff.1 hn
  have hdl : D.length = ks.length := by
    have h9 := congrArg List.length hD.nds
    simpa using h9
  have hkn := hP.node.kids
  have e : (S ++ D).length - ((ks.length : Int)).toNat = S.length := by
    rw [List.length_append]
    simp
    omega
  have hst : step (S ++ D) (a + L.length) t[a + L.length].kids = some (S ++ [over D (a + L.length)], over D (a + L.length)) := by
    rw [hget, hkn, step_of (by omega) (by rw [List.length_append]; omega), e]
    simp
  have r2 := after_succ r1 hlt hst
  refine ⟨over D (a + L.length), ⟨⟨_, by rw [List.length_append]; exact r2⟩, ?_, hD.fr, fun i h1 h2 => ?_⟩⟩
  · show [ndAt t (a + L.length)] = [n]
    rw [ndAt_get hlt, hget]
  · by_cases hi : i < a + L.length
    · exact hD.ok i h1 hi
    · obtain rfl : i = a + L.length := by
        rw [List.length_append] at h2
        simp at h2
        omega
      rw [kidsN_eq r1 hlt, hget, hkn, e, List.drop_left, hD.nds, ndAt_get hlt, hget]
      exact hP.node.node
theorem not62 {t : List Nd} {i : Nat} (h : nodeOk plainOwn plainKids (ndAt t i) (kidsN t i) = true) : (ndAt t i).kind ≠ 62 := by
  intro e
  obtain ⟨p, hp, -⟩ := nodeOk_parts h
  rw [e] at hp
  cases hp
theorem plain_out {T : Tre} (hP : PlT T) (hc : pCode T.nd = true) (hl : (outT T).length ≤ 60000) : PlainS (outT T) := by
  obtain ⟨s, hs⟩ := run_tree T hP (outT T) 0 [] [] rfl (fun j hj => by rw [Nat.zero_add])
  obtain ⟨ys, hr⟩ := hs.run
  have hok := hs.ok
  have hfr : s.fr = 0 := hs.fr
  have hnd : ndAt (outT T) s.rt = T.nd := by simpa using hs.nds
  rw [Nat.zero_add] at hr hok
  have hpos : 0 < (outT T).length := out_pos T
  have hf := after_fine hr
  have hm : ys[s.rt]? = some s := hf.mem 0 (by simp)
  have hch := (hf.chain.2.2.1 (by simp)).2
  have hrt : s.rt + 1 = (outT T).length := by simpa using hch
  obtain ⟨s', h1, h2, h3, h4, h5⟩ := raw_some rfl hpos hr
  have e1 : (outT T).length - 1 = s.rt := by omega
  rw [e1, hm] at h1
  simp only [Option.some.injEq] at h1
  subst h1
  rw [plain_eq]
  refine ⟨hl, ?_, fun i hi => ?_, ?_⟩
  · rw [h2, if_pos hfr]
    omega
  · have h9 := hok i (Nat.zero_le _) hi
    unfold okAt
    rw [h9, alls, if_neg (not62 h9)]
    rfl
  · rw [e1, hnd]
    exact hc
theorem plain_texts (T : Tre) : PlT T → ∀ x ∈ outT T, x.text.size ≤ 1048576 ∧ (Lit.int .i64 x.num).wf = true := by
  refine Tre.ind (p := fun T => PlT T → ∀ x ∈ outT T, x.text.size ≤ 1048576 ∧ (Lit.int .i64 x.num).wf = true) ?_ T
  intro n ks ih hP x hx
  rw [outT_eq, List.mem_append] at hx
  rcases hx with hx | hx
  · obtain ⟨l, hl, hxl⟩ := List.mem_flatten.1 hx
    obtain ⟨k, hk, rfl⟩ := List.mem_map.1 hl
    exact ih k hk (hP.kid k hk) x hxl
  · simp only [List.mem_singleton] at hx
    subst hx
    exact ⟨hP.node.text, hP.node.num⟩
def GoodS (t : List Nd) : Prop := PlainS t ∧ ∀ x ∈ t, x.text.size ≤ 1048576 ∧ (Lit.int .i64 x.num).wf = true
theorem GoodS.less {t : List Nd} (h : GoodS t) : GoodS (lessL t t.length) ∧ (lessL t t.length).length ≤ t.length := by
  obtain ⟨hP, htx⟩ := h
  obtain ⟨h0, S, ys, hA, hS⟩ := one_of_raw hP.2.1
  have hT := plain_tree rfl hA hP htx t.length (t.length - 1) (by omega) (by omega)
  have hR := tree_root rfl hA hS h0
  have hk := (less_kept (cntK bndK t) (cntK (· == 70) t) (treT t t.length (t.length - 1)) (fun _ => none) hT (fun x V h9 => by cases h9)).1
  have hle : (lessL t t.length).length ≤ t.length := by
    have h9 := hk.le
    rw [hR] at h9
    exact h9
  have hc0 : pCode (treT t t.length (t.length - 1)).nd = true := by
    have h9 := ((plain_eq t).1 hP).2.2.2
    have e : (treT t t.length (t.length - 1)).nd = ndAt t (t.length - 1) := by
      cases t.length <;> rfl
    rw [e]
    exact h9
  have hc1 := cls_code.1 (hk.cl.trans (cls_code.2 hc0))
  exact ⟨⟨plain_out hk.pl hc1 (by have := hP.1; unfold lessL at hle; omega), plain_texts _ hk.pl⟩, hle⟩
def SimR : Nat → List Nd → List Nd → Prop
  | 0, t, r => r = t
  | k + 1, t, r => (lessL t t.length = t ∧ r = t) ∨ (lessL t t.length ≠ t ∧ SimR k (lessL t t.length) r)
theorem SimR.zero (t : List Nd) : SimR 0 t t := rfl
theorem SimR.stop (k : Nat) (t : List Nd) (h : lessL t t.length = t) : SimR (k + 1) t t := .inl ⟨h, rfl⟩
theorem SimR.go (k : Nat) (t r : List Nd) (h : lessL t t.length ≠ t) (h2 : SimR k (lessL t t.length) r) : SimR (k + 1) t r := .inr ⟨h, h2⟩
theorem SimR.same : ∀ {k : Nat} {t r : List Nd}, SimR k t r → ∀ {r'}, SimR k t r' → r = r'
  | 0, t, r, h, r', h' => (show r = t from h).trans (show r' = t from h').symm
  | k + 1, t, r, h, r', h' => by
    rcases h with ⟨h1, h2⟩ | ⟨h1, h2⟩ <;> rcases h' with ⟨h3, h4⟩ | ⟨h3, h4⟩
    · rw [h2, h4]
    · exact absurd h1 h3
    · exact absurd h3 h1
    · exact SimR.same h2 h4
theorem SimR.len : ∀ {k : Nat} {t r : List Nd}, SimR k t r → GoodS t → r.length ≤ t.length
  | 0, t, r, h, _ => by rw [show r = t from h]; exact Nat.le_refl _
  | k + 1, t, r, h, hg => by
    rcases h with ⟨h1, h2⟩ | ⟨h1, h2⟩
    · rw [h2]; exact Nat.le_refl _
    · have h9 := hg.less
      have := SimR.len h2 h9.1
      omega
def SimpS (t l : List Nd) : Prop := (PlainS t ∧ SimR 20 t l) ∨ (¬ PlainS t ∧ l = [])
theorem SimpS.same {t l l' : List Nd} (h : SimpS t l) (h' : SimpS t l') : l = l' := by
  rcases h with ⟨h1, h3⟩ | ⟨h1, rfl⟩ <;> rcases h' with ⟨h2, h4⟩ | ⟨h2, rfl⟩
  · exact h3.same h4
  · exact absurd h1 h2
  · exact absurd h2 h1
  · rfl
theorem SimpS.len {t l : List Nd} (htx : ∀ x ∈ t, x.text.size ≤ 1048576 ∧ (Lit.int .i64 x.num).wf = true) (h : SimpS t l) : l.length ≤ t.length := by
  rcases h with ⟨h1, h2⟩ | ⟨h1, rfl⟩
  · exact h2.len ⟨h1, htx⟩
  · simp
theorem PlainS.place {t : List Nd} (h : PlainS t) : ∀ i (hi : i < t.length), t[i].place = 0 := by
  intro i hi
  have h9 := ((plain_eq t).1 h).2.2.1 i hi
  unfold okAt at h9
  simp only [Bool.and_eq_true] at h9
  obtain ⟨p, -, -, -, h8, -⟩ := nodeOk_parts h9.1
  rw [← ndAt_get hi]
  exact h8
set_option maxHeartbeats 2000000 in
theorem specSame_any (xs ys : List Nd) (n m : Nat) (HX : Hid (xs.length = n)) (HY : Hid (ys.length = m)) (ao bo : Option Addr) (cap cbp : Nat) (w : World) (hx : Nodes w ao xs) (hy : Nodes w bo ys) (hlx : n ≤ 140737488355328) (hly : m ≤ 140737488355328) :
    Calls Tryz.prog 15 #[.slice ao n cap, .slice bo m cbp] w fun e w' =>
      (∃ r : Bool, e = .returned (.bool r) ∧ (r = true ↔ Alike Nd.sameb xs ys)) ∧ Below w.heap.size w w' := by
  by_cases hl : n = m
  · subst hl
    go_enter Tryz.func15, Tryz.ntmps15
    go_wp2
    go_loopw [5] (fun i wr => ∃ (k : Nat), k ≤ n ∧ i = .int .i64 k ∧ (∀ i (h : i < xs.length) (h' : i < ys.length), i < k → xs[i].sameb ys[i] = true) ∧ Below w.heap.size w wr) (fun i _ => n - (intOf i).toNat)
    case atStart => exact ⟨0, Nat.zero_le _, rfl, fun i _ _ h => absurd h (by omega), Below.refl _ _⟩
    case round =>
      obtain ⟨k, hk, rfl, hall, hb⟩ := hrel
      by_cases hlt : k < n
      · have hltx : k < xs.length := by have := HX.out; omega
        have hlty : k < ys.length := by have := HY.out; omega
        obtain ⟨x, hxk⟩ : ∃ x, xs[k] = x := ⟨_, rfl⟩
        obtain ⟨y, hyk⟩ : ∃ y, ys[k] = y := ⟨_, rfl⟩
        obtain ⟨b, o, rfl, hcx⟩ := hx.below hb k hltx
        obtain ⟨b', o', rfl, hcy⟩ := hy.below hb k hlty
        rw [hxk] at hcx
        rw [hyk] at hcy
        obtain ⟨c0, c1, c2, c3, c4⟩ := hcx
        obtain ⟨e0, e1, e2, e3, e4⟩ := hcy
        have hlb : b < wr.heap.size := lt_of_cell c0
        have hlb' : b' < wr.heap.size := lt_of_cell e0
        clear hx hy
        have hne := neqN x y
        cases hq : x.sameb y
        · rw [hq] at hne
          have HA : Hid (∀ i (h : i < xs.length) (h' : i < ys.length), i < k → xs[i].sameb ys[i] = true) := hall
          have HXK : Hid (xs[k] = x) := hxk
          have HYK : Hid (ys[k] = y) := hyk
          clear hall hxk hyk
          go_wp2_with fail
          go_region_with (first | (go_at_call_of 31 (x.text); refine (bare_any x _).mono ?_; rintro e w1 ⟨rfl, hb1⟩; first | have hc1 := bcell_drew hb1 | skip) | (go_at_call_of 31 (y.text); refine (bare_any y _).mono ?_; rintro e w2 ⟨rfl, hb2⟩; first | have hc1 := bcell_drew hb2 | skip))
          all_goals
            first | have hbb := Below.step (Below.step hb (undrew hb1)) hb2 | have hbb := Below.step (Below.step hb (undrew hb2)) hb1
            clear hb hb1 hb2 hc1 c0 c1 c2 c3 c4 e0 e1 e2 e3 e4 hne
            go_wp2
            go_ret
            exact ⟨⟨false, rfl, by simp only [Bool.false_eq_true, false_iff]; intro ha; have := ha.2 k hltx hlty; rw [HXK.out, HYK.out, hq] at this; cases this⟩, hbb⟩
        · rw [hq] at hne
          have HA : Hid (∀ i (h : i < xs.length) (h' : i < ys.length), i < k + 1 → xs[i].sameb ys[i] = true) := by
            intro i h h' hi
            by_cases e : i = k
            · subst e; rw [hxk, hyk]; exact hq
            · exact hall i h h' (by omega)
          have HXK : Hid (xs[k] = x) := hxk
          have HYK : Hid (ys[k] = y) := hyk
          clear hall hxk hyk
          go_wp2_with fail
          go_region_with (first | (go_at_call_of 31 (x.text); refine (bare_any x _).mono ?_; rintro e w1 ⟨rfl, hb1⟩; first | have hc1 := bcell_drew hb1 | skip) | (go_at_call_of 31 (y.text); refine (bare_any y _).mono ?_; rintro e w2 ⟨rfl, hb2⟩; first | have hc1 := bcell_drew hb2 | skip))
          all_goals
            first | have hbb := Below.step (Below.step hb (undrew hb1)) hb2 | have hbb := Below.step (Below.step hb (undrew hb2)) hb1
            clear hb hb1 hb2 hc1 c0 c1 c2 c3 c4 e0 e1 e2 e3 e4 hne
            go_wp2
            go_roundw
            case rel => exact ⟨k + 1, by omega, by go_num, HA.out, hbb⟩
            case measure => simp [intOf]; omega
      · have HA : Hid (Alike Nd.sameb xs ys) := ⟨HX.out.trans HY.out.symm, fun i h h' => hall i h h' (by have := HX.out; omega)⟩
        clear hall hx hy
        go_wp2
        go_ret
        exact ⟨⟨true, rfl, by simp only [true_iff]; exact HA.out⟩, hb⟩
  · have hne : ((n : Int) != (m : Int)) = true := by simp; omega
    clear hx hy
    go_enter Tryz.func15, Tryz.ntmps15
    go_wp2
    go_ret
    exact ⟨⟨false, rfl, by simp only [Bool.false_eq_true, false_iff]; intro ha; exact hl (HX.out.symm.trans (ha.1.trans HY.out))⟩, Below.refl _ _⟩
set_option maxRecDepth 20000 in
set_option maxHeartbeats 2000000 in
theorem specSimplify_any (t : List Nd) (m : Nat) (HM : Hid (t.length = m)) (hm : m ≤ 1048576) (htx : ∀ x ∈ t, x.text.size ≤ 1048576 ∧ (Lit.int .i64 x.num).wf = true) (ao : Option Addr) (cap : Nat) (w : World) (hx : Nodes w ao t) :
    Calls Tryz.prog 5 #[.slice ao m cap] w fun e w' => ∃ g c l zs, e = .returned (.slice (some ⟨g, 0, none⟩) l c) ∧ zs.length = l ∧ w.heap.size ≤ g ∧ Row w' g zs ∧ SimpS t zs ∧ Below w.heap.size w w' := by
  have HP := specPlain_any t m HM hm ao cap w hx
  have HX : Hid (Nodes w ao t) := hx
  have HT : Hid (∀ x ∈ t, x.text.size ≤ 1048576 ∧ (Lit.int .i64 x.num).wf = true) := htx
  clear hx htx
  go_enter Tryz.func5, Tryz.ntmps5
  go_wp2_with fail
  refine HP.mono ?_
  rintro e w1 ⟨⟨b, rfl, hb⟩, b1⟩
  clear HP
  cases b
  · have HF : Hid (SimpS t []) := .inr ⟨fun h => (by have := hb.2 h; cases this), rfl⟩
    have hO := (OwnN.empty (w := w1) (B := w.heap.size) b1.size).row
    have hB := b1.alloc b1.size (.cells #[] 34)
    have HO : Hid _ := hO
    have HB : Hid _ := hB
    clear hb hO hB b1
    go_wp2
    go_ret
    exact ⟨_, _, _, [], rfl, rfl, HO.out.1, HO.out.2, HF.out, HB.out⟩
  · have HPS : Hid (PlainS t) := hb.1 rfl
    have hN1 := HX.out.below b1
    obtain ⟨ad, had⟩ : ∃ ad, ao = some ad := by
      obtain ⟨b, o, e, -⟩ := HX.out 0 (by have := (one_of_raw HPS.out.2.1).1; omega)
      exact ⟨_, e⟩
    subst had
    have hC := copy_any t m HM hm _ cap w1 hN1
    have HS1 : Hid (w.heap.size ≤ w1.heap.size) := b1.size
    clear hb hN1
    go_wp2_with fail
    refine hC.mono ?_
    rintro e w2 ⟨g0, c0, rfl, hg0, hR0, b2⟩
    have HBB : Hid (Below w.heap.size w w2) := Below.step b1 b2
    have HR0 : Hid (Row w2 g0 t) := hR0
    have HG0 : Hid (w.heap.size ≤ g0) := by have := HS1.out; show _ ≤ _; omega
    have hm6 : Hid (m ≤ 60000) := by have := HPS.out.1; have := HM.out; show _ ≤ _; omega
    clear hC b1 b2 hg0 hR0
    go_wp2
    go_loopw [3, 4] (fun vo vi wr => ∃ (k g c l : Nat) (zs : List Nd), k ≤ 20 ∧ vi = .int .i64 (k : Int) ∧ vo = .slice (some ⟨g, 0, none⟩) l c ∧ l ≤ 60000 ∧ Hid (zs.length = l ∧ GoodS zs ∧ w.heap.size ≤ g ∧ Row wr g zs ∧ (∀ r, SimR (20 - k) zs r → SimR 20 t r) ∧ Below w.heap.size w wr)) (fun _ vi _ => 20 - (intOf vi).toNat)
    case atStart => exact ⟨0, g0, c0, m, t, Nat.zero_le _, rfl, rfl, hm6.out, HM.out, ⟨HPS.out, HT.out⟩, HG0.out, HR0.out, fun r h => h, HBB.out⟩
    case round =>
      clear HR0 HBB HG0
      obtain ⟨k, g, c, l, zs, hk, rfl, rfl, hl6, HZ⟩ := hrel
      by_cases hlt : k < 20
      · obtain ⟨hzl, hG, hgw, hR, hS, hb⟩ := HZ.out
        have HL : Hid (zs.length = l) := hzl
        have hG2 := hG.less
        have hek : 20 - k = (20 - (k + 1)) + 1 := by omega
        have hC := plain_pass zs l HL hG.1 hG.2 (some ⟨g, 0, none⟩) c wr hR.nodes
        go_wp2_with fail
        refine hC.mono ?_
        rintro e w3 ⟨g2, c2, l2, rfl, hO, b3⟩
        have HL2 : Hid ((lessL zs l).length = l2) := hO.1
        have hRL := hO.row.2
        have hg2 : w.heap.size ≤ g2 := by have := hO.row.1; have := hb.size; omega
        clear hC hO
        have hl2 : l2 ≤ 60000 := by
          have h9 := hG2.2
          have h8 := HL2.out
          rw [HL.out] at h9
          omega
        have hR2 := hR.below b3
        have bb := Below.step hb b3
        have hE := specSame_any (lessL zs l) zs l2 l HL2 HL _ _ c2 c w3 hRL.nodes hR2.nodes (by omega) (by omega)
        go_wp2_with fail
        refine hE.mono ?_
        rintro e w4 ⟨⟨r, rfl, hr⟩, b4⟩
        rw [alikeS_iff (by rw [← hzl]; exact hG2.1.1.place) hG.1.place] at hr
        clear hE
        have bc := Below.step bb b4
        have HQ : Hid (r = true ↔ lessL zs l = zs) := hr
        have HFIN : Hid (lessL zs l = zs → SimpS t zs) := fun h9 => .inl ⟨HPS.out, hS zs (by rw [hek]; exact .stop _ _ (by rw [hzl]; exact h9))⟩
        have HNEXT : Hid (¬ lessL zs l = zs → (lessL zs l).length = l2 ∧ GoodS (lessL zs l) ∧ w.heap.size ≤ g2 ∧ Row w4 g2 (lessL zs l) ∧ (∀ r, SimR (20 - (k + 1)) (lessL zs l) r → SimR 20 t r) ∧ Below w.heap.size w w4) := by
          intro h9
          refine ⟨HL2.out, by rw [← hzl]; exact hG2.1, hg2, hRL.below b4, fun r h => hS r ?_, bc⟩
          rw [hek]
          refine .go _ _ _ (by rw [hzl]; exact h9) ?_
          rw [hzl]
          exact h
        have HR4 : Hid (Row w4 g zs) := hR2.below b4
        have HBC : Hid (Below w.heap.size w w4) := bc
        have HGW : Hid (w.heap.size ≤ g) := hgw
        clear hzl hG hgw hR hS hb hG2 hek hR2 bb bc b3 b4 hr HZ hRL hg2 HL2
        cases r
        · have HN : Hid ((lessL zs l).length = l2 ∧ GoodS (lessL zs l) ∧ w.heap.size ≤ g2 ∧ Row w4 g2 (lessL zs l) ∧ (∀ r, SimR (20 - (k + 1)) (lessL zs l) r → SimR 20 t r) ∧ Below w.heap.size w w4) := HNEXT.out (fun h => by have := HQ.out.2 h; cases this)
          clear HNEXT HFIN HQ HR4 HBC
          go_wp2
          go_roundw
          case rel => exact ⟨k + 1, g2, c2, l2, lessL zs l, by omega, by go_num, rfl, hl2, HN.out⟩
          case measure => (simp [intOf]) <;> omega
        · have HN : Hid (SimpS t zs) := HFIN.out (HQ.out.1 rfl)
          clear HNEXT HFIN HQ
          go_wp2
          go_ret
          exact ⟨g, c, l, zs, rfl, HL.out, HGW.out, HR4.out, HN.out, HBC.out⟩
      · obtain rfl : k = 20 := by omega
        have HN : Hid (SimpS t zs) := .inl ⟨HPS.out, HZ.out.2.2.2.2.1 zs (.zero _)⟩
        go_wp2
        go_ret
        exact ⟨g, c, l, zs, rfl, HZ.out.1, HZ.out.2.2.1, HZ.out.2.2.2.1, HN.out, HZ.out.2.2.2.2.2⟩
end Go.Proofs.YtemancdlnakkmaaGreat

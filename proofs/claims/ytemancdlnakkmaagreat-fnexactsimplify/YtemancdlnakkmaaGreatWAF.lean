import Derived.Test.YtemancdlnakkmaaGreatWAE
import Derived.Test.YtemancdlnakkmaaGreatWAD
import Derived.Test.YtemancdlnakkmaaGreatWAA
import Derived.Test.YtemancdlnakkmaaGreatWAC
namespace Go.Proofs.YtemancdlnakkmaaGreat
open Go.RowKit Go.Shelf
attribute [local go_sem] Oper.semAt_some
def lastOf (xs : List Sp) : Sp := xs.getLast?.getD ⟨0, 0, 0⟩
theorem lastOf_snoc (xs : List Sp) (s : Sp) : lastOf (xs ++ [s]) = s := by simp [lastOf]
def rawDeep (t : List Nd) : Nat :=
  match after t t.length with
  | none => 0
  | some (_, ys) => match ys.getLast? with
    | none => 0
    | some s => if s.fr = 0 then s.dp else 0
theorem deep_came {t : List Nd} {xs : List Sp} (h : Came t xs) :
    rawDeep t = if (lastOf xs).fr ≠ 0 ∨ ((lastOf xs).rt : Int) ≠ (t.length : Int) - 1 then 0 else (lastOf xs).dp := by
  obtain ⟨k, S, ha, hk⟩ := h
  have hf := after_fine ha
  have hle := after_le ha
  unfold rawDeep
  by_cases hkl : k = t.length
  · subst hkl
    rw [ha]
    simp only
    cases hx : xs.getLast? with
    | none =>
      have hx0 : xs = [] := List.getLast?_eq_none_iff.1 hx
      subst hx0
      have h0 : t.length = 0 := by have := hf.len; simpa using this.symm
      simp [lastOf, h0]
    | some s =>
      have hls : lastOf xs = s := by simp [lastOf, hx]
      rw [hls]
      have hne : xs ≠ [] := by intro e; rw [e] at hx; simp at hx
      have hlen : 0 < xs.length := List.length_pos_iff.2 hne
      have hs : xs[xs.length - 1]'(by omega) = s := by
        rw [List.getLast?_eq_getElem?, List.getElem?_eq_getElem (by omega)] at hx
        simpa using hx
      have hr := (hf.root (xs.length - 1) (by omega)).1
      rw [hs] at hr
      have hl2 := hf.len
      have hrt : ¬ ((s.rt : Int) ≠ (t.length : Int) - 1) := by omega
      simp only
      by_cases h1 : s.fr = 0
      · rw [if_pos h1, if_neg (by omega)]
      · rw [if_neg h1, if_pos (by omega)]
  · have hk : after t (k + 1) = none := by
      rcases hk with h | h
      · exact absurd h hkl
      · exact h
    have hn := after_none hk t.length
    rw [hn (by omega)]
    simp only
    by_cases hk0 : k = 0
    · subst hk0
      have hx0 : xs = [] := List.eq_nil_of_length_eq_zero hf.len
      subst hx0
      simp [lastOf]
    · have hlen := hf.len
      have hx : xs.getLast? = some (xs[xs.length - 1]'(by omega)) := by
        rw [List.getLast?_eq_getElem?, List.getElem?_eq_getElem (by omega)]
      have hls : lastOf xs = xs[xs.length - 1]'(by omega) := by simp [lastOf, hx]
      have hr := (hf.root (xs.length - 1) (by omega)).1
      rw [← hls] at hr
      rw [if_pos (by right; omega)]
set_option maxRecDepth 100000 in
set_option maxHeartbeats 2000000 in
theorem implDeepOf_any (t : List Nd) (m : Nat) (HM : Hid (t.length = m)) (hm : m ≤ 60000) (ao : Option Addr) (cap : Nat) (w : World) (hx : Nodes w ao t) :
    Calls Tryz.prog 46 #[.slice ao m cap] w fun e w' => e = .returned (.int .i64 (rawDeep t : Int)) ∧ Below w.heap.size w w' := by
  obtain ⟨n, hn⟩ : ∃ n : Nat, 6 ≤ n := ⟨6, Nat.le_refl _⟩
  refine (callsIn_wide (n := n)).1 ?_
  refine callsIn_of_wp_marks Tryz.func46 rfl trivial ?_
  simp only [Tryz.ntmps46, List.size_toArray, List.length_cons, List.length_nil, Nat.reduceAdd, Nat.reduceSub, Array.replicate_succ, Array.replicate_zero, List.push_toArray, List.append_toArray, List.nil_append, List.cons_append]
  gi_wp2_with fail
  refine ⟨trivial, fun h => (by cases h), callsIn_wide.2 ((spans_any ao m cap _).mono ?_)⟩
  rintro e w1 ⟨rfl, rfl⟩
  gi_wp2
  obtain ⟨W1, hW1⟩ : ∃ W1, ((w.alloc (Obj.cells #[Value.int IntKind.i64 0, Value.int IntKind.i64 0, Value.int IntKind.i64 0] 105)).alloc (.cells #[.slice ao m cap] 24)) = W1 := ⟨_, rfl⟩
  have hB1 : Below w.heap.size w W1 := by rw [← hW1]; exact ((Below.refl _ w).alloc (Nat.le_refl _) _).alloc (by simp) _
  have hs1 : W1.heap.size = w.heap.size + 2 := by rw [← hW1]; simp
  have bL : Box3 W1 w.heap.size (.int .i64 0) (.int .i64 0) (.int .i64 0) := by rw [← hW1]; exact (Box3.new w _ _ _).alloc _
  have bT : W1.cell? ⟨w.heap.size + 1, 0, none⟩ = some (.slice ao m cap) := by
    rw [← hW1]
    have := cell_of_row ((w.alloc (Obj.cells #[Value.int IntKind.i64 0, Value.int IntKind.i64 0, Value.int IntKind.i64 0] 105)).alloc (.cells #[.slice ao m cap] 24)) (w.heap.size + 1) 0 #[.slice ao m cap] 24 (0, 0) (by have := heap_alloc_new (w.alloc (Obj.cells #[Value.int IntKind.i64 0, Value.int IntKind.i64 0, Value.int IntKind.i64 0] 105)) (.cells #[.slice ao m cap] 24); rw [World.size_alloc] at this; exact this)
    rw [this]; rfl
  try rw [hW1]
  clear hW1
  refine wpIn_range (α := Sp) rfl (by omega) (gf := 92) (lb := #[.pointer (some ⟨w.heap.size + 1, 0, none⟩)]) rfl trivial (enters_of Tryz.func92 (by kernel_rfl) rfl)
    (encs := encSp) w.heap.size hB1.size (spans1_any t m HM hm ao cap (w.heap.size + 1) w.heap.size (n - 1) W1 hB1.size (by omega) bT w rfl hx hB1) (fun _ => rfl)
    (fun pre W => Box3 W w.heap.size (.int .i64 ((lastOf pre).fr : Int)) (.int .i64 ((lastOf pre).rt : Int)) (.int .i64 ((lastOf pre).dp : Int)) ∧ Below w.heap.size w W)
    (fun _ _ _ => False) ?hI (fun _ _ _ _ h _ => h) (fun _ _ _ => trivial) ⟨bL, hB1⟩ ?round ?done (fun _ _ _ _ h _ => h.elim)
  case hI =>
    rintro s A C ⟨h1, h2⟩ hb
    exact ⟨(hb.block _ (by omega)).trans h1, h2.trans (hb.mono (by omega))⟩
  case round =>
    rintro pre s W ⟨hbx, hb⟩ hlen _ hsz
    simp only [encSp]
    gi_wp2
    refine ⟨But.ofBelow ((Below.refl _ W).alloc (Nat.le_refl _) _), ?_⟩
    intro Wb hWb
    have bs : Box3 Wb W.heap.size (.int .i64 (s.fr : Int)) (.int .i64 (s.rt : Int)) (.int .i64 (s.dp : Int)) := (hWb.block W.heap.size (by simp) (by omega)).trans (Box3.new W _ _ _)
    have bl := (hWb.block w.heap.size (by have := hbx.lt; simp; omega) (by omega)).trans (hbx.alloc (Obj.cells #[Value.int IntKind.i64 ↑s.fr, Value.int IntKind.i64 ↑s.rt, Value.int IntKind.i64 ↑s.dp] 105))
    have hbb : Below w.heap.size w Wb := (hb.alloc hb.size _).trans (hWb.below (by have := hb.size; simp; omega) (fun k hk => by omega))
    have bl' : Box3 Wb w.heap.size _ _ _ := bl
    obtain ⟨p0, p1, p2⟩ := bs.cells
    obtain ⟨q0, q1, q2⟩ := bl'.cells
    have f0 := bl'.frozen 0
    have f1 := bl'.frozen 1
    have f2 := bl'.frozen 2
    have hfin : Box3 (((Wb.setCell ⟨w.heap.size, 0, none⟩ (.int .i64 (s.fr : Int))).setCell ⟨w.heap.size, 1, none⟩ (.int .i64 (s.rt : Int))).setCell ⟨w.heap.size, 2, none⟩ (.int .i64 (s.dp : Int))) w.heap.size (.int .i64 (s.fr : Int)) (.int .i64 (s.rt : Int)) (.int .i64 (s.dp : Int)) := ((bl'.set0 _).set1 _).set2 _
    have hmine : Mine w.heap.size W1.heap.size w.heap.size := ⟨Nat.le_refl _, by omega⟩
    have hbut : But (Mine w.heap.size W1.heap.size) Wb (((Wb.setCell ⟨w.heap.size, 0, none⟩ (.int .i64 (s.fr : Int))).setCell ⟨w.heap.size, 1, none⟩ (.int .i64 (s.rt : Int))).setCell ⟨w.heap.size, 2, none⟩ (.int .i64 (s.dp : Int))) :=
      (((But.refl _ Wb).setCell (p := ⟨w.heap.size, 0, none⟩) hmine _).setCell (p := ⟨w.heap.size, 1, none⟩) hmine _).setCell (p := ⟨w.heap.size, 2, none⟩) hmine _
    have hbel : Below w.heap.size w (((Wb.setCell ⟨w.heap.size, 0, none⟩ (.int .i64 (s.fr : Int))).setCell ⟨w.heap.size, 1, none⟩ (.int .i64 (s.rt : Int))).setCell ⟨w.heap.size, 2, none⟩ (.int .i64 (s.dp : Int))) :=
      ((hbb.setCell (p := ⟨w.heap.size, 0, none⟩) (Nat.le_refl _) _).setCell (p := ⟨w.heap.size, 1, none⟩) (Nat.le_refl _) _).setCell (p := ⟨w.heap.size, 2, none⟩) (Nat.le_refl _) _
    clear hbx hb bl bl' bs hbb hmine hWb
    gi_wp2
    exact ⟨hbut, by rw [lastOf_snoc]; exact hfin, hbel⟩
  case done =>
    rintro xs W hcame ⟨hbx, hb⟩ hK
    have HD := deep_came hcame
    obtain ⟨L, hL⟩ : ∃ L, lastOf xs = L := ⟨_, rfl⟩
    rw [hL] at hbx HD
    rw [HM.out] at HD
    have HDD : Hid (rawDeep t = if L.fr ≠ 0 ∨ (L.rt : Int) ≠ (m : Int) - 1 then 0 else L.dp) := HD
    obtain ⟨q0, q1, q2⟩ := hbx.cells
    clear HD hcame hL
    have hput : Below w.heap.size w (W.putObj W1.heap.size (.deferred none)) := hb.trans ((But.putObj (S := (· = W1.heap.size)) W _ _ rfl).below hb.size (fun k hk => by omega))
    clear hs1 hB1 bL bT
    by_cases h1 : L.fr = 0
    · by_cases h2 : (L.rt : Int) = (m : Int) - 1
      · have HV : Hid (rawDeep t = L.dp) := by rw [HDD.out, if_neg (by omega)]; rfl
        clear hbx hb
        gi_wp2
        refine ⟨by simp, .inl ⟨_, _, rfl, run_takeDeferred hK, ?_⟩⟩
        exact ⟨_, results_tmp rfl _ _ _, by rw [HV.out]; rfl, hput⟩
      · have HV : Hid (rawDeep t = 0) := by rw [HDD.out, if_pos (by omega)]; rfl
        clear hbx hb
        gi_wp2
        refine ⟨by simp, .inl ⟨_, _, rfl, run_takeDeferred hK, ?_⟩⟩
        exact ⟨_, results_tmp rfl _ _ _, by rw [HV.out]; rfl, hput⟩
    · have HV : Hid (rawDeep t = 0) := by rw [HDD.out, if_pos (by omega)]; rfl
      have h1' : ¬ ((L.fr : Int) = 0) := by omega
      clear hbx hb
      gi_wp2
      refine ⟨by simp, .inl ⟨_, _, rfl, run_takeDeferred hK, ?_⟩⟩
      exact ⟨_, results_tmp rfl _ _ _, by rw [HV.out]; rfl, hput⟩
end Go.Proofs.YtemancdlnakkmaaGreat
namespace Go.Proofs.YtemancdlnakkmaaGreat
def ndAt (t : List Nd) (i : Nat) : Nd := t[i]?.getD Nd.zero
theorem ndAt_get {t : List Nd} {i : Nat} (h : i < t.length) : ndAt t i = t[i] := by simp [ndAt, List.getElem?_eq_getElem h]
def fam (t : List Nd) : Nat → List Nd
  | 0 => []
  | k + 1 => (fam t k).take ((fam t k).length - (ndAt t k).kids.toNat) ++ [ndAt t k]
def kidsN (t : List Nd) (k : Nat) : List Nd := (fam t k).drop ((fam t k).length - (ndAt t k).kids.toNat)
theorem fam_after {t : List Nd} : ∀ {k : Nat} {S ys : List Sp}, after t k = some (S, ys) → fam t k = S.map (fun s => ndAt t s.rt) := by
  intro k
  induction k with
  | zero =>
    intro S ys h
    simp only [after, Option.some.injEq, Prod.mk.injEq] at h
    obtain ⟨rfl, rfl⟩ := h
    rfl
  | succ k ih =>
    intro S' ys' h
    obtain ⟨S, ys, s, hk, ha, hs, rfl⟩ := after_inv h
    obtain ⟨h0, h1, rfl, hov⟩ := step_some hs
    have hr : s.rt = k := by rw [hov]; rfl
    have h9 := ih ha
    show (fam t k).take _ ++ [_] = _
    rw [h9, List.length_map, ← List.map_take, List.map_append, ndAt_get hk]
    simp [hr, ndAt_get hk]
theorem kidsN_eq {t : List Nd} {k : Nat} {S ys : List Sp} (h : after t k = some (S, ys)) (hk : k < t.length) : kidsN t k = (S.drop (S.length - t[k].kids.toNat)).map (fun s => ndAt t s.rt) := by
  unfold kidsN
  rw [fam_after h, ndAt_get hk, List.length_map, ← List.map_drop]
theorem fam_len {t : List Nd} {k : Nat} {S ys : List Sp} (h : after t k = some (S, ys)) : (fam t k).length = S.length := by
  rw [fam_after h]
  simp
def alls (t : List Nd) : Nat → Nat
  | 0 => 0
  | k + 1 => if (ndAt t k).kind = 62 then alls t k + 1 else 0
theorem alls_le (t : List Nd) (k : Nat) : alls t k ≤ k := by
  induction k with
  | zero => exact Nat.le_refl _
  | succ k ih => unfold alls; split <;> omega
def nodeOk (own : Nat → Option (Nd → Bool)) (kids : Nat → Nd → List Nd → Bool) (x : Nd) (ks : List Nd) : Bool :=
  decide (0 ≤ x.kind) && decide (x.kind < 92) && x.place == 0 && (match own x.kind.toNat with
    | none => false
    | some p => p x) && kids x.kind.toNat x ks
def okAt (own : Nat → Option (Nd → Bool)) (kids : Nat → Nd → List Nd → Bool) (t : List Nd) (k : Nat) : Bool :=
  nodeOk own kids (ndAt t k) (kidsN t k) && decide (alls t (k + 1) ≤ 1000)
def okTo (own : Nat → Option (Nd → Bool)) (kids : Nat → Nd → List Nd → Bool) (t : List Nd) (k : Nat) : Prop := ∀ i, i < k → okAt own kids t i = true
def InForm (own : Nat → Option (Nd → Bool)) (kids : Nat → Nd → List Nd → Bool) (root : Nd → Bool) (t : List Nd) : Prop :=
  t.length ≤ 60000 ∧ rawDeep t ≠ 0 ∧ okTo own kids t t.length ∧ root (ndAt t (t.length - 1)) = true
theorem raw_after {t : List Nd} (h : rawDeep t ≠ 0) : 0 < t.length ∧ ∃ S ys, after t t.length = some (S, ys) := by
  unfold rawDeep at h
  cases ha : after t t.length with
  | none => rw [ha] at h; exact absurd rfl h
  | some p =>
    obtain ⟨S, ys⟩ := p
    refine ⟨?_, S, ys, rfl⟩
    rw [ha] at h
    by_cases h0 : 0 < t.length
    · exact h0
    · exfalso
      have h1 : t = [] := List.eq_nil_of_length_eq_zero (by omega)
      subst h1
      simp only [List.length_nil, after, Option.some.injEq, Prod.mk.injEq] at ha
      obtain ⟨rfl, rfl⟩ := ha
      exact h rfl
def kidsRt (t : List Nd) (i : Nat) : List Nat := match after t i with
  | none => []
  | some (S, _) => (S.drop (S.length - (ndAt t i).kids.toNat)).map fun s => s.rt
theorem kidsRt_eq {t : List Nd} {i : Nat} {S ys : List Sp} (h : after t i = some (S, ys)) (hi : i < t.length) : kidsRt t i = (S.drop (S.length - t[i].kids.toNat)).map fun s => s.rt := by
  unfold kidsRt
  rw [h, ndAt_get hi]
theorem kidsRt_lt {t : List Nd} {S ys : List Sp} {m : Nat} (h : after t m = some (S, ys)) {i : Nat} (hi : i < m) : ∀ r ∈ kidsRt t i, r < i := by
  obtain ⟨Si, hSi, hk, hK⟩ := kids_atS h i hi
  rw [kidsRt_eq hSi hk]
  intro r hr
  obtain ⟨s, hs, rfl⟩ := List.mem_map.1 hr
  obtain ⟨j, hj, rfl⟩ := List.getElem_of_mem hs
  exact (hK.mem j hj).2.2
structure Tre where
  nd0 : Nd
  ks0 : List Tre
def Tre.nd : Tre → Nd
  | .mk nd _ => nd
def Tre.ks : Tre → List Tre
  | .mk _ ks => ks
theorem Tre.ind {p : Tre → Prop} (h : ∀ nd ks, (∀ k ∈ ks, p k) → p (.mk nd ks)) (t : Tre) : p t := by
  refine Tre.rec (motive_1 := p) (motive_2 := fun ks => ∀ k ∈ ks, p k) h ?_ ?_ t
  · intro k hk; cases hk
  · intro k ks ih1 ih2 x hx
    rcases List.mem_cons.1 hx with rfl | hx
    · exact ih1
    · exact ih2 x hx
def mkT (n : Nd) (ks : List Tre) : Tre := .mk { n with kids := (ks.length : Int) } ks
def leafT (kind num : Int) (text : ByteArray) : Tre := mkT ⟨kind, num, text, 0, 0⟩ []
def knStep (n : Nd) (ks : List Tre) (bs : List Bool) : Bool :=
  if n.kind = 72 ∨ n.kind = 73 ∨ n.kind = 74 then true
  else if n.kind = 75 then bs.all id
  else n.kind == 77 && (match ks, bs with
    | [a, _], [_, b] => a.nd.kind == 74 && b
    | _, _ => false)
def knT : Tre → Bool
  | .mk n ks => knStep n ks (ks.map (fun k => knT k))
theorem knT_eq (n : Nd) (ks : List Tre) : knT (.mk n ks) = knStep n ks (ks.map knT) := by rw [knT]
def zipB : List (Tre → Bool) → List Tre → Bool
  | [], [] => true
  | f :: fs, v :: vs => f v && zipB fs vs
  | _, _ => false
def fitsStep (n : Nd) (fs : List (Tre → Bool)) (v : Tre) : Bool :=
  if n.kind = 15 then true
  else if n.kind = 17 then v.nd.kind == 72 && v.nd.num == n.num
  else if n.kind = 18 then v.nd.kind == 73 && v.nd.text.toList == n.text.toList
  else if n.kind = 20 then v.nd.kind == 75 && zipB fs v.ks
  else if n.kind = 19 then (match fs with
    | [] => v.nd.kind == 74 && v.nd.text.toList == n.text.toList
    | f :: _ => v.nd.kind == 77 && (match v.ks with
      | [a, b] => a.nd.text.toList == n.text.toList && f b
      | _ => false))
  else n.kind == 90 || (match fs with
    | [] => false
    | f :: _ => f v)
def fitsT : Tre → Tre → Bool
  | .mk n ks => fitsStep n (ks.map (fun k => fitsT k))
theorem fitsT_eq (n : Nd) (ks : List Tre) : fitsT (.mk n ks) = fitsStep n (ks.map fitsT) := by rw [fitsT]
def bindsT : Tre → Bool
  | .mk n ks => n.kind == 90 || n.kind == 91 || (ks.map (fun k => bindsT k)).any id
theorem bindsT_eq (n : Nd) (ks : List Tre) : bindsT (.mk n ks) = (n.kind == 90 || n.kind == 91 || ks.any bindsT) := by
  rw [bindsT]
  simp [List.any_map, Function.comp_def]
def truthT (b : Bool) : Tre := leafT 74 0 (if b then ⟨#[116, 114, 117, 101]⟩ else ⟨#[102, 97, 108, 115, 101]⟩)
def arithT (op : List UInt8) (a b : Int) : Option Tre :=
  if op = [43] then some (leafT 72 (IntKind.i64.wrap (a + b)) ⟨#[]⟩)
  else if op = [45] then some (leafT 72 (IntKind.i64.wrap (a - b)) ⟨#[]⟩)
  else if op = [42] then some (leafT 72 (IntKind.i64.wrap (a * b)) ⟨#[]⟩)
  else if op = [60] then some (truthT (decide (a < b)))
  else if op = [60, 61] then some (truthT (decide (a ≤ b)))
  else if op = [62] then some (truthT (decide (a > b)))
  else if op = [62, 61] then some (truthT (decide (a ≥ b)))
  else if op = [47] then (if b = 0 then none else some (leafT 72 (IntKind.i64.wrap (a.tdiv b)) ⟨#[]⟩))
  else if op = [37] then (if b = 0 then none else some (leafT 72 (IntKind.i64.wrap (a.tmod b)) ⟨#[]⟩))
  else none
def binT (op : List UInt8) (a b : Tre) : Option Tre :=
  if op = [94] ∧ a.nd.kind = 73 ∧ b.nd.kind = 73 then
    (if a.nd.text.size + b.nd.text.size ≤ 1000 then some (leafT 73 0 (a.nd.text ++ b.nd.text)) else none)
  else if a.nd.kind = 72 ∧ b.nd.kind = 72 then arithT op a.nd.num b.nd.num
  else none
def chooseT (v : Tre) : List Tre → Option Tre
  | [] => none
  | r :: rs => match r.ks with
    | [p, c] => if fitsT p v then (if !bindsT p then some c else if p.nd.kind = 90 then some (mkT ⟨80, p.nd.num, ⟨#[]⟩, 0, 0⟩ [v, c]) else none) else chooseT v rs
    | _ => none
def ruleT (us : Int → Nat) : Tre → Tre
  | .mk n ks =>
    if n.kind = 88 then (match ks with
      | [a, b] => (binT n.text.toList a b).getD (.mk n ks)
      | _ => .mk n ks)
    else if n.kind = 89 then (match ks with
      | [a] => if n.text.toList = [126] ∧ a.nd.kind = 72 then leafT 72 (IntKind.i64.wrap (-a.nd.num)) ⟨#[]⟩ else .mk n ks
      | _ => .mk n ks)
    else if n.kind = 83 then (match ks with
      | v :: rs => if knT v then (chooseT v rs).getD (.mk n ks) else .mk n ks
      | _ => .mk n ks)
    else if n.kind = 80 then (match ks with
      | [a, b] => if n.num ≤ 200000 ∧ us n.num = 0 ∧ (knT a = true ∨ a.nd.kind = 76 ∨ a.nd.kind = 71) then b else .mk n ks
      | _ => .mk n ks)
    else if n.kind = 77 then (match ks with
      | [f, b] => if f.nd.kind = 76 then (match f.ks with
        | [c] => mkT ⟨80, f.nd.num, ⟨#[]⟩, 0, 0⟩ [b, c]
        | _ => .mk n ks) else .mk n ks
      | _ => .mk n ks)
    else .mk n ks
def singleT (bd : Int → Nat) (num : Int) : Bool := decide (num ≤ 200000) && bd num == 1
def atomT (bd : Int → Nat) (n : Nd) : Bool := if n.kind = 70 then singleT bd n.num else n.kind == 72 || n.kind == 73 || n.kind == 74 || n.kind == 71
def setP (P : Int → Option Tre) (x : Int) (v : Option Tre) : Int → Option Tre := fun y => if y = x then v else P y
def seqF : List ((Int → Option Tre) → Tre × (Int → Option Tre)) → (Int → Option Tre) → List Tre × (Int → Option Tre)
  | [], P => ([], P)
  | f :: fs, P => ((f P).1 :: (seqF fs (f P).2).1, (seqF fs (f P).2).2)
def lessStep (bd us : Int → Nat) (n : Nd) (ks : List Tre) (fs : List ((Int → Option Tre) → Tre × (Int → Option Tre))) (P : Int → Option Tre) : Tre × (Int → Option Tre) :=
  if n.kind = 70 ∧ (P n.num).isSome then ((P n.num).getD (.mk n ks), P)
  else match (if n.kind = 80 ∧ singleT bd n.num = true ∧ (ks.head?.map (fun a => atomT bd a.nd)) = some true then fs else []) with
    | [f, g] => ((g (setP (f P).2 n.num (some (f P).1))).1, setP (g (setP (f P).2 n.num (some (f P).1))).2 n.num none)
    | _ => (ruleT us (mkT n (seqF fs P).1), (seqF fs P).2)
def lessT (bd us : Int → Nat) : Tre → (Int → Option Tre) → Tre × (Int → Option Tre)
  | .mk n ks => lessStep bd us n ks (ks.map (fun k => lessT bd us k))
theorem lessT_eq (bd us : Int → Nat) (n : Nd) (ks : List Tre) : lessT bd us (.mk n ks) = lessStep bd us n ks (ks.map (lessT bd us)) := by rw [lessT]
def outT : Tre → List Nd
  | .mk n ks => (ks.map (fun k => outT k)).flatten ++ [n]
theorem outT_eq (n : Nd) (ks : List Tre) : outT (.mk n ks) = (ks.map outT).flatten ++ [n] := by rw [outT]
def treT (t : List Nd) : Nat → Nat → Tre
  | 0, i => .mk (ndAt t i) []
  | f + 1, i => .mk (ndAt t i) ((kidsRt t i).map (treT t f))
def Lfp {α : Type} (F : (α → Prop) → α → Prop) (x : α) : Prop := ∀ R : α → Prop, (∀ y, F R y → R y) → R x
def Grows {α : Type} (F : (α → Prop) → α → Prop) : Prop := ∀ (R R' : α → Prop) (x : α), (∀ y, R y → R' y) → F R x → F R' x
theorem Lfp.fold {α : Type} {F : (α → Prop) → α → Prop} (hm : Grows F) {x : α} (h : F (Lfp F) x) : Lfp F x :=
  fun R hR => hR x (hm _ R x (fun _ hy => hy R hR) h)
theorem Lfp.ind {α : Type} {F : (α → Prop) → α → Prop} (hm : Grows F) {p : α → Prop} (hp : ∀ y, F (fun z => Lfp F z ∧ p z) y → p y) {x : α} (h : Lfp F x) : p x :=
  (h (fun y => Lfp F y ∧ p y) (fun y hy => ⟨Lfp.fold hm (hm _ _ y (fun _ hz => hz.1) hy), hp y hy⟩)).2
end Go.Proofs.YtemancdlnakkmaaGreat
namespace Go.Proofs.YtemancdlnakkmaaGreat
open Go.RowKit
abbrev Sl3 := Option Addr × Nat × Nat
def sv (T : Tre) (s : Sl3) : List Value := [.int .i64 T.nd.kind, .int .i64 T.nd.num, .string T.nd.text, .int .i64 T.nd.kids, .int .i64 T.nd.place, .slice s.1 s.2.1 s.2.2, .bool (knT T)]
def Row7 (w : World) (g o : Nat) (T : Tre) (s : Sl3) : Prop :=
  w.cell? ⟨g, o, none⟩ = some (.int .i64 T.nd.kind) ∧ w.cell? ⟨g, o + 1, none⟩ = some (.int .i64 T.nd.num) ∧ w.cell? ⟨g, o + 2, none⟩ = some (.string T.nd.text) ∧ w.cell? ⟨g, o + 3, none⟩ = some (.int .i64 T.nd.kids) ∧ w.cell? ⟨g, o + 4, none⟩ = some (.int .i64 T.nd.place) ∧ w.cell? ⟨g, o + 5, none⟩ = some (.slice s.1 s.2.1 s.2.2) ∧ w.cell? ⟨g, o + 6, none⟩ = some (.bool (knT T))
theorem Row7.but {S : Nat → Prop} {w w' : World} {g o : Nat} {T : Tre} {s : Sl3} (h : Row7 w g o T s) (hb : But S w w') (hs : ¬ S g) : Row7 w' g o T s := by
  have hl : g < w.heap.size := lt_of_cell h.1
  have hc : ∀ j, w'.cell? ⟨g, j, none⟩ = w.cell? ⟨g, j, none⟩ := by
    intro j
    have h9 := hb.block g hl hs
    simp only [World.cell?, h9]
  exact ⟨(hc _).trans h.1, (hc _).trans h.2.1, (hc _).trans h.2.2.1, (hc _).trans h.2.2.2.1, (hc _).trans h.2.2.2.2.1, (hc _).trans h.2.2.2.2.2.1, (hc _).trans h.2.2.2.2.2.2⟩
def SRepF (w : World) (A : Nat → Prop) (R : Tre × Sl3 → Prop) (x : Tre × Sl3) : Prop :=
  ∃ (n : Nd) (ks : List Tre) (ss : Nat → Sl3), x.1 = .mk n ks ∧ x.2.2.1 = ks.length ∧ ks.length ≤ x.2.2.2 ∧ ks.length ≤ 60000 ∧ (∀ j (h : j < ks.length), ∃ g, x.2.1 = some ⟨g, 0, none⟩ ∧ A g ∧ Row7 w g (j * 7) ks[j] (ss j)) ∧ ∀ j (h : j < ks.length), R (ks[j], ss j)
structure SRep (w : World) (A : Nat → Prop) (T : Tre) (s : Sl3) : Prop where
  of ::
  lfp : Lfp (SRepF w A) (T, s)
theorem SRep.grows (w : World) (A : Nat → Prop) : Grows (SRepF w A) := by
  rintro R R' x h ⟨n, ks, ss, e, h1, h2, h3, h4, h5⟩
  exact ⟨n, ks, ss, e, h1, h2, h3, h4, fun j hj => h _ (h5 j hj)⟩
theorem SRep.mk {w : World} {A : Nat → Prop} (n : Nd) (ks : List Tre) (s : Sl3) (ss : Nat → Sl3) (len : s.2.1 = ks.length) (cap : ks.length ≤ s.2.2) (small : ks.length ≤ 60000)
    (cells : ∀ j (h : j < ks.length), ∃ g, s.1 = some ⟨g, 0, none⟩ ∧ A g ∧ Row7 w g (j * 7) ks[j] (ss j)) (kids : ∀ j (h : j < ks.length), SRep w A ks[j] (ss j)) : SRep w A (.mk n ks) s :=
  ⟨Lfp.fold (SRep.grows w A) ⟨n, ks, ss, rfl, len, cap, small, cells, fun j h => (kids j h).lfp⟩⟩
theorem SRep.elim {w : World} {A : Nat → Prop} {motive : ∀ T s, SRep w A T s → Prop}
    (mk : ∀ (n : Nd) (ks : List Tre) (s : Sl3) (ss : Nat → Sl3) (len : s.2.1 = ks.length) (cap : ks.length ≤ s.2.2) (small : ks.length ≤ 60000)
      (cells : ∀ j (h : j < ks.length), ∃ g, s.1 = some ⟨g, 0, none⟩ ∧ A g ∧ Row7 w g (j * 7) ks[j] (ss j)) (kids : ∀ j (h : j < ks.length), SRep w A ks[j] (ss j)), (∀ j (h : j < ks.length), motive ks[j] (ss j) (kids j h)) → motive (.mk n ks) s (SRep.mk n ks s ss len cap small cells kids))
    {T : Tre} {s : Sl3} (h : SRep w A T s) : motive T s h := by
  have key : ∀ h, motive (T, s).1 (T, s).2 h := Lfp.ind (SRep.grows w A) (p := fun x => ∀ h, motive x.1 x.2 h) (by
    rintro ⟨T, s⟩ ⟨n, ks, ss, e, h1, h2, h3, h4, h5⟩ h
    simp only at e
    subst e
    exact mk n ks s ss h1 h2 h3 h4 (fun j hj => ⟨(h5 j hj).1⟩) (fun j hj => (h5 j hj).2 _)) h.lfp
  exact key h
theorem SRep.but {w w' : World} {A A' S : Nat → Prop} {T : Tre} {s : Sl3} (h : SRep w A T s) (hb : But S w w') (hS : ∀ q, A q → ¬ S q) (hA : ∀ q, A q → q < w.heap.size → A' q) : SRep w' A' T s := by
  induction h using SRep.elim with
  | mk n ks s ss len cap small cells kids ih =>
    refine .mk n ks s ss len cap small (fun j h => ?_) ih
    obtain ⟨g, h1, h2, h3⟩ := cells j h
    exact ⟨g, h1, hA g h2 (lt_of_cell h3.1), h3.but hb (hS g h2)⟩
theorem SRep.under {w w' : World} {A : Nat → Prop} {T : Tre} {s : Sl3} (h : SRep w A T s) (hb : Below w.heap.size w w') : SRep w' A T s :=
  h.but (But.ofBelow (S := fun _ => False) hb) (fun _ _ h => h) (fun _ h _ => h)
def SKids (w : World) (A : Nat → Prop) (s : Sl3) (ks : List Tre) : Prop :=
  s.2.1 = ks.length ∧ ks.length ≤ s.2.2 ∧ ks.length ≤ 60000 ∧ ∀ j (h : j < ks.length), ∃ g sj, s.1 = some ⟨g, 0, none⟩ ∧ A g ∧ Row7 w g (j * 7) ks[j] sj ∧ SRep w A ks[j] sj
theorem SKids.rep {w : World} {A : Nat → Prop} {s : Sl3} {ks : List Tre} (h : SKids w A s ks) (n : Nd) : SRep w A (.mk n ks) s := by
  obtain ⟨h1, h2, h3, h4⟩ := h
  have h5 : ∀ j, ∃ sj : Sl3, ∀ h : j < ks.length, ∃ g, s.1 = some ⟨g, 0, none⟩ ∧ A g ∧ Row7 w g (j * 7) ks[j] sj ∧ SRep w A ks[j] sj := by
    intro j
    by_cases h : j < ks.length
    · obtain ⟨g, sj, h6⟩ := h4 j h
      exact ⟨sj, fun _ => ⟨g, h6⟩⟩
    · exact ⟨(none, 0, 0), fun h9 => absurd h9 h⟩
  refine .mk n ks s (fun j => (h5 j).choose) h1 h2 h3 (fun j h => ?_) (fun j h => ?_)
  · obtain ⟨g, a, b, c, -⟩ := (h5 j).choose_spec h
    exact ⟨g, a, b, c⟩
  · obtain ⟨g, -, -, -, d⟩ := (h5 j).choose_spec h
    exact d
theorem SRep.skids {w : World} {A : Nat → Prop} {s : Sl3} {T : Tre} (h : SRep w A T s) : SKids w A s T.ks := by
  cases h using SRep.elim with
  | mk n ks s ss len cap small cells kids =>
    refine ⟨len, cap, small, fun j h => ?_⟩
    obtain ⟨g, h1, h2, h3⟩ := cells j h
    exact ⟨g, ss j, h1, h2, h3, kids j h⟩
end Go.Proofs.YtemancdlnakkmaaGreat
namespace Go.Proofs.YtemancdlnakkmaaGreat
def patK (n : Nd) : Bool := n.kind == 15 || n.kind == 17 || n.kind == 18 || n.kind == 19 || n.kind == 20 || n.kind == 90 || n.kind == 91
structure ShN (n : Nd) (ks : List Tre) : Prop where
  app : n.kind = 77 → ∃ a b, ks = [a, b]
  lt : n.kind = 80 → ∃ a b, ks = [a, b]
  bin : n.kind = 88 → ∃ a b, ks = [a, b]
  un : n.kind = 89 → ∃ a, ks = [a]
  lam : n.kind = 76 → ∃ a, ks = [a]
  cas : n.kind = 83 → ∃ v rs, ks = v :: rs ∧ ∀ r ∈ rs, r.nd.kind = 84
  rul : n.kind = 84 → ∃ p c, ks = [p, c] ∧ patK p.nd = true
  qas : n.kind = 91 → ∃ p, ks = [p] ∧ patK p.nd = true
  con : n.kind = 19 → (ks = [] ∨ ∃ p, ks = [p] ∧ patK p.nd = true)
  tup : n.kind = 20 → ∀ p ∈ ks, patK p.nd = true
  text : n.text.size ≤ 1048576
  num : (Lit.int .i64 n.num).wf = true
  len : ks.length ≤ 60000
  kids : n.kids = (ks.length : Int)
structure ShT (T : Tre) : Prop where
  of ::
  lfp : Lfp (fun R T => ∃ n ks, T = .mk n ks ∧ ShN n ks ∧ ∀ k ∈ ks, R k) T
theorem ShT.grows : Grows (fun (R : Tre → Prop) T => ∃ n ks, T = .mk n ks ∧ ShN n ks ∧ ∀ k ∈ ks, R k) := by
  rintro R R' x h ⟨n, ks, e, h1, h2⟩
  exact ⟨n, ks, e, h1, fun k hk => h k (h2 k hk)⟩
theorem ShT.mk (n : Nd) (ks : List Tre) (h : ShN n ks) (hk : ∀ k ∈ ks, ShT k) : ShT (.mk n ks) := ⟨Lfp.fold ShT.grows ⟨n, ks, rfl, h, fun k h9 => (hk k h9).lfp⟩⟩
theorem ShT.both {n : Nd} {ks : List Tre} (h : ShT (.mk n ks)) : ShN n ks ∧ ∀ k ∈ ks, ShT k := by
  refine Lfp.ind ShT.grows (p := fun T => ∀ n ks, T = .mk n ks → ShN n ks ∧ ∀ k ∈ ks, ShT k) ?_ h.lfp n ks rfl
  rintro y ⟨n, ks, e, h1, h2⟩ n' ks' e'
  rw [e] at e'
  cases e'
  exact ⟨h1, fun k hk => ⟨(h2 k hk).1⟩⟩
theorem ShT.node {n : Nd} {ks : List Tre} (h : ShT (.mk n ks)) : ShN n ks := h.both.1
theorem ShT.kid {n : Nd} {ks : List Tre} (h : ShT (.mk n ks)) : ∀ k ∈ ks, ShT k := h.both.2
end Go.Proofs.YtemancdlnakkmaaGreat

import Derived.Test.YtedlofpgddjpgaaGreatWAC
import Derived.Test.YtedlofpgddjpgaaGreatWAE
import Derived.Test.YtedlofpgddjpgaaGreatWAA
namespace Go.Proofs.YtedlofpgddjpgaaGreat
def ndAt (t : List Nd) (i : Nat) : Nd := t[i]?.getD Nd.zero
theorem ndAt_get {t : List Nd} {i : Nat} (h : i < t.length) : ndAt t i = t[i] := by simp [ndAt, List.getElem?_eq_getElem h]
def fam (t : List Nd) : Nat → List Nd
  | 0 => []
  | k + 1 => (fam t k).take ((fam t k).length - (ndAt t k).kids.toNat) ++ [ndAt t k]
def kidsN (t : List Nd) (k : Nat) : List Nd := (fam t k).drop ((fam t k).length - (ndAt t k).kids.toNat)
theorem fam_after {t : List Nd} : ∀ {k : Nat} {S ys : List Sp}, after t k = some (S, ys) → fam t k = S.map (fun s => ndAt t s.rt) := by
  intro k
  induction k with
  | zero =>
    intro S ys h
    simp only [after, Option.some.injEq, Prod.mk.injEq] at h
    obtain ⟨rfl, rfl⟩ := h
    rfl
  | succ k ih =>
    intro S' ys' h
    obtain ⟨S, ys, s, hk, ha, hs, rfl⟩ := after_inv h
    obtain ⟨h0, h1, rfl, hov⟩ := step_some hs
    have hr : s.rt = k := by rw [hov]; rfl
    have h9 := ih ha
    show (fam t k).take _ ++ [_] = _
    rw [h9, List.length_map, ← List.map_take, List.map_append, ndAt_get hk]
    simp [hr, ndAt_get hk]
theorem kidsN_eq {t : List Nd} {k : Nat} {S ys : List Sp} (h : after t k = some (S, ys)) (hk : k < t.length) : kidsN t k = (S.drop (S.length - t[k].kids.toNat)).map (fun s => ndAt t s.rt) := by
  unfold kidsN
  rw [fam_after h, ndAt_get hk, List.length_map, ← List.map_drop]
theorem fam_len {t : List Nd} {k : Nat} {S ys : List Sp} (h : after t k = some (S, ys)) : (fam t k).length = S.length := by
  rw [fam_after h]
  simp
def alls (t : List Nd) : Nat → Nat
  | 0 => 0
  | k + 1 => if (ndAt t k).kind = 62 then alls t k + 1 else 0
theorem alls_le (t : List Nd) (k : Nat) : alls t k ≤ k := by
  induction k with
  | zero => exact Nat.le_refl _
  | succ k ih => unfold alls; split <;> omega
def nodeOk (own : Nat → Option (Nd → Bool)) (kids : Nat → Nd → List Nd → Bool) (x : Nd) (ks : List Nd) : Bool :=
  decide (0 ≤ x.kind) && decide (x.kind < 92) && x.place == 0 && (match own x.kind.toNat with
    | none => false
    | some p => p x) && kids x.kind.toNat x ks
def okAt (own : Nat → Option (Nd → Bool)) (kids : Nat → Nd → List Nd → Bool) (t : List Nd) (k : Nat) : Bool :=
  nodeOk own kids (ndAt t k) (kidsN t k) && decide (alls t (k + 1) ≤ 1000)
def okTo (own : Nat → Option (Nd → Bool)) (kids : Nat → Nd → List Nd → Bool) (t : List Nd) (k : Nat) : Prop := ∀ i, i < k → okAt own kids t i = true
def InForm (own : Nat → Option (Nd → Bool)) (kids : Nat → Nd → List Nd → Bool) (root : Nd → Bool) (t : List Nd) : Prop :=
  t.length ≤ 60000 ∧ rawDeep t ≠ 0 ∧ okTo own kids t t.length ∧ root (ndAt t (t.length - 1)) = true
theorem raw_after {t : List Nd} (h : rawDeep t ≠ 0) : 0 < t.length ∧ ∃ S ys, after t t.length = some (S, ys) := by
  unfold rawDeep at h
  cases ha : after t t.length with
  | none => rw [ha] at h; exact absurd rfl h
  | some p =>
    obtain ⟨S, ys⟩ := p
    refine ⟨?_, S, ys, rfl⟩
    rw [ha] at h
    by_cases h0 : 0 < t.length
    · exact h0
    · exfalso
      have h1 : t = [] := List.eq_nil_of_length_eq_zero (by omega)
      subst h1
      simp only [List.length_nil, after, Option.some.injEq, Prod.mk.injEq] at ha
      obtain ⟨rfl, rfl⟩ := ha
      exact h rfl
end Go.Proofs.YtedlofpgddjpgaaGreat

namespace Go.Proofs.YtedlofpgddjpgaaGreat
def kidsRt (t : List Nd) (i : Nat) : List Nat := match after t i with
  | none => []
  | some (S, _) => (S.drop (S.length - (ndAt t i).kids.toNat)).map fun s => s.rt
theorem kidsRt_eq {t : List Nd} {i : Nat} {S ys : List Sp} (h : after t i = some (S, ys)) (hi : i < t.length) : kidsRt t i = (S.drop (S.length - t[i].kids.toNat)).map fun s => s.rt := by
  unfold kidsRt
  rw [h, ndAt_get hi]
theorem kidsRt_lt {t : List Nd} {S ys : List Sp} {m : Nat} (h : after t m = some (S, ys)) {i : Nat} (hi : i < m) : ∀ r ∈ kidsRt t i, r < i := by
  obtain ⟨Si, hSi, hk, hK⟩ := kids_atS h i hi
  rw [kidsRt_eq hSi hk]
  intro r hr
  obtain ⟨s, hs, rfl⟩ := List.mem_map.1 hr
  obtain ⟨j, hj, rfl⟩ := List.getElem_of_mem hs
  exact (hK.mem j hj).2.2
end Go.Proofs.YtedlofpgddjpgaaGreat

namespace Go.Proofs.YtedlofpgddjpgaaGreat
structure Tre where
  nd0 : Nd
  ks0 : List Tre
def Tre.nd : Tre → Nd
  | .mk nd _ => nd
def Tre.ks : Tre → List Tre
  | .mk _ ks => ks
theorem Tre.ind {p : Tre → Prop} (h : ∀ nd ks, (∀ k ∈ ks, p k) → p (.mk nd ks)) (t : Tre) : p t := by
  refine Tre.rec (motive_1 := p) (motive_2 := fun ks => ∀ k ∈ ks, p k) h ?_ ?_ t
  · intro k hk; cases hk
  · intro k ks ih1 ih2 x hx
    rcases List.mem_cons.1 hx with rfl | hx
    · exact ih1
    · exact ih2 x hx
def mkT (n : Nd) (ks : List Tre) : Tre := .mk { n with kids := (ks.length : Int) } ks
def leafT (kind num : Int) (text : ByteArray) : Tre := mkT ⟨kind, num, text, 0, 0⟩ []
def knStep (n : Nd) (ks : List Tre) (bs : List Bool) : Bool :=
  if n.kind = 72 ∨ n.kind = 73 ∨ n.kind = 74 then true
  else if n.kind = 75 then bs.all id
  else n.kind == 77 && (match ks, bs with
    | [a, _], [_, b] => a.nd.kind == 74 && b
    | _, _ => false)
def knT : Tre → Bool
  | .mk n ks => knStep n ks (ks.map (fun k => knT k))
theorem knT_eq (n : Nd) (ks : List Tre) : knT (.mk n ks) = knStep n ks (ks.map knT) := by rw [knT]
def zipB : List (Tre → Bool) → List Tre → Bool
  | [], [] => true
  | f :: fs, v :: vs => f v && zipB fs vs
  | _, _ => false
def fitsStep (n : Nd) (fs : List (Tre → Bool)) (v : Tre) : Bool :=
  if n.kind = 15 then true
  else if n.kind = 17 then v.nd.kind == 72 && v.nd.num == n.num
  else if n.kind = 18 then v.nd.kind == 73 && v.nd.text.toList == n.text.toList
  else if n.kind = 20 then v.nd.kind == 75 && zipB fs v.ks
  else if n.kind = 19 then (match fs with
    | [] => v.nd.kind == 74 && v.nd.text.toList == n.text.toList
    | f :: _ => v.nd.kind == 77 && (match v.ks with
      | [a, b] => a.nd.text.toList == n.text.toList && f b
      | _ => false))
  else n.kind == 90 || (match fs with
    | [] => false
    | f :: _ => f v)
def fitsT : Tre → Tre → Bool
  | .mk n ks => fitsStep n (ks.map (fun k => fitsT k))
theorem fitsT_eq (n : Nd) (ks : List Tre) : fitsT (.mk n ks) = fitsStep n (ks.map fitsT) := by rw [fitsT]
def bindsT : Tre → Bool
  | .mk n ks => n.kind == 90 || n.kind == 91 || (ks.map (fun k => bindsT k)).any id
theorem bindsT_eq (n : Nd) (ks : List Tre) : bindsT (.mk n ks) = (n.kind == 90 || n.kind == 91 || ks.any bindsT) := by
  rw [bindsT]
  simp [List.any_map, Function.comp_def]
def truthT (b : Bool) : Tre := leafT 74 0 (if b then ⟨#[116, 114, 117, 101]⟩ else ⟨#[102, 97, 108, 115, 101]⟩)
def arithT (op : List UInt8) (a b : Int) : Option Tre :=
  if op = [43] then some (leafT 72 (IntKind.i64.wrap (a + b)) ⟨#[]⟩)
  else if op = [45] then some (leafT 72 (IntKind.i64.wrap (a - b)) ⟨#[]⟩)
  else if op = [42] then some (leafT 72 (IntKind.i64.wrap (a * b)) ⟨#[]⟩)
  else if op = [60] then some (truthT (decide (a < b)))
  else if op = [60, 61] then some (truthT (decide (a ≤ b)))
  else if op = [62] then some (truthT (decide (a > b)))
  else if op = [62, 61] then some (truthT (decide (a ≥ b)))
  else if op = [47] then (if b = 0 then none else some (leafT 72 (IntKind.i64.wrap (a.tdiv b)) ⟨#[]⟩))
  else if op = [37] then (if b = 0 then none else some (leafT 72 (IntKind.i64.wrap (a.tmod b)) ⟨#[]⟩))
  else none
def binT (op : List UInt8) (a b : Tre) : Option Tre :=
  if op = [94] ∧ a.nd.kind = 73 ∧ b.nd.kind = 73 then
    (if a.nd.text.size + b.nd.text.size ≤ 1000 then some (leafT 73 0 (a.nd.text ++ b.nd.text)) else none)
  else if a.nd.kind = 72 ∧ b.nd.kind = 72 then arithT op a.nd.num b.nd.num
  else none
def chooseT (v : Tre) : List Tre → Option Tre
  | [] => none
  | r :: rs => match r.ks with
    | [p, c] => if fitsT p v then (if !bindsT p then some c else if p.nd.kind = 90 then some (mkT ⟨80, p.nd.num, ⟨#[]⟩, 0, 0⟩ [v, c]) else none) else chooseT v rs
    | _ => none
def ruleT (us : Int → Nat) : Tre → Tre
  | .mk n ks =>
    if n.kind = 88 then (match ks with
      | [a, b] => (binT n.text.toList a b).getD (.mk n ks)
      | _ => .mk n ks)
    else if n.kind = 89 then (match ks with
      | [a] => if n.text.toList = [126] ∧ a.nd.kind = 72 then leafT 72 (IntKind.i64.wrap (-a.nd.num)) ⟨#[]⟩ else .mk n ks
      | _ => .mk n ks)
    else if n.kind = 83 then (match ks with
      | v :: rs => if knT v then (chooseT v rs).getD (.mk n ks) else .mk n ks
      | _ => .mk n ks)
    else if n.kind = 80 then (match ks with
      | [a, b] => if n.num ≤ 200000 ∧ us n.num = 0 ∧ (knT a = true ∨ a.nd.kind = 76 ∨ a.nd.kind = 71) then b else .mk n ks
      | _ => .mk n ks)
    else if n.kind = 77 then (match ks with
      | [f, b] => if f.nd.kind = 76 then (match f.ks with
        | [c] => mkT ⟨80, f.nd.num, ⟨#[]⟩, 0, 0⟩ [b, c]
        | _ => .mk n ks) else .mk n ks
      | _ => .mk n ks)
    else .mk n ks
def singleT (bd : Int → Nat) (num : Int) : Bool := decide (num ≤ 200000) && bd num == 1
def atomT (bd : Int → Nat) (n : Nd) : Bool := if n.kind = 70 then singleT bd n.num else n.kind == 72 || n.kind == 73 || n.kind == 74 || n.kind == 71
def setP (P : Int → Option Tre) (x : Int) (v : Option Tre) : Int → Option Tre := fun y => if y = x then v else P y
def seqF : List ((Int → Option Tre) → Tre × (Int → Option Tre)) → (Int → Option Tre) → List Tre × (Int → Option Tre)
  | [], P => ([], P)
  | f :: fs, P => ((f P).1 :: (seqF fs (f P).2).1, (seqF fs (f P).2).2)
def lessStep (bd us : Int → Nat) (n : Nd) (ks : List Tre) (fs : List ((Int → Option Tre) → Tre × (Int → Option Tre))) (P : Int → Option Tre) : Tre × (Int → Option Tre) :=
  if n.kind = 70 ∧ (P n.num).isSome then ((P n.num).getD (.mk n ks), P)
  else match (if n.kind = 80 ∧ singleT bd n.num = true ∧ (ks.head?.map (fun a => atomT bd a.nd)) = some true then fs else []) with
    | [f, g] => ((g (setP (f P).2 n.num (some (f P).1))).1, setP (g (setP (f P).2 n.num (some (f P).1))).2 n.num none)
    | _ => (ruleT us (mkT n (seqF fs P).1), (seqF fs P).2)
def lessT (bd us : Int → Nat) : Tre → (Int → Option Tre) → Tre × (Int → Option Tre)
  | .mk n ks => lessStep bd us n ks (ks.map (fun k => lessT bd us k))
theorem lessT_eq (bd us : Int → Nat) (n : Nd) (ks : List Tre) : lessT bd us (.mk n ks) = lessStep bd us n ks (ks.map (lessT bd us)) := by rw [lessT]
def outT : Tre → List Nd
  | .mk n ks => (ks.map (fun k => outT k)).flatten ++ [n]
theorem outT_eq (n : Nd) (ks : List Tre) : outT (.mk n ks) = (ks.map outT).flatten ++ [n] := by rw [outT]
def treT (t : List Nd) : Nat → Nat → Tre
  | 0, i => .mk (ndAt t i) []
  | f + 1, i => .mk (ndAt t i) ((kidsRt t i).map (treT t f))
end Go.Proofs.YtedlofpgddjpgaaGreat

namespace Go.Proofs.YtedlofpgddjpgaaGreat
def Lfp {α : Type} (F : (α → Prop) → α → Prop) (x : α) : Prop := ∀ R : α → Prop, (∀ y, F R y → R y) → R x
def Grows {α : Type} (F : (α → Prop) → α → Prop) : Prop := ∀ (R R' : α → Prop) (x : α), (∀ y, R y → R' y) → F R x → F R' x
theorem Lfp.fold {α : Type} {F : (α → Prop) → α → Prop} (hm : Grows F) {x : α} (h : F (Lfp F) x) : Lfp F x :=
  fun R hR => hR x (hm _ R x (fun _ hy => hy R hR) h)
theorem Lfp.ind {α : Type} {F : (α → Prop) → α → Prop} (hm : Grows F) {p : α → Prop} (hp : ∀ y, F (fun z => Lfp F z ∧ p z) y → p y) {x : α} (h : Lfp F x) : p x :=
  (h (fun y => Lfp F y ∧ p y) (fun y hy => ⟨Lfp.fold hm (hm _ _ y (fun _ hz => hz.1) hy), hp y hy⟩)).2
end Go.Proofs.YtedlofpgddjpgaaGreat

namespace Go.Proofs.YtedlofpgddjpgaaGreat
open Go.RowKit
set_option maxHeartbeats 2000000 in
set_option maxRecDepth 20000 in
theorem letter_any (k : Int) (w : World) :
    Calls Tryz.prog 29 #[.int .i64 k] w fun e w' => e = .returned (.int .u8 (letK k : Int)) ∧ w' = w := by
  unfold letK
  by_cases h1 : k = 84
  · subst h1
    go_enter Tryz.func29, Tryz.ntmps29
    go_wp2
    go_ret
    exact ⟨rfl, rfl⟩
  have t1 : (k == 84) = false := by simpa using h1
  by_cases h2 : k = 82
  · subst h2
    go_enter Tryz.func29, Tryz.ntmps29
    go_wp2
    go_ret
    exact ⟨rfl, rfl⟩
  have t2 : (k == 82) = false := by simpa using h2
  by_cases h3 : k = 90 ∨ k = 91 ∨ k = 15 ∨ k = 17 ∨ k = 18 ∨ k = 19 ∨ k = 20
  · rcases h3 with rfl | rfl | rfl | rfl | rfl | rfl | rfl
    all_goals
      go_enter Tryz.func29, Tryz.ntmps29
      go_wp2
      go_ret
      exact ⟨rfl, rfl⟩
  have u1 : (k == 90) = false := by simp; omega
  have u2 : (k == 91) = false := by simp; omega
  have u3 : (k == 15) = false := by simp; omega
  have u4 : (k == 17) = false := by simp; omega
  have u5 : (k == 18) = false := by simp; omega
  have u6 : (k == 19) = false := by simp; omega
  have u7 : (k == 20) = false := by simp; omega
  rw [if_neg h1, if_neg h2, if_neg h3]
  by_cases h4 : 70 ≤ k ∧ k ≤ 89
  · have v1 : decide (k ≥ 70) = true := decide_eq_true h4.1
    have v2 : decide (k ≤ 89) = true := decide_eq_true h4.2
    rw [if_pos h4]
    go_enter Tryz.func29, Tryz.ntmps29
    go_wp2
    go_ret
    exact ⟨rfl, rfl⟩
  rw [if_neg h4]
  by_cases h5 : k = 60 ∨ k = 12 ∨ k = 13 ∨ k = 14
  · rw [if_pos h5]
    rcases h5 with rfl | rfl | rfl | rfl
    all_goals
      go_enter Tryz.func29, Tryz.ntmps29
      go_wp2
      go_ret
      exact ⟨rfl, rfl⟩
  have x1 : (k == 60) = false := by simp; omega
  have x2 : (k == 12) = false := by simp; omega
  have x3 : (k == 13) = false := by simp; omega
  have x4 : (k == 14) = false := by simp; omega
  rw [if_neg h5]
  by_cases h6 : k = 62
  · subst h6
    go_enter Tryz.func29, Tryz.ntmps29
    go_wp2
    go_ret
    exact ⟨rfl, rfl⟩
  have x5 : (k == 62) = false := by simpa using h6
  rw [if_neg h6]
  by_cases h7 : 70 ≤ k
  · have v1 : decide (k ≥ 70) = true := decide_eq_true h7
    have v2 : decide (k ≤ 89) = false := decide_eq_false (by omega)
    go_enter Tryz.func29, Tryz.ntmps29
    go_wp2
    go_ret
    exact ⟨rfl, rfl⟩
  · have v1 : decide (k ≥ 70) = false := decide_eq_false h7
    go_enter Tryz.func29, Tryz.ntmps29
    go_wp2
    go_ret
    exact ⟨rfl, rfl⟩
theorem letK_lt (k : Int) : letK k < 256 := by
  unfold letK
  repeat' split
  all_goals omega
set_option maxHeartbeats 2000000 in
set_option maxRecDepth 20000 in
theorem is_any (k : Int) (c : Nat) (hc : c < 256) (w : World) :
    Calls Tryz.prog 50 #[.int .i64 k, .int .u8 (c : Int)] w fun e w' => e = .returned (.bool (isK k c)) ∧ w' = w := by
  have hl := letK_lt k
  have HL := letter_any k w
  unfold isK
  obtain ⟨l, hle⟩ : ∃ l, letK k = l := ⟨_, rfl⟩
  rw [hle] at HL hl ⊢
  clear hle
  by_cases h1 : l = c
  · subst h1
    go_enter Tryz.func50, Tryz.ntmps50
    go_wp2_with fail
    refine HL.mono ?_
    rintro e w1 ⟨rfl, rfl⟩
    clear HL
    go_wp2
    go_ret
    exact ⟨by simp, rfl⟩
  · have t1 : ((l : Int) == (c : Int)) = false := by simp; omega
    have t1n : (l == c) = false := by simpa using h1
    by_cases h2 : c = 115
    · subst h2
      by_cases h3 : l = 116
      · subst h3
        go_enter Tryz.func50, Tryz.ntmps50
        go_wp2_with fail
        refine HL.mono ?_
        rintro e w1 ⟨rfl, rfl⟩
        clear HL
        go_wp2
        go_ret
        exact ⟨by simp, rfl⟩
      · have t3 : ((l : Int) == 116) = false := by simp; omega
        have t3n : (l == 116) = false := by simpa using h3
        go_enter Tryz.func50, Tryz.ntmps50
        go_wp2_with fail
        refine HL.mono ?_
        rintro e w1 ⟨rfl, rfl⟩
        clear HL
        go_wp2
        go_ret
        exact ⟨by (simp [t1n, t3n]) <;> omega, rfl⟩
    · have t2 : ((c : Int) == 115) = false := by simp; omega
      have t2n : (c == 115) = false := by simpa using h2
      go_enter Tryz.func50, Tryz.ntmps50
      go_wp2_with fail
      refine HL.mono ?_
      rintro e w1 ⟨rfl, rfl⟩
      clear HL
      go_wp2
      go_ret
      exact ⟨by simp [t1n, t2n], rfl⟩
end Go.Proofs.YtedlofpgddjpgaaGreat

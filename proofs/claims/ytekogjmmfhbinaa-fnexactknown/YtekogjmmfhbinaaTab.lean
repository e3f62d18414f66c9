import Derived.Test.YtekogjmmfhbinaaMak
import Derived.Test.YtekogjmmfhbinaaCut
import Derived.Test.YtekogjmmfhbinaaIForm
import Derived.Laws.Rows
import Derived.Laws.Tables
namespace Go.Proofs.Ytekogjmmfhbinaa

open Go.RowKit Go.Shelf

theorem isCodeTypeV (w : World) : FitV w (.func (.func 60) #[] #[]) pType := fitV_of w (enters_of Try.func60 (by kernel_rfl) rfl) isCodeType_any
theorem isSchemeV (w : World) : FitV w (.func (.func 61) #[] #[]) pScheme := fitV_of w (enters_of Try.func61 (by kernel_rfl) rfl) isScheme_any
theorem isCodePatV (w : World) : FitV w (.func (.func 52) #[] #[]) pPat := fitV_of w (enters_of Try.func52 (by kernel_rfl) rfl) isCodePat_any
theorem isCodeV (w : World) : FitV w (.func (.func 35) #[] #[]) pCode := fitV_of w (enters_of Try.func35 (by kernel_rfl) rfl) isCode_any
theorem isOfTextV (w : World) : FitV w (.func (.func 63) #[] #[]) pText := fitV_of w (enters_of Try.func63 (by kernel_rfl) rfl) isOfText_any
theorem isBareV (w : World) : FitV w (.func (.func 65) #[] #[]) pBare := fitV_of w (enters_of Try.func65 (by kernel_rfl) rfl) isBareF_any
theorem isOfNumberV (w : World) : FitV w (.func (.func 67) #[] #[]) pNumb := fitV_of w (enters_of Try.func67 (by kernel_rfl) rfl) isOfNumber_any
theorem isNumberV (w : World) : FitV w (.func (.func 68) #[] #[]) pNum := fitV_of w (enters_of Try.func68 (by kernel_rfl) rfl) isNumberF_any
theorem isGivenNumberV (w : World) : FitV w (.func (.func 70) #[] #[]) pGiven := fitV_of w (enters_of Try.func70 (by kernel_rfl) rfl) isGivenNumber_any
theorem isFailureV (w : World) : FitV w (.func (.func 73) #[] #[]) pFail := fitV_of w (enters_of Try.func73 (by kernel_rfl) rfl) isFailure_any
theorem isBinaryV (w : World) : FitV w (.func (.func 75) #[] #[]) pBin := fitV_of w (enters_of Try.func75 (by kernel_rfl) rfl) isBinary_any
theorem isUnaryV (w : World) : FitV w (.func (.func 76) #[] #[]) pUn := fitV_of w (enters_of Try.func76 (by kernel_rfl) rfl) isUnary_any

theorem refV (w : World) : KidsV w (.func (.func 71) #[] #[]) refB :=
  ⟨_, #[], rfl, enters_of Try.func71 (by kernel_rfl) rfl, fun x ks q ao cap W _ HQ _ _ hx => by simpa using typeOfRef_any x ks q HQ ao cap W hx⟩

theorem fits0 (w : World) : FitsAt w none [] := fun i h => by simp at h

/-- What belongs to a node of code. -/
def codeOwn : Nat → Option (Nd → Bool)
  | 12 => some pText
  | 13 => some pBare
  | 14 => some pBare
  | 60 => some pNumb
  | 62 => some pNumb
  | 15 => some pBare
  | 17 => some pNum
  | 18 => some pText
  | 19 => some pText
  | 20 => some pBare
  | 70 => some pNumb
  | 71 => some pGiven
  | 72 => some pNum
  | 73 => some pText
  | 74 => some pText
  | 75 => some pBare
  | 76 => some pNumb
  | 77 => some pBare
  | 78 => some pNumb
  | 79 => some pBare
  | 80 => some pNumb
  | 81 => some pBare
  | 82 => some pNumb
  | 83 => some pFail
  | 84 => some pBare
  | 85 => some pBare
  | 86 => some pBare
  | 87 => some pBare
  | 88 => some pBin
  | 89 => some pUn
  | 90 => some pNumb
  | 91 => some pNumb
  | _ => none

/-- What the kids of a node of code are. -/
def codeKids : Nat → Nd → List Nd → Bool
  | 12 => fun _ ks => decide ((0 : Int) ≤ (ks.length : Int)) && ks.all pType
  | 13 => fun _ ks => fitAll [pType, pType] ks
  | 14 => fun _ ks => ((ks.length : Int) != 1) && ks.all pType
  | 60 => fun _ ks => fitAll [] ks
  | 62 => fun _ ks => fitAll [pScheme] ks
  | 15 => fun _ ks => fitAll [] ks
  | 17 => fun _ ks => fitAll [] ks
  | 18 => fun _ ks => fitAll [] ks
  | 19 => fun _ ks => decide ((ks.length : Int) ≤ 1) && ks.all pPat
  | 20 => fun _ ks => ((ks.length : Int) != 1) && ks.all pPat
  | 70 => fun _ ks => fitAll [] ks
  | 71 => refB
  | 72 => fun _ ks => fitAll [] ks
  | 73 => fun _ ks => fitAll [] ks
  | 74 => fun _ ks => decide ((0 : Int) ≤ (ks.length : Int)) && ks.all pType
  | 75 => fun _ ks => ((ks.length : Int) != 1) && ks.all pCode
  | 76 => fun _ ks => fitAll [pType, pCode] ks
  | 77 => fun _ ks => fitAll [pCode, pCode] ks
  | 78 => fun _ ks => fitAll [pCode] ks
  | 79 => fun _ ks => fitAll [pCode, pType] ks
  | 80 => fun _ ks => fitAll [pScheme, pCode, pCode] ks
  | 81 => fun _ ks => lastB (pKind 82) pCode ks
  | 82 => fun _ ks => fitAll [pScheme, pCode] ks
  | 83 => fun _ ks => firstB pCode (pKind 84) ks
  | 84 => fun _ ks => fitAll [pPat, pCode] ks
  | 85 => fun _ ks => fitAll [pType, pCode] ks
  | 86 => fun _ ks => firstB pCode (pKind 84) ks
  | 87 => fun _ ks => fitAll [pCode, pCode] ks
  | 88 => fun _ ks => fitAll [pCode, pCode] ks
  | 89 => fun _ ks => fitAll [pCode] ks
  | 90 => fun _ ks => fitAll [pType] ks
  | 91 => fun _ ks => fitAll [pType, pPat] ks
  | _ => fun _ _ => false

theorem wpList_val {P : Program} {ops : Array Oper} {Q : Exit → Act → World → Prop} {a : Act} {w : World} {o : Oper} {rest : List Oper} {v : Value} (hg : o.guard = none) (hr : (execOp a.eval o).run P w = .ok (.value v) w) (h : wpList P ops Q rest (a.put o.dst v) w) : wpList P ops Q (o :: rest) a w := by
  have h1 : Region.wanted o (yielded ops a.tmps) = true := by simp [Region.wanted, hg]
  simp only [wpList, h1, if_true]
  left
  unfold Oper.wp
  rw [hr]
  exact h

theorem wpList_skip {P : Program} {ops : Array Oper} {Q : Exit → Act → World → Prop} {a : Act} {w w' : World} {o : Oper} {rest : List Oper} (hg : o.guard = none) (hr : (execOp a.eval o).run P w = .ok .skip w') (h : wpList P ops Q rest (a.put o.dst undef) w') : wpList P ops Q (o :: rest) a w := by
  have h1 : Region.wanted o (yielded ops a.tmps) = true := by simp [Region.wanted, hg]
  simp only [wpList, h1, if_true]
  left
  unfold Oper.wp
  rw [hr]
  exact h

theorem setRow_same {w : World} {b : Nat} {c c' : Array Value} {t : TypeId} (h : w.heap[b]? = some (.cells c t (0, 0))) : (w.setRow b c').heap[b]? = some (.cells c' t (0, 0)) := by
  simp [World.setRow, Array.getElem?_modify, h]

theorem setRow_other {w : World} {b j : Nat} {c' : Array Value} (h : j ≠ b) : (w.setRow b c').heap[j]? = w.heap[j]? := by
  have h' : ¬ b = j := fun e => h e.symm
  simp [World.setRow, Array.getElem?_modify, h']

theorem setRow_below {w w0 : World} {b B : Nat} {c' : Array Value} (h : Below B w0 w) (hb : B ≤ b) : Below B w0 (w.setRow b c') :=
  ⟨h.os, h.tape, h.output, by simpa [World.setRow] using h.size, fun k hk => (setRow_other (by omega)).trans (h.block k hk)⟩

theorem exec_store {P : Program} {a : Act} {o : Oper} {t : TypeId} {p x : Operand} {b : Nat} {v : Value} {w w' : World} (ho : o.op = .store t p x) (hp : a.eval p = .pointer (some ⟨b, 0, none⟩)) (hx : a.eval x = v)
    (hs : (storeVar t ⟨b, 0, none⟩ v).run P w = .ok () w') : (execOp a.eval o).run P w = .ok .skip w' := by
  simp [execOp, ho, hp, hx, Instr.storeAt, Instr.sureAddr, hs, Result.andThen]

theorem results_cellT {fn : Func} {a : Tmp} {t : TypeId} (h : fn.results = #[.cell a t]) (tmps : Array Value) (ad : Addr) (ht : tmps[a]?.getD undef = .pointer (some ad)) (w : World) (v : Value) (hl : (loadVar t ad).run Try.prog w = .ok v w) : (results fn tmps).run Try.prog w = .ok v w := by
  simp [results, h, ht, asAddr, hl]

theorem fits1B {W : World} {g : Nat} {v1 : Value} {p1 : Nd → Bool} {t : TypeId} (h : W.heap[g]? = some (.cells #[v1] t (0, 0))) (h1 : FitV W v1 p1) : FitsAt W (some ⟨g, 0, none⟩) [p1] := by
  intro i hi
  match i, hi with
  | 0, _ => exact ⟨_, _, v1, rfl, by rw [cell_of_row _ _ _ _ _ _ h]; rfl, h1⟩

theorem fits2B {W : World} {g : Nat} {v1 v2 : Value} {p1 p2 : Nd → Bool} {t : TypeId} (h : W.heap[g]? = some (.cells #[v1, v2] t (0, 0))) (h1 : FitV W v1 p1) (h2 : FitV W v2 p2) : FitsAt W (some ⟨g, 0, none⟩) [p1, p2] := by
  intro i hi
  match i, hi with
  | 0, _ => exact ⟨_, _, v1, rfl, by rw [cell_of_row _ _ _ _ _ _ h]; rfl, h1⟩
  | 1, _ => exact ⟨_, _, v2, rfl, by rw [cell_of_row _ _ _ _ _ _ h]; rfl, h2⟩

theorem fits3B {W : World} {g : Nat} {v1 v2 v3 : Value} {p1 p2 p3 : Nd → Bool} {t : TypeId} (h : W.heap[g]? = some (.cells #[v1, v2, v3] t (0, 0))) (h1 : FitV W v1 p1) (h2 : FitV W v2 p2) (h3 : FitV W v3 p3) : FitsAt W (some ⟨g, 0, none⟩) [p1, p2, p3] := by
  intro i hi
  match i, hi with
  | 0, _ => exact ⟨_, _, v1, rfl, by rw [cell_of_row _ _ _ _ _ _ h]; rfl, h1⟩
  | 1, _ => exact ⟨_, _, v2, rfl, by rw [cell_of_row _ _ _ _ _ _ h]; rfl, h2⟩
  | 2, _ => exact ⟨_, _, v3, rfl, by rw [cell_of_row _ _ _ _ _ _ h]; rfl, h3⟩

theorem lt_of_block {W : World} {j : Nat} {o : Obj} (h : W.heap[j]? = some o) : j < W.heap.size := (Array.getElem?_eq_some_iff.1 h).1

set_option maxRecDepth 100000 in
set_option maxHeartbeats 8000000 in
theorem codeDemands_keep (w : World) :
    Calls Try.prog 49 #[] w fun e w' => (∃ tab : Array Value, tab.size = 184 ∧ e = .returned (.agg tab) ∧ ∀ W : World, (∀ (j : Nat) (o : Obj), w'.heap[j]? = some o → w.heap.size < j → W.heap[j]? = some o) → TabOk W tab codeOwn codeKids) ∧ Below w.heap.size w w' := by
  go_enter Try.func49, Try.ntmps49
  go_wp2_with fail
  refine (ofKind_any 84 _).mono ?_
  rintro e w1 ⟨⟨br, rfl, nr, gr⟩, d1⟩
  have b1 : Below w.heap.size w w1 := (Below.alloc (Below.refl _ w) (Nat.le_refl _) _).trans (d1.mono (by simp))
  have ZB : Hid (w1.heap[w.heap.size]? = some (.cells Try.zeroCells56 56 (0, 0))) := (d1.block _ (by simp)).trans (heap_alloc_new _ _)
  have z1 : w.heap.size < w1.heap.size := (Array.getElem?_eq_some_iff.1 ZB.out).1
  have NR : Hid (w.heap.size < br) := by have h9 := nr; rw [World.size_alloc] at h9; exact h9
  have GR : Hid (w1.heap[br]? = some (.cells #[.int .i64 84] 3 (0, 0))) := gr
  clear d1 nr gr
  go_wp2_with fail
  refine (some_any 0 60 #[] _).mono ?_
  rintro e w2 ⟨⟨b12, c12, rfl, n1, n2, g1, g2⟩, a2⟩
  have C2 : Hid (Below w1.heap.size w1 w2) := a2
  have z2 : w.heap.size < w2.heap.size := Nat.lt_of_lt_of_le z1 a2.size
  have N12 : Hid (w.heap.size < b12) := Nat.lt_of_lt_of_le z1 n1
  have G12 : Hid (w2.heap[b12]? = some (.cells #[.int .i64 0] 3 (0, 0))) := g1
  have N'12 : Hid (w.heap.size < c12) := Nat.lt_of_lt_of_le z1 n2
  have G'12 : Hid (w2.heap[c12]? = some (.cells #[.func (.func 60) #[] #[]] 74 (0, 0))) := g2
  clear z1 a2 n1 g1 n2 g2
  rename_i KR HKR K1 HK1
  refine HK1 _ _ ?_
  clear HK1 K1
  refine cut5 rfl rfl rfl rfl rfl ?_
  intro K2 O2 HK2
  go_wp2_with fail
  refine (just_any (some ⟨w2.heap.size, 0, none⟩) 2 2 _).mono ?_
  rintro e w3 ⟨⟨b13, rfl, n1, g1⟩, d3⟩
  have a3 : Below w2.heap.size w2 w3 := (Below.alloc (Below.refl _ w2) (Nat.le_refl _) _).trans (d3.mono (by simp))
  have S13 : Hid (w3.heap[w2.heap.size]? = some (.cells #[.func (.func 60) #[] #[], .func (.func 60) #[] #[]] 74 (0, 0))) := (d3.block _ (by simp)).trans (heap_alloc_new _ _)
  have Y13 : Hid (w.heap.size < w2.heap.size) := z2
  have n1 : w2.heap.size ≤ b13 := by have h9 := n1; rw [World.size_alloc] at h9; omega
  have C3 : Hid (Below w2.heap.size w2 w3) := a3
  have z3 : w.heap.size < w3.heap.size := Nat.lt_of_lt_of_le z2 a3.size
  have N13 : Hid (w.heap.size < b13) := Nat.lt_of_lt_of_le z2 n1
  have G13 : Hid (w3.heap[b13]? = some (.cells #[.slice (some ⟨w2.heap.size, 0, none⟩) 2 2] 93 (0, 0))) := g1
  clear z2 a3 n1 g1 d3
  go_wp2
  refine HK2.out _ _ ?_
  clear HK2 K2 O2
  refine cut3 rfl rfl rfl ?_
  intro K3 O3 HK3
  go_wp2_with fail
  refine (notOne_any 60 #[] _).mono ?_
  rintro e w4 ⟨⟨b14, rfl, n1, g1⟩, a4⟩
  have C4 : Hid (Below w3.heap.size w3 w4) := a4
  have z4 : w.heap.size < w4.heap.size := Nat.lt_of_lt_of_le z3 a4.size
  have N14 : Hid (w.heap.size < b14) := Nat.lt_of_lt_of_le z3 n1
  have G14 : Hid (w4.heap[b14]? = some (.cells #[.func (.func 60) #[] #[]] 74 (0, 0))) := g1
  clear z3 a4 n1 g1
  go_wp2
  refine HK3.out _ _ ?_
  clear HK3 K3 O3
  refine cut2 rfl rfl ?_
  intro K4 O4 HK4
  go_wp2_with fail
  refine (just_any none 0 0 _).mono ?_
  rintro e w5 ⟨⟨b60, rfl, n1, g1⟩, a5⟩
  have C5 : Hid (Below w4.heap.size w4 w5) := a5
  have z5 : w.heap.size < w5.heap.size := Nat.lt_of_lt_of_le z4 a5.size
  have N60 : Hid (w.heap.size < b60) := Nat.lt_of_lt_of_le z4 n1
  have G60 : Hid (w5.heap[b60]? = some (.cells #[.slice none 0 0] 93 (0, 0))) := g1
  clear z4 a5 n1 g1
  go_wp2
  refine HK4.out _ _ ?_
  clear HK4 K4 O4
  refine cut4 rfl rfl rfl rfl ?_
  intro K5 O5 HK5
  go_wp2_with fail
  refine (just_any (some ⟨w5.heap.size, 0, none⟩) 1 1 _).mono ?_
  rintro e w6 ⟨⟨b62, rfl, n1, g1⟩, d6⟩
  have a6 : Below w5.heap.size w5 w6 := (Below.alloc (Below.refl _ w5) (Nat.le_refl _) _).trans (d6.mono (by simp))
  have S62 : Hid (w6.heap[w5.heap.size]? = some (.cells #[.func (.func 61) #[] #[]] 74 (0, 0))) := (d6.block _ (by simp)).trans (heap_alloc_new _ _)
  have Y62 : Hid (w.heap.size < w5.heap.size) := z5
  have n1 : w5.heap.size ≤ b62 := by have h9 := n1; rw [World.size_alloc] at h9; omega
  have C6 : Hid (Below w5.heap.size w5 w6) := a6
  have z6 : w.heap.size < w6.heap.size := Nat.lt_of_lt_of_le z5 a6.size
  have N62 : Hid (w.heap.size < b62) := Nat.lt_of_lt_of_le z5 n1
  have G62 : Hid (w6.heap[b62]? = some (.cells #[.slice (some ⟨w5.heap.size, 0, none⟩) 1 1] 93 (0, 0))) := g1
  clear z5 a6 n1 g1 d6
  go_wp2
  refine HK5.out _ _ ?_
  clear HK5 K5 O5
  refine cut2 rfl rfl ?_
  intro K6 O6 HK6
  go_wp2_with fail
  refine (just_any none 0 0 _).mono ?_
  rintro e w7 ⟨⟨b15, rfl, n1, g1⟩, a7⟩
  have C7 : Hid (Below w6.heap.size w6 w7) := a7
  have z7 : w.heap.size < w7.heap.size := Nat.lt_of_lt_of_le z6 a7.size
  have N15 : Hid (w.heap.size < b15) := Nat.lt_of_lt_of_le z6 n1
  have G15 : Hid (w7.heap[b15]? = some (.cells #[.slice none 0 0] 93 (0, 0))) := g1
  clear z6 a7 n1 g1
  go_wp2
  refine HK6.out _ _ ?_
  clear HK6 K6 O6
  refine cut2 rfl rfl ?_
  intro K7 O7 HK7
  go_wp2_with fail
  refine (just_any none 0 0 _).mono ?_
  rintro e w8 ⟨⟨b17, rfl, n1, g1⟩, a8⟩
  have C8 : Hid (Below w7.heap.size w7 w8) := a8
  have z8 : w.heap.size < w8.heap.size := Nat.lt_of_lt_of_le z7 a8.size
  have N17 : Hid (w.heap.size < b17) := Nat.lt_of_lt_of_le z7 n1
  have G17 : Hid (w8.heap[b17]? = some (.cells #[.slice none 0 0] 93 (0, 0))) := g1
  clear z7 a8 n1 g1
  go_wp2
  refine HK7.out _ _ ?_
  clear HK7 K7 O7
  refine cut2 rfl rfl ?_
  intro K8 O8 HK8
  go_wp2_with fail
  refine (just_any none 0 0 _).mono ?_
  rintro e w9 ⟨⟨b18, rfl, n1, g1⟩, a9⟩
  have C9 : Hid (Below w8.heap.size w8 w9) := a9
  have z9 : w.heap.size < w9.heap.size := Nat.lt_of_lt_of_le z8 a9.size
  have N18 : Hid (w.heap.size < b18) := Nat.lt_of_lt_of_le z8 n1
  have G18 : Hid (w9.heap[b18]? = some (.cells #[.slice none 0 0] 93 (0, 0))) := g1
  clear z8 a9 n1 g1
  go_wp2
  refine HK8.out _ _ ?_
  clear HK8 K8 O8
  refine cut3 rfl rfl rfl ?_
  intro K9 O9 HK9
  go_wp2_with fail
  refine (atMostOne_any 52 #[] _).mono ?_
  rintro e w10 ⟨⟨b19, rfl, n1, g1⟩, a10⟩
  have C10 : Hid (Below w9.heap.size w9 w10) := a10
  have z10 : w.heap.size < w10.heap.size := Nat.lt_of_lt_of_le z9 a10.size
  have N19 : Hid (w.heap.size < b19) := Nat.lt_of_lt_of_le z9 n1
  have G19 : Hid (w10.heap[b19]? = some (.cells #[.func (.func 52) #[] #[]] 74 (0, 0))) := g1
  clear z9 a10 n1 g1
  go_wp2
  refine HK9.out _ _ ?_
  clear HK9 K9 O9
  refine cut3 rfl rfl rfl ?_
  intro K10 O10 HK10
  go_wp2_with fail
  refine (notOne_any 52 #[] _).mono ?_
  rintro e w11 ⟨⟨b20, rfl, n1, g1⟩, a11⟩
  have C11 : Hid (Below w10.heap.size w10 w11) := a11
  have z11 : w.heap.size < w11.heap.size := Nat.lt_of_lt_of_le z10 a11.size
  have N20 : Hid (w.heap.size < b20) := Nat.lt_of_lt_of_le z10 n1
  have G20 : Hid (w11.heap[b20]? = some (.cells #[.func (.func 52) #[] #[]] 74 (0, 0))) := g1
  clear z10 a11 n1 g1
  go_wp2
  refine HK10.out _ _ ?_
  clear HK10 K10 O10
  refine cut2 rfl rfl ?_
  intro K11 O11 HK11
  go_wp2_with fail
  refine (just_any none 0 0 _).mono ?_
  rintro e w12 ⟨⟨b70, rfl, n1, g1⟩, a12⟩
  have C12 : Hid (Below w11.heap.size w11 w12) := a12
  have z12 : w.heap.size < w12.heap.size := Nat.lt_of_lt_of_le z11 a12.size
  have N70 : Hid (w.heap.size < b70) := Nat.lt_of_lt_of_le z11 n1
  have G70 : Hid (w12.heap[b70]? = some (.cells #[.slice none 0 0] 93 (0, 0))) := g1
  clear z11 a12 n1 g1
  go_wp2
  refine HK11.out _ _ ?_
  clear HK11 K11 O11
  refine cut3 rfl rfl rfl ?_
  intro K12 O12 HK12
  go_wp2_with fail
  refine (just_any none 0 0 _).mono ?_
  rintro e w13 ⟨⟨b72, rfl, n1, g1⟩, a13⟩
  have C13 : Hid (Below w12.heap.size w12 w13) := a13
  have z13 : w.heap.size < w13.heap.size := Nat.lt_of_lt_of_le z12 a13.size
  have N72 : Hid (w.heap.size < b72) := Nat.lt_of_lt_of_le z12 n1
  have G72 : Hid (w13.heap[b72]? = some (.cells #[.slice none 0 0] 93 (0, 0))) := g1
  clear z12 a13 n1 g1
  go_wp2
  refine HK12.out _ _ ?_
  clear HK12 K12 O12
  refine cut2 rfl rfl ?_
  intro K13 O13 HK13
  go_wp2_with fail
  refine (just_any none 0 0 _).mono ?_
  rintro e w14 ⟨⟨b73, rfl, n1, g1⟩, a14⟩
  have C14 : Hid (Below w13.heap.size w13 w14) := a14
  have z14 : w.heap.size < w14.heap.size := Nat.lt_of_lt_of_le z13 a14.size
  have N73 : Hid (w.heap.size < b73) := Nat.lt_of_lt_of_le z13 n1
  have G73 : Hid (w14.heap[b73]? = some (.cells #[.slice none 0 0] 93 (0, 0))) := g1
  clear z13 a14 n1 g1
  go_wp2
  refine HK13.out _ _ ?_
  clear HK13 K13 O13
  refine cut3 rfl rfl rfl ?_
  intro K14 O14 HK14
  go_wp2_with fail
  refine (some_any 0 60 #[] _).mono ?_
  rintro e w15 ⟨⟨b74, c74, rfl, n1, n2, g1, g2⟩, a15⟩
  have C15 : Hid (Below w14.heap.size w14 w15) := a15
  have z15 : w.heap.size < w15.heap.size := Nat.lt_of_lt_of_le z14 a15.size
  have N74 : Hid (w.heap.size < b74) := Nat.lt_of_lt_of_le z14 n1
  have G74 : Hid (w15.heap[b74]? = some (.cells #[.int .i64 0] 3 (0, 0))) := g1
  have N'74 : Hid (w.heap.size < c74) := Nat.lt_of_lt_of_le z14 n2
  have G'74 : Hid (w15.heap[c74]? = some (.cells #[.func (.func 60) #[] #[]] 74 (0, 0))) := g2
  clear z14 a15 n1 g1 n2 g2
  go_wp2
  refine HK14.out _ _ ?_
  clear HK14 K14 O14
  refine cut3 rfl rfl rfl ?_
  intro K15 O15 HK15
  go_wp2_with fail
  refine (notOne_any 35 #[] _).mono ?_
  rintro e w16 ⟨⟨b75, rfl, n1, g1⟩, a16⟩
  have C16 : Hid (Below w15.heap.size w15 w16) := a16
  have z16 : w.heap.size < w16.heap.size := Nat.lt_of_lt_of_le z15 a16.size
  have N75 : Hid (w.heap.size < b75) := Nat.lt_of_lt_of_le z15 n1
  have G75 : Hid (w16.heap[b75]? = some (.cells #[.func (.func 35) #[] #[]] 74 (0, 0))) := g1
  clear z15 a16 n1 g1
  go_wp2
  refine HK15.out _ _ ?_
  clear HK15 K15 O15
  refine cut5 rfl rfl rfl rfl rfl ?_
  intro K16 O16 HK16
  go_wp2_with fail
  refine (just_any (some ⟨w16.heap.size, 0, none⟩) 2 2 _).mono ?_
  rintro e w17 ⟨⟨b76, rfl, n1, g1⟩, d17⟩
  have a17 : Below w16.heap.size w16 w17 := (Below.alloc (Below.refl _ w16) (Nat.le_refl _) _).trans (d17.mono (by simp))
  have S76 : Hid (w17.heap[w16.heap.size]? = some (.cells #[.func (.func 60) #[] #[], .func (.func 35) #[] #[]] 74 (0, 0))) := (d17.block _ (by simp)).trans (heap_alloc_new _ _)
  have Y76 : Hid (w.heap.size < w16.heap.size) := z16
  have n1 : w16.heap.size ≤ b76 := by have h9 := n1; rw [World.size_alloc] at h9; omega
  have C17 : Hid (Below w16.heap.size w16 w17) := a17
  have z17 : w.heap.size < w17.heap.size := Nat.lt_of_lt_of_le z16 a17.size
  have N76 : Hid (w.heap.size < b76) := Nat.lt_of_lt_of_le z16 n1
  have G76 : Hid (w17.heap[b76]? = some (.cells #[.slice (some ⟨w16.heap.size, 0, none⟩) 2 2] 93 (0, 0))) := g1
  clear z16 a17 n1 g1 d17
  go_wp2
  refine HK16.out _ _ ?_
  clear HK16 K16 O16
  refine cut5 rfl rfl rfl rfl rfl ?_
  intro K17 O17 HK17
  go_wp2_with fail
  refine (just_any (some ⟨w17.heap.size, 0, none⟩) 2 2 _).mono ?_
  rintro e w18 ⟨⟨b77, rfl, n1, g1⟩, d18⟩
  have a18 : Below w17.heap.size w17 w18 := (Below.alloc (Below.refl _ w17) (Nat.le_refl _) _).trans (d18.mono (by simp))
  have S77 : Hid (w18.heap[w17.heap.size]? = some (.cells #[.func (.func 35) #[] #[], .func (.func 35) #[] #[]] 74 (0, 0))) := (d18.block _ (by simp)).trans (heap_alloc_new _ _)
  have Y77 : Hid (w.heap.size < w17.heap.size) := z17
  have n1 : w17.heap.size ≤ b77 := by have h9 := n1; rw [World.size_alloc] at h9; omega
  have C18 : Hid (Below w17.heap.size w17 w18) := a18
  have z18 : w.heap.size < w18.heap.size := Nat.lt_of_lt_of_le z17 a18.size
  have N77 : Hid (w.heap.size < b77) := Nat.lt_of_lt_of_le z17 n1
  have G77 : Hid (w18.heap[b77]? = some (.cells #[.slice (some ⟨w17.heap.size, 0, none⟩) 2 2] 93 (0, 0))) := g1
  clear z17 a18 n1 g1 d18
  go_wp2
  refine HK17.out _ _ ?_
  clear HK17 K17 O17
  refine cut4 rfl rfl rfl rfl ?_
  intro K18 O18 HK18
  go_wp2_with fail
  refine (just_any (some ⟨w18.heap.size, 0, none⟩) 1 1 _).mono ?_
  rintro e w19 ⟨⟨b78, rfl, n1, g1⟩, d19⟩
  have a19 : Below w18.heap.size w18 w19 := (Below.alloc (Below.refl _ w18) (Nat.le_refl _) _).trans (d19.mono (by simp))
  have S78 : Hid (w19.heap[w18.heap.size]? = some (.cells #[.func (.func 35) #[] #[]] 74 (0, 0))) := (d19.block _ (by simp)).trans (heap_alloc_new _ _)
  have Y78 : Hid (w.heap.size < w18.heap.size) := z18
  have n1 : w18.heap.size ≤ b78 := by have h9 := n1; rw [World.size_alloc] at h9; omega
  have C19 : Hid (Below w18.heap.size w18 w19) := a19
  have z19 : w.heap.size < w19.heap.size := Nat.lt_of_lt_of_le z18 a19.size
  have N78 : Hid (w.heap.size < b78) := Nat.lt_of_lt_of_le z18 n1
  have G78 : Hid (w19.heap[b78]? = some (.cells #[.slice (some ⟨w18.heap.size, 0, none⟩) 1 1] 93 (0, 0))) := g1
  clear z18 a19 n1 g1 d19
  go_wp2
  refine HK18.out _ _ ?_
  clear HK18 K18 O18
  refine cut5 rfl rfl rfl rfl rfl ?_
  intro K19 O19 HK19
  go_wp2_with fail
  refine (just_any (some ⟨w19.heap.size, 0, none⟩) 2 2 _).mono ?_
  rintro e w20 ⟨⟨b79, rfl, n1, g1⟩, d20⟩
  have a20 : Below w19.heap.size w19 w20 := (Below.alloc (Below.refl _ w19) (Nat.le_refl _) _).trans (d20.mono (by simp))
  have S79 : Hid (w20.heap[w19.heap.size]? = some (.cells #[.func (.func 35) #[] #[], .func (.func 60) #[] #[]] 74 (0, 0))) := (d20.block _ (by simp)).trans (heap_alloc_new _ _)
  have Y79 : Hid (w.heap.size < w19.heap.size) := z19
  have n1 : w19.heap.size ≤ b79 := by have h9 := n1; rw [World.size_alloc] at h9; omega
  have C20 : Hid (Below w19.heap.size w19 w20) := a20
  have z20 : w.heap.size < w20.heap.size := Nat.lt_of_lt_of_le z19 a20.size
  have N79 : Hid (w.heap.size < b79) := Nat.lt_of_lt_of_le z19 n1
  have G79 : Hid (w20.heap[b79]? = some (.cells #[.slice (some ⟨w19.heap.size, 0, none⟩) 2 2] 93 (0, 0))) := g1
  clear z19 a20 n1 g1 d20
  go_wp2
  refine HK19.out _ _ ?_
  clear HK19 K19 O19
  refine cut6 rfl rfl rfl rfl rfl rfl ?_
  intro K20 O20 HK20
  go_wp2_with fail
  refine (just_any (some ⟨w20.heap.size, 0, none⟩) 3 3 _).mono ?_
  rintro e w21 ⟨⟨b80, rfl, n1, g1⟩, d21⟩
  have a21 : Below w20.heap.size w20 w21 := (Below.alloc (Below.refl _ w20) (Nat.le_refl _) _).trans (d21.mono (by simp))
  have S80 : Hid (w21.heap[w20.heap.size]? = some (.cells #[.func (.func 61) #[] #[], .func (.func 35) #[] #[], .func (.func 35) #[] #[]] 74 (0, 0))) := (d21.block _ (by simp)).trans (heap_alloc_new _ _)
  have Y80 : Hid (w.heap.size < w20.heap.size) := z20
  have n1 : w20.heap.size ≤ b80 := by have h9 := n1; rw [World.size_alloc] at h9; omega
  have C21 : Hid (Below w20.heap.size w20 w21) := a21
  have z21 : w.heap.size < w21.heap.size := Nat.lt_of_lt_of_le z20 a21.size
  have N80 : Hid (w.heap.size < b80) := Nat.lt_of_lt_of_le z20 n1
  have G80 : Hid (w21.heap[b80]? = some (.cells #[.slice (some ⟨w20.heap.size, 0, none⟩) 3 3] 93 (0, 0))) := g1
  clear z20 a21 n1 g1 d21
  go_wp2
  refine HK20.out _ _ ?_
  clear HK20 K20 O20
  refine cut2 rfl rfl ?_
  intro K21 O21 HK21
  go_wp2_with fail
  refine (ofKind_any 82 _).mono ?_
  rintro e w22 ⟨⟨bq, rfl, nr, gr⟩, a22⟩
  have C22 : Hid (Below w21.heap.size w21 w22) := a22
  have z22 : w.heap.size < w22.heap.size := Nat.lt_of_lt_of_le z21 a22.size
  have NQ : Hid (w.heap.size < bq) := Nat.lt_of_lt_of_le z21 nr
  have GQ : Hid (w22.heap[bq]? = some (.cells #[.int .i64 82] 3 (0, 0))) := gr
  clear z21 a22 nr gr
  go_wp2
  refine HK21.out _ _ ?_
  clear HK21 K21 O21
  refine cut2 rfl rfl ?_
  intro K22 O22 HK22
  go_wp2_with fail
  refine (lastApart_any 84 #[.pointer (some ⟨bq, 0, none⟩)] 35 #[] _).mono ?_
  rintro e w23 ⟨⟨b81, c81, rfl, n1, n2, g1, g2⟩, a23⟩
  have C23 : Hid (Below w22.heap.size w22 w23) := a23
  have z23 : w.heap.size < w23.heap.size := Nat.lt_of_lt_of_le z22 a23.size
  have N81 : Hid (w.heap.size < b81) := Nat.lt_of_lt_of_le z22 n1
  have G81 : Hid (w23.heap[b81]? = some (.cells #[.func (.func 84) #[] #[.pointer (some ⟨bq, 0, none⟩)]] 74 (0, 0))) := g1
  have N'81 : Hid (w.heap.size < c81) := Nat.lt_of_lt_of_le z22 n2
  have G'81 : Hid (w23.heap[c81]? = some (.cells #[.func (.func 35) #[] #[]] 74 (0, 0))) := g2
  clear z22 a23 n1 g1 n2 g2
  go_wp2
  refine HK22.out _ _ ?_
  clear HK22 K22 O22
  refine cut5 rfl rfl rfl rfl rfl ?_
  intro K23 O23 HK23
  go_wp2_with fail
  refine (just_any (some ⟨w23.heap.size, 0, none⟩) 2 2 _).mono ?_
  rintro e w24 ⟨⟨b82, rfl, n1, g1⟩, d24⟩
  have a24 : Below w23.heap.size w23 w24 := (Below.alloc (Below.refl _ w23) (Nat.le_refl _) _).trans (d24.mono (by simp))
  have S82 : Hid (w24.heap[w23.heap.size]? = some (.cells #[.func (.func 61) #[] #[], .func (.func 35) #[] #[]] 74 (0, 0))) := (d24.block _ (by simp)).trans (heap_alloc_new _ _)
  have Y82 : Hid (w.heap.size < w23.heap.size) := z23
  have n1 : w23.heap.size ≤ b82 := by have h9 := n1; rw [World.size_alloc] at h9; omega
  have C24 : Hid (Below w23.heap.size w23 w24) := a24
  have z24 : w.heap.size < w24.heap.size := Nat.lt_of_lt_of_le z23 a24.size
  have N82 : Hid (w.heap.size < b82) := Nat.lt_of_lt_of_le z23 n1
  have G82 : Hid (w24.heap[b82]? = some (.cells #[.slice (some ⟨w23.heap.size, 0, none⟩) 2 2] 93 (0, 0))) := g1
  clear z23 a24 n1 g1 d24
  go_wp2
  refine HK23.out _ _ ?_
  clear HK23 K23 O23
  refine cut4 rfl rfl rfl rfl ?_
  intro K24 O24 HK24
  go_wp2_with fail
  refine (firstApart_any 35 #[] 84 #[.pointer (some ⟨br, 0, none⟩)] _).mono ?_
  rintro e w25 ⟨⟨b83, c83, rfl, n1, n2, g1, g2⟩, a25⟩
  have C25 : Hid (Below w24.heap.size w24 w25) := a25
  have z25 : w.heap.size < w25.heap.size := Nat.lt_of_lt_of_le z24 a25.size
  have N83 : Hid (w.heap.size < b83) := Nat.lt_of_lt_of_le z24 n1
  have G83 : Hid (w25.heap[b83]? = some (.cells #[.func (.func 35) #[] #[]] 74 (0, 0))) := g1
  have N'83 : Hid (w.heap.size < c83) := Nat.lt_of_lt_of_le z24 n2
  have G'83 : Hid (w25.heap[c83]? = some (.cells #[.func (.func 84) #[] #[.pointer (some ⟨br, 0, none⟩)]] 74 (0, 0))) := g2
  clear z24 a25 n1 g1 n2 g2
  go_wp2
  refine HK24.out _ _ ?_
  clear HK24 K24 O24
  refine cut5 rfl rfl rfl rfl rfl ?_
  intro K25 O25 HK25
  go_wp2_with fail
  refine (just_any (some ⟨w25.heap.size, 0, none⟩) 2 2 _).mono ?_
  rintro e w26 ⟨⟨b84, rfl, n1, g1⟩, d26⟩
  have a26 : Below w25.heap.size w25 w26 := (Below.alloc (Below.refl _ w25) (Nat.le_refl _) _).trans (d26.mono (by simp))
  have S84 : Hid (w26.heap[w25.heap.size]? = some (.cells #[.func (.func 52) #[] #[], .func (.func 35) #[] #[]] 74 (0, 0))) := (d26.block _ (by simp)).trans (heap_alloc_new _ _)
  have Y84 : Hid (w.heap.size < w25.heap.size) := z25
  have n1 : w25.heap.size ≤ b84 := by have h9 := n1; rw [World.size_alloc] at h9; omega
  have C26 : Hid (Below w25.heap.size w25 w26) := a26
  have z26 : w.heap.size < w26.heap.size := Nat.lt_of_lt_of_le z25 a26.size
  have N84 : Hid (w.heap.size < b84) := Nat.lt_of_lt_of_le z25 n1
  have G84 : Hid (w26.heap[b84]? = some (.cells #[.slice (some ⟨w25.heap.size, 0, none⟩) 2 2] 93 (0, 0))) := g1
  clear z25 a26 n1 g1 d26
  go_wp2
  refine HK25.out _ _ ?_
  clear HK25 K25 O25
  refine cut5 rfl rfl rfl rfl rfl ?_
  intro K26 O26 HK26
  go_wp2_with fail
  refine (just_any (some ⟨w26.heap.size, 0, none⟩) 2 2 _).mono ?_
  rintro e w27 ⟨⟨b85, rfl, n1, g1⟩, d27⟩
  have a27 : Below w26.heap.size w26 w27 := (Below.alloc (Below.refl _ w26) (Nat.le_refl _) _).trans (d27.mono (by simp))
  have S85 : Hid (w27.heap[w26.heap.size]? = some (.cells #[.func (.func 60) #[] #[], .func (.func 35) #[] #[]] 74 (0, 0))) := (d27.block _ (by simp)).trans (heap_alloc_new _ _)
  have Y85 : Hid (w.heap.size < w26.heap.size) := z26
  have n1 : w26.heap.size ≤ b85 := by have h9 := n1; rw [World.size_alloc] at h9; omega
  have C27 : Hid (Below w26.heap.size w26 w27) := a27
  have z27 : w.heap.size < w27.heap.size := Nat.lt_of_lt_of_le z26 a27.size
  have N85 : Hid (w.heap.size < b85) := Nat.lt_of_lt_of_le z26 n1
  have G85 : Hid (w27.heap[b85]? = some (.cells #[.slice (some ⟨w26.heap.size, 0, none⟩) 2 2] 93 (0, 0))) := g1
  clear z26 a27 n1 g1 d27
  go_wp2
  refine HK26.out _ _ ?_
  clear HK26 K26 O26
  refine cut4 rfl rfl rfl rfl ?_
  intro K27 O27 HK27
  go_wp2_with fail
  refine (firstApart_any 35 #[] 84 #[.pointer (some ⟨br, 0, none⟩)] _).mono ?_
  rintro e w28 ⟨⟨b86, c86, rfl, n1, n2, g1, g2⟩, a28⟩
  have C28 : Hid (Below w27.heap.size w27 w28) := a28
  have z28 : w.heap.size < w28.heap.size := Nat.lt_of_lt_of_le z27 a28.size
  have N86 : Hid (w.heap.size < b86) := Nat.lt_of_lt_of_le z27 n1
  have G86 : Hid (w28.heap[b86]? = some (.cells #[.func (.func 35) #[] #[]] 74 (0, 0))) := g1
  have N'86 : Hid (w.heap.size < c86) := Nat.lt_of_lt_of_le z27 n2
  have G'86 : Hid (w28.heap[c86]? = some (.cells #[.func (.func 84) #[] #[.pointer (some ⟨br, 0, none⟩)]] 74 (0, 0))) := g2
  clear z27 a28 n1 g1 n2 g2
  go_wp2
  refine HK27.out _ _ ?_
  clear HK27 K27 O27
  refine cut5 rfl rfl rfl rfl rfl ?_
  intro K28 O28 HK28
  go_wp2_with fail
  refine (just_any (some ⟨w28.heap.size, 0, none⟩) 2 2 _).mono ?_
  rintro e w29 ⟨⟨b87, rfl, n1, g1⟩, d29⟩
  have a29 : Below w28.heap.size w28 w29 := (Below.alloc (Below.refl _ w28) (Nat.le_refl _) _).trans (d29.mono (by simp))
  have S87 : Hid (w29.heap[w28.heap.size]? = some (.cells #[.func (.func 35) #[] #[], .func (.func 35) #[] #[]] 74 (0, 0))) := (d29.block _ (by simp)).trans (heap_alloc_new _ _)
  have Y87 : Hid (w.heap.size < w28.heap.size) := z28
  have n1 : w28.heap.size ≤ b87 := by have h9 := n1; rw [World.size_alloc] at h9; omega
  have C29 : Hid (Below w28.heap.size w28 w29) := a29
  have z29 : w.heap.size < w29.heap.size := Nat.lt_of_lt_of_le z28 a29.size
  have N87 : Hid (w.heap.size < b87) := Nat.lt_of_lt_of_le z28 n1
  have G87 : Hid (w29.heap[b87]? = some (.cells #[.slice (some ⟨w28.heap.size, 0, none⟩) 2 2] 93 (0, 0))) := g1
  clear z28 a29 n1 g1 d29
  go_wp2
  refine HK28.out _ _ ?_
  clear HK28 K28 O28
  refine cut5 rfl rfl rfl rfl rfl ?_
  intro K29 O29 HK29
  go_wp2_with fail
  refine (just_any (some ⟨w29.heap.size, 0, none⟩) 2 2 _).mono ?_
  rintro e w30 ⟨⟨b88, rfl, n1, g1⟩, d30⟩
  have a30 : Below w29.heap.size w29 w30 := (Below.alloc (Below.refl _ w29) (Nat.le_refl _) _).trans (d30.mono (by simp))
  have S88 : Hid (w30.heap[w29.heap.size]? = some (.cells #[.func (.func 35) #[] #[], .func (.func 35) #[] #[]] 74 (0, 0))) := (d30.block _ (by simp)).trans (heap_alloc_new _ _)
  have Y88 : Hid (w.heap.size < w29.heap.size) := z29
  have n1 : w29.heap.size ≤ b88 := by have h9 := n1; rw [World.size_alloc] at h9; omega
  have C30 : Hid (Below w29.heap.size w29 w30) := a30
  have z30 : w.heap.size < w30.heap.size := Nat.lt_of_lt_of_le z29 a30.size
  have N88 : Hid (w.heap.size < b88) := Nat.lt_of_lt_of_le z29 n1
  have G88 : Hid (w30.heap[b88]? = some (.cells #[.slice (some ⟨w29.heap.size, 0, none⟩) 2 2] 93 (0, 0))) := g1
  clear z29 a30 n1 g1 d30
  go_wp2
  refine HK29.out _ _ ?_
  clear HK29 K29 O29
  refine cut4 rfl rfl rfl rfl ?_
  intro K30 O30 HK30
  go_wp2_with fail
  refine (just_any (some ⟨w30.heap.size, 0, none⟩) 1 1 _).mono ?_
  rintro e w31 ⟨⟨b89, rfl, n1, g1⟩, d31⟩
  have a31 : Below w30.heap.size w30 w31 := (Below.alloc (Below.refl _ w30) (Nat.le_refl _) _).trans (d31.mono (by simp))
  have S89 : Hid (w31.heap[w30.heap.size]? = some (.cells #[.func (.func 35) #[] #[]] 74 (0, 0))) := (d31.block _ (by simp)).trans (heap_alloc_new _ _)
  have Y89 : Hid (w.heap.size < w30.heap.size) := z30
  have n1 : w30.heap.size ≤ b89 := by have h9 := n1; rw [World.size_alloc] at h9; omega
  have C31 : Hid (Below w30.heap.size w30 w31) := a31
  have z31 : w.heap.size < w31.heap.size := Nat.lt_of_lt_of_le z30 a31.size
  have N89 : Hid (w.heap.size < b89) := Nat.lt_of_lt_of_le z30 n1
  have G89 : Hid (w31.heap[b89]? = some (.cells #[.slice (some ⟨w30.heap.size, 0, none⟩) 1 1] 93 (0, 0))) := g1
  clear z30 a31 n1 g1 d31
  go_wp2
  refine HK30.out _ _ ?_
  clear HK30 K30 O30
  refine cut4 rfl rfl rfl rfl ?_
  intro K31 O31 HK31
  go_wp2_with fail
  refine (just_any (some ⟨w31.heap.size, 0, none⟩) 1 1 _).mono ?_
  rintro e w32 ⟨⟨b90, rfl, n1, g1⟩, d32⟩
  have a32 : Below w31.heap.size w31 w32 := (Below.alloc (Below.refl _ w31) (Nat.le_refl _) _).trans (d32.mono (by simp))
  have S90 : Hid (w32.heap[w31.heap.size]? = some (.cells #[.func (.func 60) #[] #[]] 74 (0, 0))) := (d32.block _ (by simp)).trans (heap_alloc_new _ _)
  have Y90 : Hid (w.heap.size < w31.heap.size) := z31
  have n1 : w31.heap.size ≤ b90 := by have h9 := n1; rw [World.size_alloc] at h9; omega
  have C32 : Hid (Below w31.heap.size w31 w32) := a32
  have z32 : w.heap.size < w32.heap.size := Nat.lt_of_lt_of_le z31 a32.size
  have N90 : Hid (w.heap.size < b90) := Nat.lt_of_lt_of_le z31 n1
  have G90 : Hid (w32.heap[b90]? = some (.cells #[.slice (some ⟨w31.heap.size, 0, none⟩) 1 1] 93 (0, 0))) := g1
  clear z31 a32 n1 g1 d32
  go_wp2
  refine HK31.out _ _ ?_
  clear HK31 K31 O31
  refine cut5 rfl rfl rfl rfl rfl ?_
  intro K32 O32 HK32
  go_wp2_with fail
  refine (just_any (some ⟨w32.heap.size, 0, none⟩) 2 2 _).mono ?_
  rintro e w33 ⟨⟨b91, rfl, n1, g1⟩, d33⟩
  have a33 : Below w32.heap.size w32 w33 := (Below.alloc (Below.refl _ w32) (Nat.le_refl _) _).trans (d33.mono (by simp))
  have S91 : Hid (w33.heap[w32.heap.size]? = some (.cells #[.func (.func 60) #[] #[], .func (.func 52) #[] #[]] 74 (0, 0))) := (d33.block _ (by simp)).trans (heap_alloc_new _ _)
  have Y91 : Hid (w.heap.size < w32.heap.size) := z32
  have n1 : w32.heap.size ≤ b91 := by have h9 := n1; rw [World.size_alloc] at h9; omega
  have C33 : Hid (Below w32.heap.size w32 w33) := a33
  have z33 : w.heap.size < w33.heap.size := Nat.lt_of_lt_of_le z32 a33.size
  have N91 : Hid (w.heap.size < b91) := Nat.lt_of_lt_of_le z32 n1
  have G91 : Hid (w33.heap[b91]? = some (.cells #[.slice (some ⟨w32.heap.size, 0, none⟩) 2 2] 93 (0, 0))) := g1
  clear z32 a33 n1 g1 d33
  go_wp2
  refine HK32.out _ _ ?_
  clear HK32 K32 O32
  refine cut1 rfl ?_
  intro KA OA HKA
  go_wp2
  refine HKA.out _ _ ?_
  clear HKA KA OA
  obtain ⟨tab, htab⟩ : ∃ tab : Array Value, tab = #[.nilFunc, .nilFunc, .nilFunc, .nilFunc, .nilFunc, .nilFunc, .nilFunc, .nilFunc, .nilFunc, .nilFunc, .nilFunc, .nilFunc, .nilFunc, .nilFunc, .nilFunc, .nilFunc, .nilFunc, .nilFunc, .nilFunc, .nilFunc, .nilFunc, .nilFunc, .nilFunc, .nilFunc, .func (.func 63) #[] #[], .func (.func 85) #[] #[.pointer (some ⟨b12, 0, none⟩), .pointer (some ⟨c12, 0, none⟩)], .func (.func 65) #[] #[], .func (.func 77) #[] #[.pointer (some ⟨b13, 0, none⟩)], .func (.func 65) #[] #[], .func (.func 87) #[] #[.pointer (some ⟨b14, 0, none⟩)], .func (.func 65) #[] #[], .func (.func 77) #[] #[.pointer (some ⟨b15, 0, none⟩)], .nilFunc, .nilFunc, .func (.func 68) #[] #[], .func (.func 77) #[] #[.pointer (some ⟨b17, 0, none⟩)], .func (.func 63) #[] #[], .func (.func 77) #[] #[.pointer (some ⟨b18, 0, none⟩)], .func (.func 63) #[] #[], .func (.func 88) #[] #[.pointer (some ⟨b19, 0, none⟩)], .func (.func 65) #[] #[], .func (.func 87) #[] #[.pointer (some ⟨b20, 0, none⟩)], .nilFunc, .nilFunc, .nilFunc, .nilFunc, .nilFunc, .nilFunc, .nilFunc, .nilFunc, .nilFunc, .nilFunc, .nilFunc, .nilFunc, .nilFunc, .nilFunc, .nilFunc, .nilFunc, .nilFunc, .nilFunc, .nilFunc, .nilFunc, .nilFunc, .nilFunc, .nilFunc, .nilFunc, .nilFunc, .nilFunc, .nilFunc, .nilFunc, .nilFunc, .nilFunc, .nilFunc, .nilFunc, .nilFunc, .nilFunc, .nilFunc, .nilFunc, .nilFunc, .nilFunc, .nilFunc, .nilFunc, .nilFunc, .nilFunc, .nilFunc, .nilFunc, .nilFunc, .nilFunc, .nilFunc, .nilFunc, .nilFunc, .nilFunc, .nilFunc, .nilFunc, .nilFunc, .nilFunc, .nilFunc, .nilFunc, .nilFunc, .nilFunc, .nilFunc, .nilFunc, .nilFunc, .nilFunc, .nilFunc, .nilFunc, .nilFunc, .nilFunc, .nilFunc, .nilFunc, .nilFunc, .nilFunc, .nilFunc, .nilFunc, .nilFunc, .nilFunc, .nilFunc, .nilFunc, .nilFunc, .nilFunc, .func (.func 67) #[] #[], .func (.func 77) #[] #[.pointer (some ⟨b60, 0, none⟩)], .nilFunc, .nilFunc, .func (.func 67) #[] #[], .func (.func 77) #[] #[.pointer (some ⟨b62, 0, none⟩)], .nilFunc, .nilFunc, .nilFunc, .nilFunc, .nilFunc, .nilFunc, .nilFunc, .nilFunc, .nilFunc, .nilFunc, .nilFunc, .nilFunc, .nilFunc, .nilFunc, .func (.func 67) #[] #[], .func (.func 77) #[] #[.pointer (some ⟨b70, 0, none⟩)], .func (.func 70) #[] #[], .func (.func 71) #[] #[], .func (.func 68) #[] #[], .func (.func 77) #[] #[.pointer (some ⟨b72, 0, none⟩)], .func (.func 63) #[] #[], .func (.func 77) #[] #[.pointer (some ⟨b73, 0, none⟩)], .func (.func 63) #[] #[], .func (.func 85) #[] #[.pointer (some ⟨b74, 0, none⟩), .pointer (some ⟨c74, 0, none⟩)], .func (.func 65) #[] #[], .func (.func 87) #[] #[.pointer (some ⟨b75, 0, none⟩)], .func (.func 67) #[] #[], .func (.func 77) #[] #[.pointer (some ⟨b76, 0, none⟩)], .func (.func 65) #[] #[], .func (.func 77) #[] #[.pointer (some ⟨b77, 0, none⟩)], .func (.func 67) #[] #[], .func (.func 77) #[] #[.pointer (some ⟨b78, 0, none⟩)], .func (.func 65) #[] #[], .func (.func 77) #[] #[.pointer (some ⟨b79, 0, none⟩)], .func (.func 67) #[] #[], .func (.func 77) #[] #[.pointer (some ⟨b80, 0, none⟩)], .func (.func 65) #[] #[], .func (.func 89) #[] #[.pointer (some ⟨b81, 0, none⟩), .pointer (some ⟨c81, 0, none⟩)], .func (.func 67) #[] #[], .func (.func 77) #[] #[.pointer (some ⟨b82, 0, none⟩)], .func (.func 73) #[] #[], .func (.func 90) #[] #[.pointer (some ⟨b83, 0, none⟩), .pointer (some ⟨c83, 0, none⟩)], .func (.func 65) #[] #[], .func (.func 77) #[] #[.pointer (some ⟨b84, 0, none⟩)], .func (.func 65) #[] #[], .func (.func 77) #[] #[.pointer (some ⟨b85, 0, none⟩)], .func (.func 65) #[] #[], .func (.func 90) #[] #[.pointer (some ⟨b86, 0, none⟩), .pointer (some ⟨c86, 0, none⟩)], .func (.func 65) #[] #[], .func (.func 77) #[] #[.pointer (some ⟨b87, 0, none⟩)], .func (.func 75) #[] #[], .func (.func 77) #[] #[.pointer (some ⟨b88, 0, none⟩)], .func (.func 76) #[] #[], .func (.func 77) #[] #[.pointer (some ⟨b89, 0, none⟩)], .func (.func 67) #[] #[], .func (.func 77) #[] #[.pointer (some ⟨b90, 0, none⟩)], .func (.func 67) #[] #[], .func (.func 77) #[] #[.pointer (some ⟨b91, 0, none⟩)]] := ⟨_, rfl⟩
  refine wpList_val (v := .agg tab) rfl (by rw [htab]; kernel_rfl) ?_
  have hR : Below w1.heap.size w1 w33 := Below.step (Below.step (Below.step (Below.step (Below.step (Below.step (Below.step (Below.step (Below.step (Below.step (Below.step (Below.step (Below.step (Below.step (Below.step (Below.step (Below.step (Below.step (Below.step (Below.step (Below.step (Below.step (Below.step (Below.step (Below.step (Below.step (Below.step (Below.step (Below.step (Below.step (Below.step (C2.out) C3.out) C4.out) C5.out) C6.out) C7.out) C8.out) C9.out) C10.out) C11.out) C12.out) C13.out) C14.out) C15.out) C16.out) C17.out) C18.out) C19.out) C20.out) C21.out) C22.out) C23.out) C24.out) C25.out) C26.out) C27.out) C28.out) C29.out) C30.out) C31.out) C32.out) C33.out
  have hZ : w33.heap[w.heap.size]? = some (.cells Try.zeroCells56 56 (0, 0)) := (hR.block _ (lt_of_block ZB.out)).trans ZB.out
  have hst : (storeVar 56 ⟨w.heap.size, 0, none⟩ (.agg tab)).run Try.prog w33 = .ok () (w33.setRow w.heap.size tab) := by
    rw [htab]
    exact run_storeVar_row _ _ _ _ _ _ hZ (by kernel_rfl) (by kernel_rfl) (by kernel_rfl)
  refine wpList_skip (w' := w33.setRow w.heap.size tab) rfl (exec_store (b := w.heap.size) (v := .agg tab) rfl (by rfl) (by rfl) hst) ?_
  obtain ⟨wF, hwF⟩ : ∃ wF, w33.setRow w.heap.size tab = wF := ⟨_, rfl⟩
  have hF0 : wF.heap[w.heap.size]? = some (.cells tab 56 (0, 0)) := by rw [← hwF]; exact setRow_same hZ
  have hFB : Below w.heap.size w wF := by rw [← hwF]; exact setRow_below (b1.trans (hR.mono b1.size)) (Nat.le_refl _)
  have T33 : ∀ j o, w33.heap[j]? = some o → w.heap.size < j → wF.heap[j]? = some o := by
    intro j o h hj
    rw [← hwF]
    exact (setRow_other (by omega)).trans h
  have T32 : ∀ j o, w32.heap[j]? = some o → w.heap.size < j → wF.heap[j]? = some o := fun j o h hj => T33 j o ((C33.out.block j (lt_of_block h)).trans h) hj
  have T31 : ∀ j o, w31.heap[j]? = some o → w.heap.size < j → wF.heap[j]? = some o := fun j o h hj => T32 j o ((C32.out.block j (lt_of_block h)).trans h) hj
  have T30 : ∀ j o, w30.heap[j]? = some o → w.heap.size < j → wF.heap[j]? = some o := fun j o h hj => T31 j o ((C31.out.block j (lt_of_block h)).trans h) hj
  have T29 : ∀ j o, w29.heap[j]? = some o → w.heap.size < j → wF.heap[j]? = some o := fun j o h hj => T30 j o ((C30.out.block j (lt_of_block h)).trans h) hj
  have T28 : ∀ j o, w28.heap[j]? = some o → w.heap.size < j → wF.heap[j]? = some o := fun j o h hj => T29 j o ((C29.out.block j (lt_of_block h)).trans h) hj
  have T27 : ∀ j o, w27.heap[j]? = some o → w.heap.size < j → wF.heap[j]? = some o := fun j o h hj => T28 j o ((C28.out.block j (lt_of_block h)).trans h) hj
  have T26 : ∀ j o, w26.heap[j]? = some o → w.heap.size < j → wF.heap[j]? = some o := fun j o h hj => T27 j o ((C27.out.block j (lt_of_block h)).trans h) hj
  have T25 : ∀ j o, w25.heap[j]? = some o → w.heap.size < j → wF.heap[j]? = some o := fun j o h hj => T26 j o ((C26.out.block j (lt_of_block h)).trans h) hj
  have T24 : ∀ j o, w24.heap[j]? = some o → w.heap.size < j → wF.heap[j]? = some o := fun j o h hj => T25 j o ((C25.out.block j (lt_of_block h)).trans h) hj
  have T23 : ∀ j o, w23.heap[j]? = some o → w.heap.size < j → wF.heap[j]? = some o := fun j o h hj => T24 j o ((C24.out.block j (lt_of_block h)).trans h) hj
  have T22 : ∀ j o, w22.heap[j]? = some o → w.heap.size < j → wF.heap[j]? = some o := fun j o h hj => T23 j o ((C23.out.block j (lt_of_block h)).trans h) hj
  have T21 : ∀ j o, w21.heap[j]? = some o → w.heap.size < j → wF.heap[j]? = some o := fun j o h hj => T22 j o ((C22.out.block j (lt_of_block h)).trans h) hj
  have T20 : ∀ j o, w20.heap[j]? = some o → w.heap.size < j → wF.heap[j]? = some o := fun j o h hj => T21 j o ((C21.out.block j (lt_of_block h)).trans h) hj
  have T19 : ∀ j o, w19.heap[j]? = some o → w.heap.size < j → wF.heap[j]? = some o := fun j o h hj => T20 j o ((C20.out.block j (lt_of_block h)).trans h) hj
  have T18 : ∀ j o, w18.heap[j]? = some o → w.heap.size < j → wF.heap[j]? = some o := fun j o h hj => T19 j o ((C19.out.block j (lt_of_block h)).trans h) hj
  have T17 : ∀ j o, w17.heap[j]? = some o → w.heap.size < j → wF.heap[j]? = some o := fun j o h hj => T18 j o ((C18.out.block j (lt_of_block h)).trans h) hj
  have T16 : ∀ j o, w16.heap[j]? = some o → w.heap.size < j → wF.heap[j]? = some o := fun j o h hj => T17 j o ((C17.out.block j (lt_of_block h)).trans h) hj
  have T15 : ∀ j o, w15.heap[j]? = some o → w.heap.size < j → wF.heap[j]? = some o := fun j o h hj => T16 j o ((C16.out.block j (lt_of_block h)).trans h) hj
  have T14 : ∀ j o, w14.heap[j]? = some o → w.heap.size < j → wF.heap[j]? = some o := fun j o h hj => T15 j o ((C15.out.block j (lt_of_block h)).trans h) hj
  have T13 : ∀ j o, w13.heap[j]? = some o → w.heap.size < j → wF.heap[j]? = some o := fun j o h hj => T14 j o ((C14.out.block j (lt_of_block h)).trans h) hj
  have T12 : ∀ j o, w12.heap[j]? = some o → w.heap.size < j → wF.heap[j]? = some o := fun j o h hj => T13 j o ((C13.out.block j (lt_of_block h)).trans h) hj
  have T11 : ∀ j o, w11.heap[j]? = some o → w.heap.size < j → wF.heap[j]? = some o := fun j o h hj => T12 j o ((C12.out.block j (lt_of_block h)).trans h) hj
  have T10 : ∀ j o, w10.heap[j]? = some o → w.heap.size < j → wF.heap[j]? = some o := fun j o h hj => T11 j o ((C11.out.block j (lt_of_block h)).trans h) hj
  have T9 : ∀ j o, w9.heap[j]? = some o → w.heap.size < j → wF.heap[j]? = some o := fun j o h hj => T10 j o ((C10.out.block j (lt_of_block h)).trans h) hj
  have T8 : ∀ j o, w8.heap[j]? = some o → w.heap.size < j → wF.heap[j]? = some o := fun j o h hj => T9 j o ((C9.out.block j (lt_of_block h)).trans h) hj
  have T7 : ∀ j o, w7.heap[j]? = some o → w.heap.size < j → wF.heap[j]? = some o := fun j o h hj => T8 j o ((C8.out.block j (lt_of_block h)).trans h) hj
  have T6 : ∀ j o, w6.heap[j]? = some o → w.heap.size < j → wF.heap[j]? = some o := fun j o h hj => T7 j o ((C7.out.block j (lt_of_block h)).trans h) hj
  have T5 : ∀ j o, w5.heap[j]? = some o → w.heap.size < j → wF.heap[j]? = some o := fun j o h hj => T6 j o ((C6.out.block j (lt_of_block h)).trans h) hj
  have T4 : ∀ j o, w4.heap[j]? = some o → w.heap.size < j → wF.heap[j]? = some o := fun j o h hj => T5 j o ((C5.out.block j (lt_of_block h)).trans h) hj
  have T3 : ∀ j o, w3.heap[j]? = some o → w.heap.size < j → wF.heap[j]? = some o := fun j o h hj => T4 j o ((C4.out.block j (lt_of_block h)).trans h) hj
  have T2 : ∀ j o, w2.heap[j]? = some o → w.heap.size < j → wF.heap[j]? = some o := fun j o h hj => T3 j o ((C3.out.block j (lt_of_block h)).trans h) hj
  have T1 : ∀ j o, w1.heap[j]? = some o → w.heap.size < j → wF.heap[j]? = some o := fun j o h hj => T2 j o ((C2.out.block j (lt_of_block h)).trans h) hj
  have HT : Hid (∀ W : World, (∀ (j : Nat) (o : Obj), wF.heap[j]? = some o → w.heap.size < j → W.heap[j]? = some o) → TabOk W tab codeOwn codeKids) := by
    intro W hW
    have T33 := fun (j : Nat) (o : Obj) h (hj : w.heap.size < j) => hW j o (T33 j o h hj) hj
    have T32 := fun (j : Nat) (o : Obj) h (hj : w.heap.size < j) => hW j o (T32 j o h hj) hj
    have T31 := fun (j : Nat) (o : Obj) h (hj : w.heap.size < j) => hW j o (T31 j o h hj) hj
    have T30 := fun (j : Nat) (o : Obj) h (hj : w.heap.size < j) => hW j o (T30 j o h hj) hj
    have T29 := fun (j : Nat) (o : Obj) h (hj : w.heap.size < j) => hW j o (T29 j o h hj) hj
    have T28 := fun (j : Nat) (o : Obj) h (hj : w.heap.size < j) => hW j o (T28 j o h hj) hj
    have T27 := fun (j : Nat) (o : Obj) h (hj : w.heap.size < j) => hW j o (T27 j o h hj) hj
    have T26 := fun (j : Nat) (o : Obj) h (hj : w.heap.size < j) => hW j o (T26 j o h hj) hj
    have T25 := fun (j : Nat) (o : Obj) h (hj : w.heap.size < j) => hW j o (T25 j o h hj) hj
    have T24 := fun (j : Nat) (o : Obj) h (hj : w.heap.size < j) => hW j o (T24 j o h hj) hj
    have T23 := fun (j : Nat) (o : Obj) h (hj : w.heap.size < j) => hW j o (T23 j o h hj) hj
    have T22 := fun (j : Nat) (o : Obj) h (hj : w.heap.size < j) => hW j o (T22 j o h hj) hj
    have T21 := fun (j : Nat) (o : Obj) h (hj : w.heap.size < j) => hW j o (T21 j o h hj) hj
    have T20 := fun (j : Nat) (o : Obj) h (hj : w.heap.size < j) => hW j o (T20 j o h hj) hj
    have T19 := fun (j : Nat) (o : Obj) h (hj : w.heap.size < j) => hW j o (T19 j o h hj) hj
    have T18 := fun (j : Nat) (o : Obj) h (hj : w.heap.size < j) => hW j o (T18 j o h hj) hj
    have T17 := fun (j : Nat) (o : Obj) h (hj : w.heap.size < j) => hW j o (T17 j o h hj) hj
    have T16 := fun (j : Nat) (o : Obj) h (hj : w.heap.size < j) => hW j o (T16 j o h hj) hj
    have T15 := fun (j : Nat) (o : Obj) h (hj : w.heap.size < j) => hW j o (T15 j o h hj) hj
    have T14 := fun (j : Nat) (o : Obj) h (hj : w.heap.size < j) => hW j o (T14 j o h hj) hj
    have T13 := fun (j : Nat) (o : Obj) h (hj : w.heap.size < j) => hW j o (T13 j o h hj) hj
    have T12 := fun (j : Nat) (o : Obj) h (hj : w.heap.size < j) => hW j o (T12 j o h hj) hj
    have T11 := fun (j : Nat) (o : Obj) h (hj : w.heap.size < j) => hW j o (T11 j o h hj) hj
    have T10 := fun (j : Nat) (o : Obj) h (hj : w.heap.size < j) => hW j o (T10 j o h hj) hj
    have T9 := fun (j : Nat) (o : Obj) h (hj : w.heap.size < j) => hW j o (T9 j o h hj) hj
    have T8 := fun (j : Nat) (o : Obj) h (hj : w.heap.size < j) => hW j o (T8 j o h hj) hj
    have T7 := fun (j : Nat) (o : Obj) h (hj : w.heap.size < j) => hW j o (T7 j o h hj) hj
    have T6 := fun (j : Nat) (o : Obj) h (hj : w.heap.size < j) => hW j o (T6 j o h hj) hj
    have T5 := fun (j : Nat) (o : Obj) h (hj : w.heap.size < j) => hW j o (T5 j o h hj) hj
    have T4 := fun (j : Nat) (o : Obj) h (hj : w.heap.size < j) => hW j o (T4 j o h hj) hj
    have T3 := fun (j : Nat) (o : Obj) h (hj : w.heap.size < j) => hW j o (T3 j o h hj) hj
    have T2 := fun (j : Nat) (o : Obj) h (hj : w.heap.size < j) => hW j o (T2 j o h hj) hj
    have T1 := fun (j : Nat) (o : Obj) h (hj : w.heap.size < j) => hW j o (T1 j o h hj) hj
    subst htab
    refine ⟨fun i hi h => ?_, fun i p hi h => ?_⟩
    · match i, hi, h with
      | 0, _, _ => exact ⟨rfl, rfl⟩
      | 1, _, _ => exact ⟨rfl, rfl⟩
      | 2, _, _ => exact ⟨rfl, rfl⟩
      | 3, _, _ => exact ⟨rfl, rfl⟩
      | 4, _, _ => exact ⟨rfl, rfl⟩
      | 5, _, _ => exact ⟨rfl, rfl⟩
      | 6, _, _ => exact ⟨rfl, rfl⟩
      | 7, _, _ => exact ⟨rfl, rfl⟩
      | 8, _, _ => exact ⟨rfl, rfl⟩
      | 9, _, _ => exact ⟨rfl, rfl⟩
      | 10, _, _ => exact ⟨rfl, rfl⟩
      | 11, _, _ => exact ⟨rfl, rfl⟩
      | 12, _, h => cases h
      | 13, _, h => cases h
      | 14, _, h => cases h
      | 15, _, h => cases h
      | 16, _, _ => exact ⟨rfl, rfl⟩
      | 17, _, h => cases h
      | 18, _, h => cases h
      | 19, _, h => cases h
      | 20, _, h => cases h
      | 21, _, _ => exact ⟨rfl, rfl⟩
      | 22, _, _ => exact ⟨rfl, rfl⟩
      | 23, _, _ => exact ⟨rfl, rfl⟩
      | 24, _, _ => exact ⟨rfl, rfl⟩
      | 25, _, _ => exact ⟨rfl, rfl⟩
      | 26, _, _ => exact ⟨rfl, rfl⟩
      | 27, _, _ => exact ⟨rfl, rfl⟩
      | 28, _, _ => exact ⟨rfl, rfl⟩
      | 29, _, _ => exact ⟨rfl, rfl⟩
      | 30, _, _ => exact ⟨rfl, rfl⟩
      | 31, _, _ => exact ⟨rfl, rfl⟩
      | 32, _, _ => exact ⟨rfl, rfl⟩
      | 33, _, _ => exact ⟨rfl, rfl⟩
      | 34, _, _ => exact ⟨rfl, rfl⟩
      | 35, _, _ => exact ⟨rfl, rfl⟩
      | 36, _, _ => exact ⟨rfl, rfl⟩
      | 37, _, _ => exact ⟨rfl, rfl⟩
      | 38, _, _ => exact ⟨rfl, rfl⟩
      | 39, _, _ => exact ⟨rfl, rfl⟩
      | 40, _, _ => exact ⟨rfl, rfl⟩
      | 41, _, _ => exact ⟨rfl, rfl⟩
      | 42, _, _ => exact ⟨rfl, rfl⟩
      | 43, _, _ => exact ⟨rfl, rfl⟩
      | 44, _, _ => exact ⟨rfl, rfl⟩
      | 45, _, _ => exact ⟨rfl, rfl⟩
      | 46, _, _ => exact ⟨rfl, rfl⟩
      | 47, _, _ => exact ⟨rfl, rfl⟩
      | 48, _, _ => exact ⟨rfl, rfl⟩
      | 49, _, _ => exact ⟨rfl, rfl⟩
      | 50, _, _ => exact ⟨rfl, rfl⟩
      | 51, _, _ => exact ⟨rfl, rfl⟩
      | 52, _, _ => exact ⟨rfl, rfl⟩
      | 53, _, _ => exact ⟨rfl, rfl⟩
      | 54, _, _ => exact ⟨rfl, rfl⟩
      | 55, _, _ => exact ⟨rfl, rfl⟩
      | 56, _, _ => exact ⟨rfl, rfl⟩
      | 57, _, _ => exact ⟨rfl, rfl⟩
      | 58, _, _ => exact ⟨rfl, rfl⟩
      | 59, _, _ => exact ⟨rfl, rfl⟩
      | 60, _, h => cases h
      | 61, _, _ => exact ⟨rfl, rfl⟩
      | 62, _, h => cases h
      | 63, _, _ => exact ⟨rfl, rfl⟩
      | 64, _, _ => exact ⟨rfl, rfl⟩
      | 65, _, _ => exact ⟨rfl, rfl⟩
      | 66, _, _ => exact ⟨rfl, rfl⟩
      | 67, _, _ => exact ⟨rfl, rfl⟩
      | 68, _, _ => exact ⟨rfl, rfl⟩
      | 69, _, _ => exact ⟨rfl, rfl⟩
      | 70, _, h => cases h
      | 71, _, h => cases h
      | 72, _, h => cases h
      | 73, _, h => cases h
      | 74, _, h => cases h
      | 75, _, h => cases h
      | 76, _, h => cases h
      | 77, _, h => cases h
      | 78, _, h => cases h
      | 79, _, h => cases h
      | 80, _, h => cases h
      | 81, _, h => cases h
      | 82, _, h => cases h
      | 83, _, h => cases h
      | 84, _, h => cases h
      | 85, _, h => cases h
      | 86, _, h => cases h
      | 87, _, h => cases h
      | 88, _, h => cases h
      | 89, _, h => cases h
      | 90, _, h => cases h
      | 91, _, h => cases h
      | n + 92, hi, _ => exact absurd hi (by omega)
    · match i, hi, h with
      | 0, _, h => cases h
      | 1, _, h => cases h
      | 2, _, h => cases h
      | 3, _, h => cases h
      | 4, _, h => cases h
      | 5, _, h => cases h
      | 6, _, h => cases h
      | 7, _, h => cases h
      | 8, _, h => cases h
      | 9, _, h => cases h
      | 10, _, h => cases h
      | 11, _, h => cases h
      | 12, _, h => cases h; exact ⟨_, _, rfl, rfl, isOfTextV _, some_kidsV (T2 _ _ G12.out N12.out) (T2 _ _ G'12.out N'12.out) (isCodeTypeV _)⟩
      | 13, _, h => cases h; exact ⟨_, _, rfl, rfl, isBareV _, just_kidsV (l := 2) rfl (by decide) (T3 _ _ G13.out N13.out) (fits2B (T3 _ _ S13.out Y13.out) (isCodeTypeV _) (isCodeTypeV _))⟩
      | 14, _, h => cases h; exact ⟨_, _, rfl, rfl, isBareV _, notOne_kidsV (T4 _ _ G14.out N14.out) (isCodeTypeV _)⟩
      | 15, _, h => cases h; exact ⟨_, _, rfl, rfl, isBareV _, just_kidsV (l := 0) rfl (by decide) (T7 _ _ G15.out N15.out) (fits0 _)⟩
      | 16, _, h => cases h
      | 17, _, h => cases h; exact ⟨_, _, rfl, rfl, isNumberV _, just_kidsV (l := 0) rfl (by decide) (T8 _ _ G17.out N17.out) (fits0 _)⟩
      | 18, _, h => cases h; exact ⟨_, _, rfl, rfl, isOfTextV _, just_kidsV (l := 0) rfl (by decide) (T9 _ _ G18.out N18.out) (fits0 _)⟩
      | 19, _, h => cases h; exact ⟨_, _, rfl, rfl, isOfTextV _, atMostOne_kidsV (T10 _ _ G19.out N19.out) (isCodePatV _)⟩
      | 20, _, h => cases h; exact ⟨_, _, rfl, rfl, isBareV _, notOne_kidsV (T11 _ _ G20.out N20.out) (isCodePatV _)⟩
      | 21, _, h => cases h
      | 22, _, h => cases h
      | 23, _, h => cases h
      | 24, _, h => cases h
      | 25, _, h => cases h
      | 26, _, h => cases h
      | 27, _, h => cases h
      | 28, _, h => cases h
      | 29, _, h => cases h
      | 30, _, h => cases h
      | 31, _, h => cases h
      | 32, _, h => cases h
      | 33, _, h => cases h
      | 34, _, h => cases h
      | 35, _, h => cases h
      | 36, _, h => cases h
      | 37, _, h => cases h
      | 38, _, h => cases h
      | 39, _, h => cases h
      | 40, _, h => cases h
      | 41, _, h => cases h
      | 42, _, h => cases h
      | 43, _, h => cases h
      | 44, _, h => cases h
      | 45, _, h => cases h
      | 46, _, h => cases h
      | 47, _, h => cases h
      | 48, _, h => cases h
      | 49, _, h => cases h
      | 50, _, h => cases h
      | 51, _, h => cases h
      | 52, _, h => cases h
      | 53, _, h => cases h
      | 54, _, h => cases h
      | 55, _, h => cases h
      | 56, _, h => cases h
      | 57, _, h => cases h
      | 58, _, h => cases h
      | 59, _, h => cases h
      | 60, _, h => cases h; exact ⟨_, _, rfl, rfl, isOfNumberV _, just_kidsV (l := 0) rfl (by decide) (T5 _ _ G60.out N60.out) (fits0 _)⟩
      | 61, _, h => cases h
      | 62, _, h => cases h; exact ⟨_, _, rfl, rfl, isOfNumberV _, just_kidsV (l := 1) rfl (by decide) (T6 _ _ G62.out N62.out) (fits1B (T6 _ _ S62.out Y62.out) (isSchemeV _))⟩
      | 63, _, h => cases h
      | 64, _, h => cases h
      | 65, _, h => cases h
      | 66, _, h => cases h
      | 67, _, h => cases h
      | 68, _, h => cases h
      | 69, _, h => cases h
      | 70, _, h => cases h; exact ⟨_, _, rfl, rfl, isOfNumberV _, just_kidsV (l := 0) rfl (by decide) (T12 _ _ G70.out N70.out) (fits0 _)⟩
      | 71, _, h => cases h; exact ⟨_, _, rfl, rfl, isGivenNumberV _, refV _⟩
      | 72, _, h => cases h; exact ⟨_, _, rfl, rfl, isNumberV _, just_kidsV (l := 0) rfl (by decide) (T13 _ _ G72.out N72.out) (fits0 _)⟩
      | 73, _, h => cases h; exact ⟨_, _, rfl, rfl, isOfTextV _, just_kidsV (l := 0) rfl (by decide) (T14 _ _ G73.out N73.out) (fits0 _)⟩
      | 74, _, h => cases h; exact ⟨_, _, rfl, rfl, isOfTextV _, some_kidsV (T15 _ _ G74.out N74.out) (T15 _ _ G'74.out N'74.out) (isCodeTypeV _)⟩
      | 75, _, h => cases h; exact ⟨_, _, rfl, rfl, isBareV _, notOne_kidsV (T16 _ _ G75.out N75.out) (isCodeV _)⟩
      | 76, _, h => cases h; exact ⟨_, _, rfl, rfl, isOfNumberV _, just_kidsV (l := 2) rfl (by decide) (T17 _ _ G76.out N76.out) (fits2B (T17 _ _ S76.out Y76.out) (isCodeTypeV _) (isCodeV _))⟩
      | 77, _, h => cases h; exact ⟨_, _, rfl, rfl, isBareV _, just_kidsV (l := 2) rfl (by decide) (T18 _ _ G77.out N77.out) (fits2B (T18 _ _ S77.out Y77.out) (isCodeV _) (isCodeV _))⟩
      | 78, _, h => cases h; exact ⟨_, _, rfl, rfl, isOfNumberV _, just_kidsV (l := 1) rfl (by decide) (T19 _ _ G78.out N78.out) (fits1B (T19 _ _ S78.out Y78.out) (isCodeV _))⟩
      | 79, _, h => cases h; exact ⟨_, _, rfl, rfl, isBareV _, just_kidsV (l := 2) rfl (by decide) (T20 _ _ G79.out N79.out) (fits2B (T20 _ _ S79.out Y79.out) (isCodeV _) (isCodeTypeV _))⟩
      | 80, _, h => cases h; exact ⟨_, _, rfl, rfl, isOfNumberV _, just_kidsV (l := 3) rfl (by decide) (T21 _ _ G80.out N80.out) (fits3B (T21 _ _ S80.out Y80.out) (isSchemeV _) (isCodeV _) (isCodeV _))⟩
      | 81, _, h => cases h; exact ⟨_, _, rfl, rfl, isBareV _, lastApart_kidsV (T23 _ _ G81.out N81.out) (T23 _ _ G'81.out N'81.out) (kind_fitV (T22 _ _ GQ.out NQ.out)) (isCodeV _)⟩
      | 82, _, h => cases h; exact ⟨_, _, rfl, rfl, isOfNumberV _, just_kidsV (l := 2) rfl (by decide) (T24 _ _ G82.out N82.out) (fits2B (T24 _ _ S82.out Y82.out) (isSchemeV _) (isCodeV _))⟩
      | 83, _, h => cases h; exact ⟨_, _, rfl, rfl, isFailureV _, firstApart_kidsV (T25 _ _ G83.out N83.out) (T25 _ _ G'83.out N'83.out) (isCodeV _) (kind_fitV (T1 _ _ GR.out NR.out))⟩
      | 84, _, h => cases h; exact ⟨_, _, rfl, rfl, isBareV _, just_kidsV (l := 2) rfl (by decide) (T26 _ _ G84.out N84.out) (fits2B (T26 _ _ S84.out Y84.out) (isCodePatV _) (isCodeV _))⟩
      | 85, _, h => cases h; exact ⟨_, _, rfl, rfl, isBareV _, just_kidsV (l := 2) rfl (by decide) (T27 _ _ G85.out N85.out) (fits2B (T27 _ _ S85.out Y85.out) (isCodeTypeV _) (isCodeV _))⟩
      | 86, _, h => cases h; exact ⟨_, _, rfl, rfl, isBareV _, firstApart_kidsV (T28 _ _ G86.out N86.out) (T28 _ _ G'86.out N'86.out) (isCodeV _) (kind_fitV (T1 _ _ GR.out NR.out))⟩
      | 87, _, h => cases h; exact ⟨_, _, rfl, rfl, isBareV _, just_kidsV (l := 2) rfl (by decide) (T29 _ _ G87.out N87.out) (fits2B (T29 _ _ S87.out Y87.out) (isCodeV _) (isCodeV _))⟩
      | 88, _, h => cases h; exact ⟨_, _, rfl, rfl, isBinaryV _, just_kidsV (l := 2) rfl (by decide) (T30 _ _ G88.out N88.out) (fits2B (T30 _ _ S88.out Y88.out) (isCodeV _) (isCodeV _))⟩
      | 89, _, h => cases h; exact ⟨_, _, rfl, rfl, isUnaryV _, just_kidsV (l := 1) rfl (by decide) (T31 _ _ G89.out N89.out) (fits1B (T31 _ _ S89.out Y89.out) (isCodeV _))⟩
      | 90, _, h => cases h; exact ⟨_, _, rfl, rfl, isOfNumberV _, just_kidsV (l := 1) rfl (by decide) (T32 _ _ G90.out N90.out) (fits1B (T32 _ _ S90.out Y90.out) (isCodeTypeV _))⟩
      | 91, _, h => cases h; exact ⟨_, _, rfl, rfl, isOfNumberV _, just_kidsV (l := 2) rfl (by decide) (T33 _ _ G91.out N91.out) (fits2B (T33 _ _ S91.out Y91.out) (isCodeTypeV _) (isCodePatV _))⟩
      | n + 92, hi, _ => exact absurd hi (by omega)
  have hts : tab.size = 184 := by rw [htab]; rfl
  have hld : (loadVar 56 ⟨w.heap.size, 0, none⟩).run Try.prog wF = .ok (.agg tab) wF := run_loadVar_row _ _ _ _ _ _ _ hF0 Try.underlying56 rfl (by rw [hts]; kernel_rfl)
  rw [hwF]
  refine wpList_nil ?_
  refine HKR _ _ ?_
  clear HKR hst hR hZ htab hwF
  refine wp_ret ?_
  exact bodyPost_ret (results_cellT rfl _ ⟨w.heap.size, 0, none⟩ rfl _ _ hld) rfl ⟨⟨tab, hts, rfl, HT.out⟩, hFB⟩

end Go.Proofs.Ytekogjmmfhbinaa

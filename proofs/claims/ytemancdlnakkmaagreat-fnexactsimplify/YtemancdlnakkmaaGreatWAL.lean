import Derived.Test.YtemancdlnakkmaaGreatWAD
import Derived.Test.YtemancdlnakkmaaGreatWAA
import Derived.Test.YtemancdlnakkmaaGreatWAK
import Derived.Lib.Strings
namespace Go.Proofs.YtemancdlnakkmaaGreat
open Go.RowKit
def Strs (w : World) (ao : Option Addr) (L : List ByteArray) : Prop := ∀ i (h : i < L.length), ∃ b o, ao = some ⟨b, o, none⟩ ∧ w.cell? ⟨b, o + i, none⟩ = some (.string L[i])
theorem anyS_true {α : Type} {p : α → Bool} {xs : List α} (k : Nat) (h : k < xs.length) (hf : p xs[k] = true) : xs.any p = true :=
  List.any_eq_true.2 ⟨_, List.getElem_mem h, hf⟩
theorem takeS_any {α : Type} {p : α → Bool} {xs : List α} (k : Nat) (h : k < xs.length) (ht : p xs[k] = false) (ha : (xs.take k).any p = false) : (xs.take (k + 1)).any p = false := by
  rw [List.take_succ_eq_append_getElem h, List.any_append, ha]
  simp [ht]
set_option maxHeartbeats 2000000 in
set_option maxRecDepth 20000 in
theorem in_any (L : List ByteArray) (n : Nat) (HL : Hid (L.length = n)) (hn : n ≤ 1000) (ao : Option Addr) (cap : Nat) (s : ByteArray) (w : World) (hS : Strs w ao L) :
    Calls Tryz.prog 38 #[.slice ao n cap, .string s] w fun e w' => e = .returned (.bool (L.any fun o => o.toList == s.toList)) ∧ w' = w := by
  go_enter Tryz.func38, Tryz.ntmps38
  go_wp2
  go_loop [5] (fun vi => ∃ k : Nat, k ≤ n ∧ vi = .int .i64 (k : Int) ∧ (L.take k).any (fun o => o.toList == s.toList) = false) (fun vi => n - (intOf vi).toNat)
  case atStart => exact ⟨0, Nat.zero_le _, rfl, by simp⟩
  case round =>
    obtain ⟨k, hk, rfl, hall⟩ := hrel
    by_cases hlt : k < n
    · have hltx : k < L.length := by have := HL.out; omega
      obtain ⟨x, hxk⟩ : ∃ x, L[k] = x := ⟨_, rfl⟩
      obtain ⟨b, o, rfl, hc⟩ := hS k hltx
      rw [hxk] at hc
      have HXK : Hid (L[k] = x) := hxk
      clear hxk hS
      cases hq : (x.toList == s.toList)
      · have HA : Hid ((L.take (k + 1)).any (fun o => o.toList == s.toList) = false) := takeS_any k hltx (by rw [HXK.out]; exact hq) hall
        clear hall
        go_wp2
        refine ⟨⟨k + 1, by omega, by push_cast; rfl, HA.out⟩, ?_⟩
        simp [intOf]; omega
      · have HA : Hid (L.any (fun o => o.toList == s.toList) = true) := anyS_true k hltx (by rw [HXK.out]; exact hq)
        clear hall
        go_wp2
        go_ret
        exact ⟨by rw [HA.out]; rfl, rfl⟩
    · have HA : Hid (L.any (fun o => o.toList == s.toList) = false) := by
        have h9 := hall
        rw [List.take_of_length_le (by have := HL.out; omega)] at h9
        exact h9
      clear hall hS
      go_wp2
      go_ret
      exact ⟨by rw [HA.out]; rfl, rfl⟩
def opsB : List ByteArray := [⟨#[58, 61]⟩, ⟨#[61]⟩, ⟨#[60, 62]⟩, ⟨#[60]⟩, ⟨#[60, 61]⟩, ⟨#[62]⟩, ⟨#[62, 61]⟩, ⟨#[94]⟩, ⟨#[43]⟩, ⟨#[45]⟩, ⟨#[42]⟩, ⟨#[47]⟩, ⟨#[37]⟩]
theorem beq_comm' (a b : List UInt8) : (a == b) = (b == a) := by
  by_cases h : a = b
  · subst h; rfl
  · rw [beq_eq_false_iff_ne.2 h, beq_eq_false_iff_ne.2 (fun e => h e.symm)]
theorem ops_same (s : ByteArray) : (opsB.any fun o => o.toList == s.toList) = opsL.any (fun o => s.toList == o) := by
  have e : opsL = opsB.map ByteArray.toList := by kernel_rfl
  rw [e, List.any_map]
  congr 1
  funext o
  exact beq_comm' _ _
set_option maxHeartbeats 2000000 in
set_option maxRecDepth 20000 in
theorem operators_any (w : World) :
    Calls Tryz.prog 39 #[] w fun e w' => ∃ g cap, e = .returned (.slice (some ⟨g, 0, none⟩) 13 cap) ∧ Strs w' (some ⟨g, 0, none⟩) opsB ∧ Below w.heap.size w w' := by
  go_enter Tryz.func39, Tryz.ntmps39
  go_wp2
  go_ret
  refine ⟨_, _, rfl, ?_, (Below.refl _ _).alloc (Nat.le_refl _) _⟩
  intro i h
  refine ⟨_, _, rfl, ?_⟩
  match i, h with
  | 0, _ => simp; rfl
  | 1, _ => simp; rfl
  | 2, _ => simp; rfl
  | 3, _ => simp; rfl
  | 4, _ => simp; rfl
  | 5, _ => simp; rfl
  | 6, _ => simp; rfl
  | 7, _ => simp; rfl
  | 8, _ => simp; rfl
  | 9, _ => simp; rfl
  | 10, _ => simp; rfl
  | 11, _ => simp; rfl
  | 12, _ => simp; rfl
  | n + 13, h => exact absurd h (by simp [opsB])
theorem results_cell7b {fn : Func} {a b : Tmp} (h : fn.results = #[.cell a 51, .tmp b]) (tmps : Array Value) (g : Nat) (hta : tmps[a]?.getD undef = .pointer (some ⟨g, 0, none⟩)) (w : World) (T : Tre) (s : Sl3) (hr : Row7 w g 0 T s) (v : Value) (hv : tmps[b]?.getD undef = v) : (results fn tmps).run Tryz.prog w = .ok (.tuple #[.agg (sv T s).toArray, v]) w := by
  obtain ⟨c0, c1, c2, c3, c4, c5, c6⟩ := hr
  simp only [Nat.zero_add] at c0 c1 c2 c3 c4 c5 c6
  have e : ∀ w, (isAgg 51).run Tryz.prog w = .ok true w := fun w => by kernel_rfl
  have e2 : ∀ w, (sizeOf 51).run Tryz.prog w = .ok 7 w := fun w => by kernel_rfl
  simp [results, h, go_sem, hta, hv, e, e2, c0, c1, c2, c3, c4, c5, c6, sv]
def BinRes (w : World) (o : Option Tre) (e : Ending) (w' : World) : Prop :=
  Below w.heap.size w w' ∧ ∃ T s, e = .returned (.tuple #[.agg (sv T s).toArray, .bool o.isSome]) ∧ (∀ R, o = some R → T = R ∧ s.2.1 = 0 ∧ R.ks = [])
theorem bin_refuse (w : World) (A : Tre) (s : Sl3) (X Y : Obj) :
    Row7 (((w.alloc X).alloc Y).alloc (.cells #[.int .i64 A.nd.kind, .int .i64 A.nd.num, .string A.nd.text, .int .i64 A.nd.kids, .int .i64 A.nd.place, .slice s.1 s.2.1 s.2.2, .bool (knT A)] 51)) (w.heap.size + 1 + 1) 0 A s ∧ Below w.heap.size w (((w.alloc X).alloc Y).alloc (.cells #[.int .i64 A.nd.kind, .int .i64 A.nd.num, .string A.nd.text, .int .i64 A.nd.kids, .int .i64 A.nd.place, .slice s.1 s.2.1 s.2.2, .bool (knT A)] 51)) := by
  have b1 := (Below.refl w.heap.size w).alloc (Nat.le_refl _) X
  have b2 := b1.alloc b1.size Y
  refine ⟨row7_of ?_, b2.alloc b2.size _⟩
  have h9 := heap_alloc_new ((w.alloc X).alloc Y) (.cells #[.int .i64 A.nd.kind, .int .i64 A.nd.num, .string A.nd.text, .int .i64 A.nd.kids, .int .i64 A.nd.place, .slice s.1 s.2.1 s.2.2, .bool (knT A)] 51)
  rw [World.size_alloc, World.size_alloc] at h9
  exact h9
set_option maxRecDepth 20000 in
set_option maxHeartbeats 2000000 in
theorem bin_no (op : ByteArray) (a b : Tre) (s s' : Sl3) (w : World) (h1 : ¬ (op.toList = [94] ∧ a.nd.kind = 73 ∧ b.nd.kind = 73)) (h2 : ¬ (a.nd.kind = 72 ∧ b.nd.kind = 72)) :
    Calls Tryz.prog 60 #[.string op, .agg (sv a s).toArray, .agg (sv b s').toArray] w fun e w' => BinRes w (binT op.toList a b) e w' := by
  have hb : binT op.toList a b = none := by unfold binT; rw [if_neg h1, if_neg h2]
  rw [hb]
  have HR : Hid _ := bin_refuse w a s (.cells (sv a s).toArray 51) (.cells (sv b s').toArray 51)
  obtain ⟨⟨kd, nm, tx, kk, pl⟩, aks⟩ := a
  obtain ⟨⟨md, mn, mx, mk, mp⟩, bks⟩ := b
  obtain ⟨so, sl, sc⟩ := s
  obtain ⟨uo, ul, uc⟩ := s'
  unfold sv at HR ⊢
  simp only [Tre.nd] at h1 h2 HR ⊢
  generalize knT (.mk ⟨kd, nm, tx, kk, pl⟩ aks) = kb at HR ⊢
  clear hb
  by_cases h94 : op.toList = [94]
  · have t94 : (op.toList == [94]) = true := by rw [h94]; rfl
    by_cases h73 : kd = 73
    · subst h73
      have m73 : (md == 73) = false := beq_eq_false_iff_ne.2 (fun h => h1 ⟨h94, rfl, h⟩)
      clear h1 h2 h94
      go_enter Tryz.func60, Tryz.ntmps60
      go_wp2
      refine bodyPost_ret (results_cell7b rfl _ (w.heap.size + 1 + 1) rfl _ _ _ HR.out.1 _ rfl) rfl ?_
      exact ⟨HR.out.2, _, _, rfl, fun R h => by cases h⟩
    · have k73 : (kd == 73) = false := beq_eq_false_iff_ne.2 h73
      by_cases h72 : kd = 72
      · subst h72
        have m72 : (md != 72) = true := by simp; exact fun h => h2 ⟨rfl, h⟩
        clear h1 h2 h94
        go_enter Tryz.func60, Tryz.ntmps60
        go_wp2
        refine bodyPost_ret (results_cell7b rfl _ (w.heap.size + 1 + 1) rfl _ _ _ HR.out.1 _ rfl) rfl ?_
        exact ⟨HR.out.2, _, _, rfl, fun R h => by cases h⟩
      · have k72 : (kd != 72) = true := by simpa using h72
        clear h1 h2 h94
        go_enter Tryz.func60, Tryz.ntmps60
        go_wp2
        refine bodyPost_ret (results_cell7b rfl _ (w.heap.size + 1 + 1) rfl _ _ _ HR.out.1 _ rfl) rfl ?_
        exact ⟨HR.out.2, _, _, rfl, fun R h => by cases h⟩
  · have t94 : (op.toList == [94]) = false := beq_eq_false_iff_ne.2 h94
    by_cases h72 : kd = 72
    · subst h72
      have m72 : (md != 72) = true := by simp; exact fun h => h2 ⟨rfl, h⟩
      clear h1 h2
      go_enter Tryz.func60, Tryz.ntmps60
      go_wp2
      refine bodyPost_ret (results_cell7b rfl _ (w.heap.size + 1 + 1) rfl _ _ _ HR.out.1 _ rfl) rfl ?_
      exact ⟨HR.out.2, _, _, rfl, fun R h => by cases h⟩
    · have k72 : (kd != 72) = true := by simpa using h72
      clear h1 h2
      go_enter Tryz.func60, Tryz.ntmps60
      go_wp2
      refine bodyPost_ret (results_cell7b rfl _ (w.heap.size + 1 + 1) rfl _ _ _ HR.out.1 _ rfl) rfl ?_
      exact ⟨HR.out.2, _, _, rfl, fun R h => by cases h⟩
theorem kn73 (tx : ByteArray) : knT (leafT 73 0 tx) = true := by
  rw [leafT, mkT, knT_eq]
  simp [knStep]
theorem three_at (w : World) (X Y : Obj) : (((w.alloc X).alloc Y).alloc (.cells #[.int .i64 0, .int .i64 0, .string ⟨#[]⟩, .int .i64 0, .int .i64 0, .slice none 0 0, .bool false] 51)).heap[w.heap.size + 1 + 1]? = some (.cells #[.int .i64 0, .int .i64 0, .string ⟨#[]⟩, .int .i64 0, .int .i64 0, .slice none 0 0, .bool false] 51 (0, 0)) ∧ (((w.alloc X).alloc Y).alloc (.cells #[.int .i64 0, .int .i64 0, .string ⟨#[]⟩, .int .i64 0, .int .i64 0, .slice none 0 0, .bool false] 51)).heap.size = w.heap.size + 1 + 1 + 1 ∧ Below w.heap.size w (((w.alloc X).alloc Y).alloc (.cells #[.int .i64 0, .int .i64 0, .string ⟨#[]⟩, .int .i64 0, .int .i64 0, .slice none 0 0, .bool false] 51)) := by
  have b1 := (Below.refl w.heap.size w).alloc (Nat.le_refl _) X
  have b2 := b1.alloc b1.size Y
  refine ⟨?_, by simp, b2.alloc b2.size _⟩
  have h9 := heap_alloc_new ((w.alloc X).alloc Y) (.cells #[.int .i64 0, .int .i64 0, .string ⟨#[]⟩, .int .i64 0, .int .i64 0, .slice none 0 0, .bool false] 51)
  rw [World.size_alloc, World.size_alloc] at h9
  exact h9
set_option maxRecDepth 20000 in
set_option maxHeartbeats 2000000 in
theorem bin_text (op : ByteArray) (a b : Tre) (s s' : Sl3) (w : World) (h1 : op.toList = [94] ∧ a.nd.kind = 73 ∧ b.nd.kind = 73) (h2 : a.nd.text.size ≤ 1048576) (h3 : b.nd.text.size ≤ 1048576) :
    Calls Tryz.prog 60 #[.string op, .agg (sv a s).toArray, .agg (sv b s').toArray] w fun e w' => BinRes w (binT op.toList a b) e w' := by
  have HBT : Hid ((a.nd.text.size + b.nd.text.size ≤ 1000 → binT op.toList a b = some (leafT 73 0 (a.nd.text ++ b.nd.text))) ∧ (¬ a.nd.text.size + b.nd.text.size ≤ 1000 → binT op.toList a b = none)) :=
    ⟨fun h => by unfold binT; rw [if_pos h1, if_pos h], fun h => by unfold binT; rw [if_pos h1, if_neg h]⟩
  obtain ⟨⟨kd, nm, tx, kk, pl⟩, aks⟩ := a
  obtain ⟨⟨md, mn, mx, mk, mp⟩, bks⟩ := b
  obtain ⟨so, sl, sc⟩ := s
  obtain ⟨uo, ul, uc⟩ := s'
  unfold sv
  simp only [Tre.nd] at h1 h2 h3 HBT ⊢
  have h4 : ¬ (9223372036854775807 < tx.size + mx.size) := by omega
  obtain ⟨h94, rfl, rfl⟩ := h1
  generalize knT (.mk ⟨73, nm, tx, kk, pl⟩ aks) = kb
  generalize knT (.mk ⟨73, mn, mx, mk, mp⟩ bks) = vb
  generalize binT op.toList (.mk ⟨73, nm, tx, kk, pl⟩ aks) (.mk ⟨73, mn, mx, mk, mp⟩ bks) = bt at HBT ⊢
  have t94 : (op.toList == [94]) = true := by rw [h94]; rfl
  obtain ⟨r0, hsz, b3⟩ := three_at w (.cells #[.int .i64 73, .int .i64 nm, .string tx, .int .i64 kk, .int .i64 pl, .slice so sl sc, .bool kb] 51) (.cells #[.int .i64 73, .int .i64 mn, .string mx, .int .i64 mk, .int .i64 mp, .slice uo ul uc, .bool vb] 51)
  have HSZ : Hid _ := hsz
  have HR0 : Hid _ := r0
  have hN := leaf_any 73 0 (tx ++ mx) (by decide) (((w.alloc (.cells #[.int .i64 73, .int .i64 nm, .string tx, .int .i64 kk, .int .i64 pl, .slice so sl sc, .bool kb] 51)).alloc (.cells #[.int .i64 73, .int .i64 mn, .string mx, .int .i64 mk, .int .i64 mp, .slice uo ul uc, .bool vb] 51)).alloc (.cells #[.int .i64 0, .int .i64 0, .string ⟨#[]⟩, .int .i64 0, .int .i64 0, .slice none 0 0, .bool false] 51))
  have hsv : ∀ s : Sl3, (sv (leafT 73 0 (tx ++ mx)) s).toArray = #[.int .i64 73, .int .i64 0, .string (tx ++ mx), .int .i64 0, .int .i64 0, .slice s.1 s.2.1 s.2.2, .bool true] := by
    intro s
    rw [← kn73 (tx ++ mx)]
    rfl
  simp only [hsv] at hN
  clear hsv r0 hsz h94
  go_enter Tryz.func60, Tryz.ntmps60
  go_wp2_with (go_at_call 61; refine hN.mono ?_)
  rintro e w3 ⟨⟨qo, ql, qc⟩, hs0, rfl, hb3⟩
  simp only at hs0
  subst hs0
  have r3 := (hb3.block (w.heap.size + 1 + 1) (by rw [HSZ.out]; omega)).trans HR0.out
  have hbb := Below.step b3 hb3
  have hf := seven_fin (leafT 73 0 (tx ++ mx)) (qo, 0, qc) r3 hbb (by omega)
  rw [kn73] at hf
  obtain ⟨f, d0, d1, d2, d3, d4, d5, d6⟩ := zero7 r3
  have f0 := f 0
  have f1 := f 1
  have f2 := f 2
  have f3 := f 3
  have f4 := f 4
  have f5 := f 5
  have f6 := f 6
  have l1 : w.heap.size + 1 + 1 < w3.heap.size := lt_of_cell d0
  have HF : Hid (Row7 (((((((w3.setCell ⟨w.heap.size + 1 + 1, 0, none⟩ (.int .i64 73)).setCell ⟨w.heap.size + 1 + 1, 1, none⟩ (.int .i64 0)).setCell ⟨w.heap.size + 1 + 1, 2, none⟩ (.string (tx ++ mx))).setCell ⟨w.heap.size + 1 + 1, 3, none⟩ (.int .i64 0)).setCell ⟨w.heap.size + 1 + 1, 4, none⟩ (.int .i64 0)).setCell ⟨w.heap.size + 1 + 1, 5, none⟩ (.slice qo 0 qc)).setCell ⟨w.heap.size + 1 + 1, 6, none⟩ (.bool true)) (w.heap.size + 1 + 1) 0 (leafT 73 0 (tx ++ mx)) (qo, 0, qc) ∧ Below w.heap.size w (((((((w3.setCell ⟨w.heap.size + 1 + 1, 0, none⟩ (.int .i64 73)).setCell ⟨w.heap.size + 1 + 1, 1, none⟩ (.int .i64 0)).setCell ⟨w.heap.size + 1 + 1, 2, none⟩ (.string (tx ++ mx))).setCell ⟨w.heap.size + 1 + 1, 3, none⟩ (.int .i64 0)).setCell ⟨w.heap.size + 1 + 1, 4, none⟩ (.int .i64 0)).setCell ⟨w.heap.size + 1 + 1, 5, none⟩ (.slice qo 0 qc)).setCell ⟨w.heap.size + 1 + 1, 6, none⟩ (.bool true))) := hf
  clear hN hf r3 hb3 hbb b3 f
  go_wp2
  refine bodyPost_ret (results_cell7b rfl _ (w.heap.size + 1 + 1) rfl _ _ _ HF.out.1 (.bool (decide ((tx.size : Int) + (mx.size : Int) ≤ 1000))) rfl) rfl ?_
  refine ⟨HF.out.2, leafT 73 0 (tx ++ mx), (qo, 0, qc), ?_, ?_⟩
  · have h5 : bt.isSome = decide ((tx.size : Int) + (mx.size : Int) ≤ 1000) := by
      by_cases h9 : tx.size + mx.size ≤ 1000
      · rw [HBT.out.1 h9, decide_eq_true (by omega)]
        rfl
      · rw [HBT.out.2 h9, decide_eq_false (by omega)]
        rfl
    rw [h5]
  · intro R hR
    by_cases h9 : tx.size + mx.size ≤ 1000
    · rw [HBT.out.1 h9] at hR
      cases hR
      exact ⟨rfl, rfl, rfl⟩
    · rw [HBT.out.2 h9] at hR
      cases hR
def nineB : List ByteArray := [⟨#[43]⟩, ⟨#[45]⟩, ⟨#[42]⟩, ⟨#[60]⟩, ⟨#[60, 61]⟩, ⟨#[62]⟩, ⟨#[62, 61]⟩, ⟨#[47]⟩, ⟨#[37]⟩]
theorem of_toList {op : ByteArray} {l : List UInt8} (h : op.toList = l) : op = ⟨l.toArray⟩ := by
  rw [Lib.toList_data] at h
  subst h
  cases op
  rfl
theorem nine_any (s : ByteArray) : (nineB.any fun o => o.toList == s.toList) = ([[43], [45], [42], [60], [60, 61], [62], [62, 61], [47], [37]] : List (List UInt8)).any (fun o => o == s.toList) := by
  have e : ([[43], [45], [42], [60], [60, 61], [62], [62, 61], [47], [37]] : List (List UInt8)) = nineB.map ByteArray.toList := by kernel_rfl
  rw [e, List.any_map]
  rfl
theorem ar_none {s : ByteArray} (h : (nineB.any fun o => o.toList == s.toList) = false) (a b : Int) : arithT s.toList a b = none := by
  rw [nine_any] at h
  generalize s.toList = l at h ⊢
  simp at h
  obtain ⟨h1, h2, h3, h4, h5, h6, h7, h8, h9⟩ := h
  unfold arithT
  rw [if_neg (fun e => h1 e.symm), if_neg (fun e => h2 e.symm), if_neg (fun e => h3 e.symm), if_neg (fun e => h4 e.symm), if_neg (fun e => h5 e.symm), if_neg (fun e => h6 e.symm), if_neg (fun e => h7 e.symm), if_neg (fun e => h8 e.symm), if_neg (fun e => h9 e.symm)]
theorem nine_hop {s : ByteArray} (h : (nineB.any fun o => o.toList == s.toList) = true) (a b : Int) (ha : -9223372036854775808 ≤ a ∧ a ≤ 9223372036854775807) (w : World) :
    Calls Tryz.prog 90 #[.agg (mach (none, 0, 0) 0 0), .string s, .int .i64 a, .int .i64 b] w fun e w' => ∃ k nm tx st, MachRes w k nm tx st e w' ∧ ArOk s.toList a b k nm tx st := by
  rw [nine_any] at h
  simp at h
  refine arith_any s s.toList ?_ a b ha w
  rcases h with h | h | h | h | h | h | h | h | h
  · exact .inl ⟨of_toList h.symm, h.symm⟩
  · exact .inr (.inl ⟨of_toList h.symm, h.symm⟩)
  · exact .inr (.inr (.inl ⟨of_toList h.symm, h.symm⟩))
  · exact .inr (.inr (.inr (.inl ⟨of_toList h.symm, h.symm⟩)))
  · exact .inr (.inr (.inr (.inr (.inl ⟨of_toList h.symm, h.symm⟩))))
  · exact .inr (.inr (.inr (.inr (.inr (.inl ⟨of_toList h.symm, h.symm⟩)))))
  · exact .inr (.inr (.inr (.inr (.inr (.inr (.inl ⟨of_toList h.symm, h.symm⟩))))))
  · exact .inr (.inr (.inr (.inr (.inr (.inr (.inr (.inl ⟨of_toList h.symm, h.symm⟩)))))))
  · exact .inr (.inr (.inr (.inr (.inr (.inr (.inr (.inr ⟨of_toList h.symm, h.symm⟩)))))))
theorem nine_strs (w : World) : Strs (w.alloc (.cells #[.string ⟨#[43]⟩, .string ⟨#[45]⟩, .string ⟨#[42]⟩, .string ⟨#[60]⟩, .string ⟨#[60, 61]⟩, .string ⟨#[62]⟩, .string ⟨#[62, 61]⟩, .string ⟨#[47]⟩, .string ⟨#[37]⟩] 9)) (some ⟨w.heap.size, 0, none⟩) nineB := by
  intro i h
  refine ⟨_, _, rfl, ?_⟩
  rw [cell_of_row _ _ _ _ _ _ (heap_alloc_new w _)]
  have h9 : i < 9 := h
  rcases (by omega : i = 0 ∨ i = 1 ∨ i = 2 ∨ i = 3 ∨ i = 4 ∨ i = 5 ∨ i = 6 ∨ i = 7 ∨ i = 8) with rfl | rfl | rfl | rfl | rfl | rfl | rfl | rfl | rfl <;> rfl
theorem bin_refuse2 (w : World) (A : Tre) (s : Sl3) (X Y V : Obj) :
    Row7 ((((w.alloc X).alloc Y).alloc (.cells #[.int .i64 A.nd.kind, .int .i64 A.nd.num, .string A.nd.text, .int .i64 A.nd.kids, .int .i64 A.nd.place, .slice s.1 s.2.1 s.2.2, .bool (knT A)] 51)).alloc V) (w.heap.size + 1 + 1) 0 A s ∧ Below w.heap.size w ((((w.alloc X).alloc Y).alloc (.cells #[.int .i64 A.nd.kind, .int .i64 A.nd.num, .string A.nd.text, .int .i64 A.nd.kids, .int .i64 A.nd.place, .slice s.1 s.2.1 s.2.2, .bool (knT A)] 51)).alloc V) := by
  obtain ⟨h1, h2⟩ := bin_refuse w A s X Y
  exact ⟨h1.but (But.ofBelow (S := fun _ => False) ((Below.refl _ _).alloc (Nat.le_refl _) V)) (fun h => h), h2.alloc h2.size V⟩
set_option maxRecDepth 20000 in
set_option maxHeartbeats 2000000 in
theorem bin_not (op : ByteArray) (a b : Tre) (s s' : Sl3) (w : World) (h1 : a.nd.kind = 72 ∧ b.nd.kind = 72) (h2 : (nineB.any fun o => o.toList == op.toList) = false) :
    Calls Tryz.prog 60 #[.string op, .agg (sv a s).toArray, .agg (sv b s').toArray] w fun e w' => BinRes w (binT op.toList a b) e w' := by
  have HBT : binT op.toList a b = none := by
    unfold binT
    rw [if_neg (by omega), if_pos h1]
    exact ar_none h2 _ _
  rw [HBT]
  have HR : Hid _ := bin_refuse2 w a s (.cells (sv a s).toArray 51) (.cells (sv b s').toArray 51) (.cells #[.string ⟨#[43]⟩, .string ⟨#[45]⟩, .string ⟨#[42]⟩, .string ⟨#[60]⟩, .string ⟨#[60, 61]⟩, .string ⟨#[62]⟩, .string ⟨#[62, 61]⟩, .string ⟨#[47]⟩, .string ⟨#[37]⟩] 9)
  obtain ⟨⟨kd, nm, tx, kk, pl⟩, aks⟩ := a
  obtain ⟨⟨md, mn, mx, mk, mp⟩, bks⟩ := b
  obtain ⟨so, sl, sc⟩ := s
  obtain ⟨uo, ul, uc⟩ := s'
  unfold sv at HR ⊢
  simp only [Tre.nd] at h1 HR ⊢
  obtain ⟨rfl, rfl⟩ := h1
  generalize knT (.mk ⟨72, nm, tx, kk, pl⟩ aks) = kb at HR ⊢
  generalize knT (.mk ⟨72, mn, mx, mk, mp⟩ bks) = vb at HR ⊢
  have hS := nine_strs (((w.alloc (.cells #[.int .i64 72, .int .i64 nm, .string tx, .int .i64 kk, .int .i64 pl, .slice so sl sc, .bool kb] 51)).alloc (.cells #[.int .i64 72, .int .i64 mn, .string mx, .int .i64 mk, .int .i64 mp, .slice uo ul uc, .bool vb] 51)).alloc (.cells #[.int .i64 0, .int .i64 0, .string ⟨#[]⟩, .int .i64 0, .int .i64 0, .slice none 0 0, .bool false] 51))
  rw [World.size_alloc, World.size_alloc, World.size_alloc] at hS
  have hI := in_any nineB 9 rfl (by omega) (some ⟨w.heap.size + 1 + 1 + 1, 0, none⟩) 9 op _ hS
  rw [h2] at hI
  have HIN : Hid _ := hI
  clear hI hS h2 HBT
  obtain ⟨ob, hob⟩ : ∃ ob, (op.toList == [94]) = ob := ⟨_, rfl⟩
  cases ob
  · go_enter Tryz.func60, Tryz.ntmps60
    go_wp2_with fail
    refine Calls.mono HIN.out ?_
    rintro e w2 ⟨rfl, rfl⟩
    go_wp2
    refine bodyPost_ret (results_cell7b rfl _ (w.heap.size + 1 + 1) rfl _ _ _ HR.out.1 _ rfl) rfl ?_
    exact ⟨HR.out.2, _, _, rfl, fun R h => by cases h⟩
  · go_enter Tryz.func60, Tryz.ntmps60
    go_wp2_with fail
    refine Calls.mono HIN.out ?_
    rintro e w2 ⟨rfl, rfl⟩
    go_wp2
    refine bodyPost_ret (results_cell7b rfl _ (w.heap.size + 1 + 1) rfl _ _ _ HR.out.1 _ rfl) rfl ?_
    exact ⟨HR.out.2, _, _, rfl, fun R h => by cases h⟩
end Go.Proofs.YtemancdlnakkmaaGreat

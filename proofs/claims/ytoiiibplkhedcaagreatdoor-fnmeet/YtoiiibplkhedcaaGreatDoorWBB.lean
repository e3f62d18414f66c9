import Derived.Test.YtoiiibplkhedcaaGreatDoorWBA
import Derived.Shelf.SortM.SortNone
import Derived.Maps.RangeWalk
set_option maxRecDepth 100000
set_option maxHeartbeats 2000000
namespace Go.Proofs.YtoiiibplkhedcaaGreatDoor
open Go.RowKit Go.Maps Go.Sort Go.Shelf
structure RwsAt (W : World) (B b n : Nat) (E : Int → Option (List Nd)) (D : DataW Value) (F : Int → Nat × Nat) : Prop where
  own : W.ownsMap Tryz.prog 2 Qfa b n D
  has : ∀ x, Maps.has D (.int .i64 x) = (E x).isSome
  at' : ∀ x t, E x = some t → (∀ z, D.atKey (.int .i64 x) z = .held (.slice (some ⟨(F x).1, 0, none⟩) t.length (F x).2)) ∧ B ≤ (F x).1 ∧ Row W (F x).1 t
  apart : ∀ x y, (E x).isSome = true → (E y).isSome = true → x ≠ y → (F x).1 ≠ (F y).1
def Rws (W : World) (B b n : Nat) (E : Int → Option (List Nd)) : Prop := ∃ D F, RwsAt W B b n E D F
theorem Rws.made (w : World) (B : Nat) : Rws (w.alloc (.map #[] 0)) B w.heap.size 0 (fun _ => none) :=
  ⟨.map [], fun _ => (0, 0), World.ownsMap_made w Tryz.prog 2 Qfa, fun _ => rfl, fun x t h => (by cases h), fun x y h => (by cases h)⟩
theorem RwsAt.but {S : Nat → Prop} {W W' : World} {B b n : Nat} {E : Int → Option (List Nd)} {D : DataW Value} {F : Int → Nat × Nat} (h : RwsAt W B b n E D F) (hb : But S W W') (hS : ∀ k, S k → k ≠ b ∧ ∀ cs t f, W.heap[k]? ≠ some (.cells cs t f)) : RwsAt W' B b n E D F := by
  refine ⟨Qem h.own (hb.block b h.own.lt (fun h9 => (hS b h9).1 rfl)), h.has, fun x t hx => ?_, h.apart⟩
  obtain ⟨h1, h2, h3⟩ := h.at' x t hx
  refine ⟨h1, h2, hb.row h3 ?_⟩
  intro h9
  obtain ⟨cur, rest, hc, _⟩ := h3
  exact (hS _ h9).2 _ _ _ hc
theorem Rws.but {S : Nat → Prop} {W W' : World} {B b n : Nat} {E : Int → Option (List Nd)} (h : Rws W B b n E) (hb : But S W W') (hS : ∀ k, S k → k ≠ b ∧ ∀ cs t f, W.heap[k]? ≠ some (.cells cs t f)) : Rws W' B b n E := by
  obtain ⟨D, F, h⟩ := h
  exact ⟨D, F, h.but hb hS⟩
theorem Rws.below {W W' : World} {B b n : Nat} {E : Int → Option (List Nd)} (h : Rws W B b n E) (hb : Below W.heap.size W W') : Rws W' B b n E :=
  h.but (S := fun _ => False) (But.ofBelow hb) (fun _ h => h.elim)
theorem Rws.alloc {W : World} {B b n : Nat} {E : Int → Option (List Nd)} (h : Rws W B b n E) (o : Obj) : Rws (W.alloc o) B b n E := h.below ((Below.refl _ _).alloc (Nat.le_refl _) _)
def upE (E : Int → Option (List Nd)) (x : Int) (t : List Nd) : Int → Option (List Nd) := fun y => if y = x then some t else E y
theorem Qmd (E : Int → Option (List Nd)) (x : Int) (t : List Nd) : upE E x t x = some t := by simp [upE]
theorem Qdo (E : Int → Option (List Nd)) (x y : Int) (t : List Nd) (h : y ≠ x) : upE E x t y = E y := by simp [upE, h]
def Qkp (E : Int → Option (List Nd)) (bs : List (Int × List Nd)) : Prop := (bs.map Prod.fst).Pairwise (· < ·) ∧ (∀ p ∈ bs, E p.1 = some p.2) ∧ ∀ x, (E x).isSome = true → x ∈ bs.map Prod.fst
theorem Jai (mb : Option Nat) (W : World) : Calls Tryz.prog 66 #[.map mb] W fun e w' => e = .returned (.func (.func 97) #[] #[.pointer (some ⟨W.heap.size, 0, none⟩)]) ∧ w' = W.alloc (.cells #[.map mb] 67) :=
  (callsIn_wide (n := 1)).1 (AnyZI.keys_in Tryz.laysK66 Fence.wide 1 trivial rfl mb W)
theorem Jcu (m : Nat) : AnyZI.SortsIn Tryz.prog Tryz.laysK65_ren Fence.wide m :=
  ⟨fun blk off cap ss W hH hblk hsz => callsIn_wide.2 (AnyM.slices_Sort_int Tryz.laysK96 blk off cap ss W hH hblk hsz),
   fun p cap W => callsIn_wide.2 (AnyM.slices_Sort_int_none Tryz.laysK96 p cap W)⟩
theorem Qqg (b nn : Nat) (D : DataW Value) (w : World) (hown : w.ownsMap Tryz.prog 2 Qfa b nn D) (hmax : nn ≤ 1048576) :
    Calls Tryz.prog 65 #[.func (.func 97) #[] #[.pointer (some ⟨w.heap.size, 0, none⟩)]] (w.alloc (.cells #[.map (some b)] 67)) fun e w' =>
      ∃ (v : Value) (ss : List Int), e = .returned v ∧ ss.Perm (intKeys D) ∧ w'.ownsRow (w.alloc (.cells #[.map (some b)] 67)).heap.size 2 1 v ss.length ((ss.mergeSort (fun x y => decide (x ≤ y))).map encZ) ∧ (v = .slice none 0 0 ↔ ss = []) ∧ Below (w.alloc (.cells #[.map (some b)] 67)).heap.size (w.alloc (.cells #[.map (some b)] 67)) w' := by
  have hbl := hown.lt
  have hsz := hown.size_le
  have hseq : SeqGives Fence.wide 2 Tryz.prog 97 #[.pointer (some ⟨w.heap.size, 0, none⟩)] encZ (fun ss => ss.Perm (intKeys D)) (Maps.size D) (w.alloc (.cells #[.map (some b)] 67)) :=
    AnyZI.keys_gives (ρ := Tryz.laysK66_ren) { Tryz.laysK66 with } Fence.wide _ trivial rfl (by omega) w.heap.size b nn D _ (by simp) (by simp) (by
      obtain ⟨es, clock, hb, Ft, hs, hD⟩ := hown
      exact ⟨es, clock, (Below.heap_alloc _ _ b hbl).trans hb, Ft, hs, hD⟩)
  refine (callsIn_wide (n := 5)).1 ?_
  exact AnyZI.sorted_in Tryz.laysK65 Fence.wide 5 trivial trivial trivial trivial rfl (by omega) (Jcu _) (enters_of Tryz.func96 (by kernel_rfl) rfl) 97 #[.pointer (some ⟨w.heap.size, 0, none⟩)] trivial (enters_of Tryz.func97 (by kernel_rfl) rfl) _ _ (by unfold maxLen; omega) (by omega) _ hseq
theorem Qtl {w : World} {B n : Nat} {v : Value} {ks : List Int} (h : w.ownsRow B 2 1 v n (ks.map encZ)) (hn : ks.length = n) : ∃ ao c, v = .slice ao n c ∧ Qyl w ao ks ∧ ∀ bb oo, ao = some ⟨bb, oo, none⟩ → B ≤ bb := by
  obtain ⟨_, h⟩ := h
  rcases h with ⟨rfl, rfl⟩ | ⟨g, cap, cur, rfl, hB, hb, h1, h2, h3, h4⟩
  · have : ks = [] := List.eq_nil_of_length_eq_zero hn
    subst this
    exact ⟨none, 0, rfl, fun i hi => (by simp at hi), fun bb oo e => (by cases e)⟩
  · refine ⟨_, _, rfl, fun i hi => ⟨g, 0, rfl, ?_⟩, fun bb oo e => (by simp only [Option.some.injEq, Addr.mk.injEq, and_true] at e; omega)⟩
    rw [Nat.zero_add, cell_of_row _ _ _ _ _ _ hb]
    have h5 : (cur.toList.take (n * 1))[i]? = some (.int .i64 ks[i]) := by
      rw [h4]
      simp [hi]
    rw [List.getElem?_take_of_lt (by omega)] at h5
    simpa using h5
theorem Jah {w : World} {b n : Nat} {D : DataW Value} (hown : w.ownsMap Tryz.prog 2 Qfa b n D) : (intKeys D).Nodup ∧ ∀ x, x ∈ intKeys D ↔ Maps.has D (.int .i64 x) = true := by
  obtain ⟨es, clock, hb, F, hs, hD⟩ := hown
  have hown : w.ownsMap Tryz.prog 2 Qfa b n D := ⟨es, clock, hb, F, hs, hD⟩
  have hk := fit_keys F
  obtain ⟨es', hD', hp', _⟩ := hown.entries Tryz.law2
  have hkeys : ∀ p ∈ es', ∃ x, p.1 = .int .i64 x := by
    intro p hp
    have h9 : p ∈ (es.toList.map (WideElems.rg Tryz.prog 2 Qfa)).foldr DataW.insert [] := by
      rw [hD] at hD'
      simp only [DataW.map.injEq] at hD'
      rw [hD']
      exact hp
    rw [mem_sorted] at h9
    obtain ⟨v, hv⟩ := hk p h9
    obtain ⟨x, _, e, _⟩ := keyOf_i64 Tryz.underlying2 hv
    exact ⟨x, e⟩
  subst hD'
  have hmem : ∀ x, x ∈ intKeys (DataW.map es') ↔ Maps.has (DataW.map es') (.int .i64 x) = true := by
    intro x
    rw [has_eq, List.any_eq_true]
    show x ∈ es'.map (fun p => Go.intOf p.1) ↔ _
    rw [List.mem_map]
    constructor
    · rintro ⟨p, hp, rfl⟩
      obtain ⟨a, ha⟩ := hkeys p hp
      exact ⟨p, hp, by rw [ha]; simp [Lit.sameKey, Go.intOf]⟩
    · rintro ⟨p, hp, hs⟩
      obtain ⟨a, ha⟩ := hkeys p hp
      rw [ha] at hs
      exact ⟨p, hp, by rw [ha]; simpa [Lit.sameKey, Go.intOf] using hs⟩
  refine ⟨?_, hmem⟩
  show (es'.map fun p => Go.intOf p.1).Nodup
  refine List.pairwise_map.2 (hp'.imp_of_mem fun {p q} hp hq hne e => hne ?_)
  obtain ⟨a, ha⟩ := hkeys p hp
  obtain ⟨c, hc⟩ := hkeys q hq
  rw [ha, hc] at e ⊢
  exact congrArg _ e
theorem Qmi {ss : List Int} (h : ss.Nodup) : (ss.mergeSort (fun x y => decide (x ≤ y))).Pairwise (· < ·) := by
  have hp : (ss.mergeSort fun x y => decide (x ≤ y)).Pairwise (· ≤ ·) := by
    have := List.pairwise_mergeSort (le := fun x y : Int => decide (x ≤ y)) (fun a b c h1 h2 => by simp at *; omega) (fun a b => by simp; omega) ss
    simpa using this
  have hn : (ss.mergeSort fun x y => decide (x ≤ y)).Nodup := (List.mergeSort_perm ss _).nodup_iff.2 h
  exact (hp.and hn).imp (fun {a b} h => by obtain ⟨h1, h2⟩ := h; have : a ≠ b := h2; omega)
def Qlr (E : Int → Option (List Nd)) (F : Int → Nat × Nat) (x : Int) : Value × Value := (.int .i64 x, .slice (some ⟨(F x).1, 0, none⟩) ((E x).getD []).length (F x).2)
theorem Qkl (E : Int → Option (List Nd)) (B b n : Nat) (hn : n ≤ 100000) (w : World) (h : Rws w B b n E) (hB : B ≤ w.heap.size) :
    Calls Tryz.prog 31 #[.map (some b)] w fun e w' => ∃ ag cg bs, e = .returned (.slice ag bs.length cg) ∧ Qkp E bs ∧ BAns w' B ag bs ∧ Below w.heap.size w w' := by
  obtain ⟨D, F, hR⟩ := h
  obtain ⟨i0, hi, hz0, hz1, hz2⟩ := info_parts Tryz.infoB
  have hA : Below w.heap.size w (w.alloc (.cells #[] 54)) := (Below.refl _ w).alloc (Nat.le_refl _) _
  have hO := OwnBs.empty (w := w) (B := w.heap.size) (Nat.le_refl _)
  have hR1 := hR.but (S := fun _ => False) (But.ofBelow hA) (fun _ h => h.elim)
  have hSK := Qqg b n D _ hR1.own (by omega)
  simp only [World.size_alloc] at hSK
  have hKM := Jah hR.own
  have hz : ∀ w, (zeroValue 23).run Tryz.prog w = .ok (.slice none 0 0) w := fun w => by kernel_rfl
  go_enter Tryz.func31, Tryz.ntmps31
  go_wp2_with fail
  refine (Jai (some b) _).mono ?_
  rintro e w1 ⟨rfl, rfl⟩
  go_wp2_with fail
  refine hSK.mono ?_
  rintro e w2 ⟨v, ss, rfl, hperm, hrow, _, hb2⟩
  obtain ⟨ks, hks⟩ : ∃ ks, ss.mergeSort (fun x y => decide (x ≤ y)) = ks := ⟨_, rfl⟩
  have hkl : ks.length = ss.length := by rw [← hks, List.length_mergeSort]
  have hup : ks.Pairwise (· < ·) := by rw [← hks]; exact Qmi (hperm.nodup_iff.2 hKM.1)
  have hmem : ∀ x, x ∈ ks ↔ (E x).isSome = true := by
    intro x
    rw [← hks, (List.mergeSort_perm ss _).mem_iff, hperm.mem_iff, hKM.2 x, hR.has x]
  have hwf : ∀ x ∈ ks, (Lit.int .i64 x).wf = true := by
    intro x hx
    rw [← hks, (List.mergeSort_perm ss _).mem_iff, hperm.mem_iff] at hx
    exact intKeys_wf hR.own Tryz.underlying2 x hx
  rw [hks] at hrow
  obtain ⟨q, hq⟩ : ∃ q, ss.length = q := ⟨_, rfl⟩
  have hqn : q ≤ n := by
    rw [← hq, hperm.length_eq]
    have h9 := hR.own.size_le
    obtain ⟨es, clock, _, _, _, hD⟩ := hR.own
    rw [hD] at h9 ⊢
    simpa [intKeys, Maps.size] using h9
  rw [hq] at hrow hkl
  obtain ⟨ao, c, rfl, hcs, hao⟩ := Qtl hrow hkl
  have hbA : Below w.heap.size w (((w.alloc (.cells #[] 54)).alloc (.cells #[.map (some b)] 67))) := hA.alloc hA.size _
  have hb := Below.step hbA (hb2.mono (by simp))
  have hO2 : OwnBs w2 w.heap.size w.heap.size 0 0 [] := (hO.alloc (.cells #[.map (some b)] 67)).below (by simpa using hb2)
  have HKL : Hid (ks.length = q) := hkl
  have HMEM : Hid (∀ x, x ∈ ks ↔ (E x).isSome = true) := hmem
  have HUP : Hid (ks.Pairwise (· < ·)) := hup
  have HWF : Hid (∀ x ∈ ks, (Lit.int .i64 x).wf = true) := hwf
  have hw2 := hb.size
  clear hSK hKM hperm hrow hb2 hks hkl hup hmem hwf hbA hA hO hq hR1
  go_wp2
  go_loopw [3, 11] (fun v p wr => ∃ (k g c : Nat), k ≤ q ∧ p = .int .i64 k ∧ v = .slice (some ⟨g, 0, none⟩) k c ∧ OwnBs wr w.heap.size g c k ((ks.take k).map (Qlr E F)) ∧ Below w.heap.size w wr ∧ Qyl wr ao ks ∧ (g = w.heap.size ∨ w2.heap.size ≤ g) ∧ w2.heap.size ≤ wr.heap.size) (fun _ p _ => q - (RowKit.intOf p).toNat)
  case atStart => exact ⟨0, w.heap.size, 0, Nat.zero_le _, rfl, rfl, by simpa using hO2, hb, hcs, Or.inl rfl, Nat.le_refl _⟩
  case round =>
    have hgv : ∀ bb oo, ao = some ⟨bb, oo, none⟩ → 0 < q → bb < w2.heap.size := by
      intro bb oo e h0
      obtain ⟨b9, o9, e9, hc9⟩ := hcs 0 (by have := HKL.out; omega)
      rw [e] at e9
      simp only [Option.some.injEq, Addr.mk.injEq, and_true] at e9
      rw [e9.1]
      exact Qaa hc9
    clear hO2 hb hcs
    obtain ⟨k, g, c', hk, rfl, rfl, hown, hb, hcs, hgg, hws⟩ := hrel
    by_cases hlt : k < q
    · have hltk : k < ks.length := by have := HKL.out; omega
      obtain ⟨x, hxk⟩ : ∃ x, ks[k] = x := ⟨_, rfl⟩
      have hxm : x ∈ ks := by rw [← hxk]; exact List.getElem_mem hltk
      have hxw := HWF.out x hxm
      obtain ⟨t, ht⟩ := Option.isSome_iff_exists.1 ((HMEM.out x).1 hxm)
      obtain ⟨hat, _, _⟩ := hR.at' x t ht
      have hv := hat (.held (.slice none 0 0))
      have hkey : keyOf Tryz.prog 2 (.int .i64 x) = some (.int .i64 x) := keyOf_int_mk Tryz.underlying2 hxw
      have hblt := hR.own.lt
      have hown9 := Qem hR.own (hb.block b hblt)
      obtain ⟨bb, oo, rfl, hcell⟩ := hcs k hltk
      rw [hxk] at hcell
      have hbb := hgv bb oo rfl (by omega)
      have hbo := hao bb oo rfl
      have HL : Hid ((ks.take (k + 1)).map (Qlr E F) = (ks.take k).map (Qlr E F) ++ [(.int .i64 x, .slice (some ⟨(F x).1, 0, none⟩) t.length (F x).2)]) := by
        rw [Hid, List.take_succ_eq_append_getElem hltk, List.map_append, hxk]
        simp [Qlr, ht]
      obtain ⟨l, hl⟩ : ∃ l, t.length = l := ⟨_, rfl⟩
      rw [hl] at hv HL
      generalize (F x).1 = f1 at hv HL
      generalize (F x).2 = f2 at hv HL
      obtain ⟨Z, hZ⟩ : ∃ Z, (ks.take k).map (Qlr E F) = Z := ⟨_, rfl⟩
      rw [hZ] at hown HL
      clear hZ
      have hone := Qer wr x (.slice (some ⟨f1, 0, none⟩) l f2)
      have hob := Qad hown.2
      have hcsw := hcs
      clear hat ht hl hxm hxk hltk
      go_wp2_with (first
        | (at_lookup; refine Qgm _ rfl _ _ 67 rfl 2 23 Tryz.law2 Tryz.underlying67 (hz _) b n D rfl hown9 _ _ rfl hkey rfl hv ?_)
        | (at_builtin; refine Qac _ rfl (.tmp 15) (.tmp 21) 30 rfl w.heap.size 54 i0 _ 2 32 Tryz.underlying30 hi hz0 hz1 hz2 rfl (by decide) g k c' _ rfl (hown.alloc _).2 ⟨_, 0, none⟩ 1 1 [.int .i64 x, .slice (some ⟨f1, 0, none⟩) l f2] rfl rfl hone (Qho _ _ _ _) ?a3 ?a4 ?a5 ?_)
        | go_in)
      case a3 => unfold maxLen; omega
      case a4 => omega
      case a5 => have := hb.size; simp; omega
      intro g2 c2 w3 hown3 hgrow3 hwh
      have hO3 := OwnBs.push (x := (.int .i64 x, .slice (some ⟨f1, 0, none⟩) l f2)) hown3 hown.1 rfl
      rw [← HL.out] at hO3
      have hb3 : Below w.heap.size w w3 := (hb.alloc hb.size _).grown hgrow3 (hb.alloc hb.size _).size (fun j hj => by cases hj; exact hob.1)
      have hcs3 : Qyl w3 (some ⟨bb, oo, none⟩) ks := by
        intro i hi'
        obtain ⟨b9, o9, e9, hc9⟩ := hcsw i hi'
        simp only [Option.some.injEq, Addr.mk.injEq, and_true] at e9
        obtain ⟨rfl, rfl⟩ := e9
        refine ⟨_, _, rfl, ?_⟩
        rw [Qpq hgrow3 (by simp; omega) (by omega)]
        exact (((Below.refl _ wr).alloc (Nat.le_refl _) _).cell (p := ⟨bb, oo + i, none⟩) (Qaa hc9)).trans hc9
      have hs3 := hgrow3.size
      have hg2 : g2 = w.heap.size ∨ w2.heap.size ≤ g2 := by
        rcases hwh with h9 | h9
        · omega
        · omega
      clear hown3 hgrow3 hwh hown hb hcs hcsw hone hcell
      go_wp2
      go_roundw
      case rel => exact ⟨k + 1, g2, c2, by omega, by go_num, rfl, hO3, hb3, hcs3, hg2, by simp at hs3; omega⟩
      case measure => simp [RowKit.intOf]; omega
    · have hkq : k = q := by omega
      subst hkq
      have HT : Hid (ks.take k = ks) := List.take_of_length_le (by have := HKL.out; omega)
      rw [HT.out] at hown
      obtain ⟨hg, hrw⟩ := hown.row
      clear hcs hown
      go_wp2
      go_ret
      refine ⟨some ⟨g, 0, none⟩, c', ks.map (fun x => (x, (E x).getD [])), by simp [HKL.out], ?_, ?_, hb⟩
      · refine ⟨?_, ?_, ?_⟩
        · rw [List.map_map]
          have e9 : (Prod.fst ∘ fun x => (x, (E x).getD [])) = fun x : Int => x := rfl
          rw [e9, List.map_id']
          exact HUP.out
        · intro p hp
          obtain ⟨x, hx, rfl⟩ := List.mem_map.1 hp
          obtain ⟨t, ht⟩ := Option.isSome_iff_exists.1 ((HMEM.out x).1 hx)
          simp [ht]
        · intro x hx
          rw [List.map_map]
          exact List.mem_map.2 ⟨x, (HMEM.out x).2 hx, rfl⟩
      · refine Or.inr ⟨g, ks.map F, rfl, by omega, ?_, ?_⟩
        · intro r hr
          obtain ⟨x, hx, rfl⟩ := List.mem_map.1 hr
          obtain ⟨t, ht⟩ := Option.isSome_iff_exists.1 ((HMEM.out x).1 hx)
          exact (hR.at' x t ht).2.1
        · refine ⟨by simp, ?_, ?_, ?_⟩
          · have e9 : Qcr (ks.map F) (ks.map (fun x => (x, (E x).getD []))) = ks.map (Qlr E F) := by
              unfold Qcr
              rw [List.zipWith_map, List.zipWith_self]
              rfl
            rw [e9]
            exact hrw
          · intro i hi1 hi2
            have hi3 : i < ks.length := by simpa using hi1
            obtain ⟨t, ht⟩ := Option.isSome_iff_exists.1 ((HMEM.out ks[i]).1 (List.getElem_mem hi3))
            have h9 := (hR.at' ks[i] t ht).2.2
            simp only [List.getElem_map, ht, Option.getD_some]
            obtain ⟨cur, rest, hc9, e9⟩ := h9
            exact ⟨cur, rest, (hb.block _ (Array.getElem?_eq_some_iff.1 hc9).1).trans hc9, e9⟩
          · rw [List.map_map]
            refine List.pairwise_map.2 (HUP.out.imp_of_mem fun {x y} hx hy hlt' => ?_)
            exact hR.apart x y ((HMEM.out x).1 hx) ((HMEM.out y).1 hy) (by omega)
end Go.Proofs.YtoiiibplkhedcaaGreatDoor
namespace Go.Proofs.YtoiiibplkhedcaaGreatDoor
open Go.RowKit Go.Maps
theorem RwsAt.store {W0 W : World} {B b n g c : Nat} {E : Int → Option (List Nd)} {t : List Nd} {D : DataW Value} {F : Int → Nat × Nat} (h : RwsAt W0 B b n E D F) (hb : Below W0.heap.size W0 W) (hn : n < maxLen) {x : Int} (hx : (Lit.int .i64 x).wf = true) (hr : Row W g t) (hg : W0.heap.size ≤ g) (hB : B ≤ W0.heap.size) :
    ∃ W2, (Instr.mapUpdate 67 (.map (some b)) (.int .i64 x) (.slice (some ⟨g, 0, none⟩) t.length c)).run Tryz.prog W = .ok () W2 ∧ (∃ D2, RwsAt W2 B b (n + 1) (upE E x t) D2 (fun y => if y = x then (g, c) else F y)) ∧ W.grownBy W2 (some b) := by
  have hW := h.but (S := fun _ => False) (But.ofBelow hb) (fun _ h => h.elim)
  have hkl : ∀ z : Int, WideAt.IsKeyLit (.int .i64 z) := fun _ => trivial
  obtain ⟨W2, hrun, hown2, hg2⟩ := hW.own.update Tryz.law2 Tryz.underlying67 hn (keyOf_int_mk Tryz.underlying2 hx) (val := .slice (some ⟨g, 0, none⟩) t.length c) (d := .held (.slice (some ⟨g, 0, none⟩) t.length c)) (ps := []) rfl
  have hblt := h.own.lt
  have hti : IsMap D := hW.own.isMap
  refine ⟨W2, hrun, ⟨_, hown2, ?_, ?_, ?_⟩, hg2⟩
  · intro y
    by_cases hy : y = x
    · subst hy
      rw [has_put_same hti (hkl y), Qmd]
      rfl
    · rw [has_put_other (fun e => hy (by simpa using e)), Qdo _ _ _ _ hy]
      exact h.has y
  · intro y t' hy'
    by_cases hy : y = x
    · subst hy
      rw [Qmd] at hy'
      simp only [Option.some.injEq] at hy'
      subst hy'
      refine ⟨fun z => ?_, ?_, ?_⟩
      · rw [atKey_put_same hti (hkl y)]
        simp
      · simp only [if_true]
        omega
      · simp only [if_true]
        exact Row.kept hr hg2 (by omega)
    · rw [Qdo _ _ _ _ hy] at hy'
      obtain ⟨h1, h2, h3⟩ := hW.at' y t' hy'
      rw [if_neg hy]
      refine ⟨fun z => ?_, h2, ?_⟩
      · rw [atKey_put_other (fun e => hy (by simpa using e))]
        exact h1 z
      · refine Row.kept h3 hg2 ?_
        intro e9
        obtain ⟨es, clock, hb9, _⟩ := hW.own
        obtain ⟨cur, rest, hc, _⟩ := h3
        rw [e9, hb9] at hc
        cases hc
  · intro y z hy hz hne
    by_cases h1 : y = x
    · subst h1
      rw [if_pos rfl, if_neg (fun e => hne e.symm)]
      rw [Qdo _ _ _ _ (fun e => hne e.symm)] at hz
      obtain ⟨tz, htz⟩ := Option.isSome_iff_exists.1 hz
      have := (h.at' z tz htz).2.2.lt
      show g ≠ (F z).1
      omega
    · rw [Qdo _ _ _ _ h1] at hy
      obtain ⟨ty, hty⟩ := Option.isSome_iff_exists.1 hy
      have := (h.at' y ty hty).2.2.lt
      rw [if_neg h1]
      by_cases h2 : z = x
      · rw [if_pos h2]
        show (F y).1 ≠ g
        omega
      · rw [if_neg h2]
        rw [Qdo _ _ _ _ h2] at hz
        exact h.apart y z hy hz hne
def RwsG (W : World) (B b n : Nat) (E : Int → Option (List Nd)) (gw : Nat) : Prop := ∃ D F, RwsAt W B b n E D F ∧ ∀ x t, E x = some t → (F x).1 ≠ gw
theorem RwsG.rws {W : World} {B b n gw : Nat} {E : Int → Option (List Nd)} (h : RwsG W B b n E gw) : Rws W B b n E := by
  obtain ⟨D, F, h, _⟩ := h
  exact ⟨D, F, h⟩
theorem RwsG.but {S : Nat → Prop} {W W' : World} {B b n gw : Nat} {E : Int → Option (List Nd)} (h : RwsG W B b n E gw) (hb : But (fun i => S i ∨ i = gw) W W') (hS : ∀ k, S k → k ≠ b ∧ ∀ cur, W.heap[k]? ≠ some (.cells cur 43 (0, 0))) (hgb : gw ≠ b) {gw' : Nat} (hg' : gw' = gw ∨ W.heap.size ≤ gw') : RwsG W' B b n E gw' := by
  obtain ⟨D, F, h, hne⟩ := h
  refine ⟨D, F, ⟨Qem h.own (hb.block b h.own.lt ?_), h.has, fun x t hx => ?_, h.apart⟩, fun x t hx => ?_⟩
  · rintro (h9 | h9)
    · exact (hS b h9).1 rfl
    · exact hgb h9.symm
  · obtain ⟨h1, h2, h3⟩ := h.at' x t hx
    refine ⟨h1, h2, hb.row h3 ?_⟩
    obtain ⟨cur, rest, hc, _⟩ := h3
    rintro (h9 | h9)
    · exact (hS _ h9).2 _ hc
    · exact hne x t hx h9
  · have h1 := (h.at' x t hx).2.2.lt
    rcases hg' with rfl | h9
    · exact hne x t hx
    · omega
theorem RwsG.store {W0 W : World} {B b n g c gw : Nat} {E : Int → Option (List Nd)} {t : List Nd} (h : RwsG W0 B b n E gw) (hb : Below W0.heap.size W0 W) (hn : n < maxLen) {x : Int} (hx : (Lit.int .i64 x).wf = true) (hr : Row W g t) (hg : W0.heap.size ≤ g) (hB : B ≤ W0.heap.size) (hgw : gw < W0.heap.size) :
    ∃ W2, (Instr.mapUpdate 67 (.map (some b)) (.int .i64 x) (.slice (some ⟨g, 0, none⟩) t.length c)).run Tryz.prog W = .ok () W2 ∧ RwsG W2 B b (n + 1) (upE E x t) gw ∧ W.grownBy W2 (some b) := by
  obtain ⟨D, F, h, hne⟩ := h
  obtain ⟨W2, h1, ⟨D2, h2⟩, h3⟩ := h.store (c := c) hb hn hx hr hg hB
  refine ⟨W2, h1, ⟨D2, _, h2, fun y t' hy => ?_⟩, h3⟩
  by_cases e : y = x
  · simp only [e, if_true]
    omega
  · simp only [e, if_false]
    rw [Qdo _ _ _ _ e] at hy
    exact hne y t' hy
end Go.Proofs.YtoiiibplkhedcaaGreatDoor

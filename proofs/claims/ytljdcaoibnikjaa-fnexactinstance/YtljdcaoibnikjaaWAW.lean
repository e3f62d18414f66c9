import Derived.Test.YtljdcaoibnikjaaWAA
import Derived.Test.YtljdcaoibnikjaaSInst
namespace Go.Proofs.Ytljdcaoibnikjaa

/-- The least predicate that F makes. -/
def Lfp {α : Type} (F : (α → Prop) → α → Prop) (x : α) : Prop := ∀ R : α → Prop, (∀ y, F R y → R y) → R x

/-- F keeps what it is told when it is told more. -/
def Grows {α : Type} (F : (α → Prop) → α → Prop) : Prop := ∀ (R R' : α → Prop) (x : α), (∀ y, R y → R' y) → F R x → F R' x

theorem Lfp.fold {α : Type} {F : (α → Prop) → α → Prop} (hm : Grows F) {x : α} (h : F (Lfp F) x) : Lfp F x :=
  fun R hR => hR x (hm _ R x (fun _ hy => hy R hR) h)

theorem Lfp.ind {α : Type} {F : (α → Prop) → α → Prop} (hm : Grows F) {p : α → Prop} (hp : ∀ y, F (fun z => Lfp F z ∧ p z) y → p y) {x : α} (h : Lfp F x) : p x :=
  (h (fun y => Lfp F y ∧ p y) (fun y hy => ⟨Lfp.fold hm (hm _ _ y (fun _ hz => hz.1) hy), hp y hy⟩)).2

end Go.Proofs.Ytljdcaoibnikjaa

namespace Go.Proofs.Ytljdcaoibnikjaa

open Go.RowKit

theorem alike_same (xs : List Nd) : Alike Nd.eqb xs xs := ⟨rfl, fun _ _ _ => Nd.eqb_refl _⟩

/-- An answer that lies between two blocks. -/
def BIn (w : World) (B C : Nat) (ao : Option Addr) (bs : List (Int × List Nd)) : Prop := bs = [] ∨ ∃ g rs, ao = some ⟨g, 0, none⟩ ∧ (B ≤ g ∧ g < C) ∧ (∀ r ∈ rs, B ≤ r.1 ∧ r.1 < C) ∧ TwoR w g rs bs

theorem BAns.within {w : World} {B : Nat} {ao : Option Addr} {bs : List (Int × List Nd)} (h : BAns w B ao bs) : BIn w B w.heap.size ao bs := by
  rcases h with h | ⟨g, rs, e, h1, h2, hr⟩
  · exact Or.inl h
  · exact Or.inr ⟨g, rs, e, ⟨h1, hr.lt⟩, fun r hm => ⟨h2 r hm, (hr.mem_lt r hm).1⟩, hr⟩

theorem BIn.binds {w : World} {B C : Nat} {ao : Option Addr} {bs : List (Int × List Nd)} (h : BIn w B C ao bs) : Binds w ao bs := by
  rcases h with rfl | ⟨g, rs, rfl, _, _, hr⟩
  · exact fun i hi => by simp at hi
  · exact hr.binds

theorem BIn.below {w w' : World} {B C : Nat} {ao : Option Addr} {bs : List (Int × List Nd)} (h : BIn w B C ao bs) (hb : Below w.heap.size w w') : BIn w' B C ao bs := by
  rcases h with rfl | ⟨g, rs, rfl, h1, h2, hr⟩
  · exact Or.inl rfl
  · exact Or.inr ⟨g, rs, rfl, h1, h2, hr.below hb⟩

theorem BIn.but {S : Nat → Prop} {w w' : World} {B C : Nat} {ao : Option Addr} {bs : List (Int × List Nd)} (h : BIn w B C ao bs) (hb : But S w w') (hS : ∀ q, q < C → ¬ S q) : BIn w' B C ao bs := by
  rcases h with rfl | ⟨g, rs, rfl, h1, h2, hr⟩
  · exact Or.inl rfl
  · exact Or.inr ⟨g, rs, rfl, h1, h2, hr.but hb (hS g h1.2) (fun r hm => hS r.1 (h2 r hm).2)⟩

theorem total_bound (bs : List (Int × List Nd)) (c : Nat) (h : ∀ b ∈ bs, b.2.length ≤ c) : total (tys bs) ≤ bs.length * c := by
  induction bs with
  | nil => simp [tys, total]
  | cons b bs ih =>
    have h1 := h b (List.mem_cons_self ..)
    have h2 := ih (fun x hx => h x (List.mem_cons_of_mem _ hx))
    simp only [tys, total, List.map_cons, List.sum_cons, List.length_cons] at h2 ⊢
    rw [Nat.add_mul]
    omega

set_option maxHeartbeats 2000000 in
theorem lawInst (xs ys : List Nd) (ao bo : Option Addr) (ca cb : Nat) (w : World) (hx : Nodes w ao xs) (hy : Nodes w bo ys)
    (hsx : ∀ x ∈ xs, x.text.size ≤ maxLen) (hlx : xs.length ≤ 9223372036854775807) (hsy : ∀ x ∈ ys, x.text.size ≤ maxLen) (hly : ys.length ≤ 9223372036854775807)
    (hI : ∀ (n m g h : Nat) (W : World), xs.length = n → n ≤ 1048576 → ys.length = m → m ≤ 1048576 → Row W g xs → Row W h ys → Calls Try.prog 8 #[.slice (some ⟨g, 0, none⟩) n n, .slice (some ⟨h, 0, none⟩) m m] W fun e w' => ∃ ag cg bs b, e = .returned (.tuple #[.slice ag bs.length cg, .bool b]) ∧ InstRes xs ys bs b ∧ BAns w' W.heap.size ag bs ∧ Below W.heap.size W w') :
    Calls Try.prog 3 #[.slice ao xs.length ca, .slice bo ys.length cb] w fun e w' => e = .returned (.bool true) ∧ Below w.heap.size w w' := by
  obtain ⟨n, hnn⟩ : ∃ n, xs.length = n := ⟨_, rfl⟩
  obtain ⟨m, hmm⟩ : ∃ m, ys.length = m := ⟨_, rfl⟩
  have HNX : Hid (xs.length = n) := hnn
  have HNY : Hid (ys.length = m) := hmm
  have hzx := szNodeS_any xs ao ca 1048576 w hx hsx hlx (by omega) (by omega)
  have hzy := fun (r : Int) (w0 : World) (h : Nodes w0 bo ys) (h0 : 0 ≤ r) (h1 : r ≤ 1048576) => szNodeS_any ys bo cb r w0 h hsy hly h0 h1
  rw [hnn] at hlx hzx ⊢
  rw [hmm] at hly ⊢
  simp only [hmm] at hzy
  go_enter Try.func3, Try.ntmps3
  go_wp2_with fail
  refine hzx.mono ?_
  rintro e w0 ⟨⟨r0, rfl, hr⟩, b0⟩
  rcases hr with hr | ⟨hr0, hr1⟩
  · subst hr
    clear hx hy hsx hsy hI hzx hzy
    go_wp2
    go_ret
    exact ⟨rfl, b0⟩
  have hr2 : r0 ≤ 1048576 := by omega
  have hnl : n ≤ 1048576 := by omega
  have hy0 := hy.below b0
  have tr0 : decide (r0 < 0) = false := decide_eq_false (by omega)
  have HHX : Hid (Nodes w ao xs) := hx
  have HHY : Hid (Nodes w bo ys) := hy
  have HI0 := hI
  have hz2 := hzy r0 w0 hy0 hr0 hr2
  clear hsx hx hy hI hzx hzy hsy hy0
  go_wp2_with fail
  refine hz2.mono ?_
  rintro e w1 ⟨⟨r, rfl, hr⟩, b1⟩
  have b1 := Below.step b0 b1
  clear b0 hz2
  rcases hr with hr | ⟨hr3, hr4⟩
  · subst hr
    clear HI0
    go_wp2
    go_ret
    exact ⟨rfl, b1⟩
  have hml : m ≤ 1048576 := by omega
  have tr : decide (r < 0) = false := decide_eq_false (by omega)
  clear hr4 hr1 hlx hly
  have TOX : Hid (∀ W, Below w.heap.size w W → Calls Try.prog 7 #[.slice ao n ca] W fun e w' => ∃ g, e = .returned (.slice (some ⟨g, 0, none⟩) n n) ∧ W.heap.size ≤ g ∧ Row w' g xs ∧ Below W.heap.size W w') := by
    intro W hW
    have h9 := toNodeS_any xs ao ca W (HHX.out.below hW) (by omega)
    rw [hnn] at h9
    exact h9
  have TOY : Hid (∀ W, Below w.heap.size w W → Calls Try.prog 7 #[.slice bo m cb] W fun e w' => ∃ g, e = .returned (.slice (some ⟨g, 0, none⟩) m m) ∧ W.heap.size ≤ g ∧ Row w' g ys ∧ Below W.heap.size W w') := by
    intro W hW
    have h9 := toNodeS_any ys bo cb W (HHY.out.below hW) (by omega)
    rw [hmm] at h9
    exact h9
  -- w0, w1
  go_wp2_with fail
  refine (TOX.out w1 b1).mono ?_
  rintro e w2 ⟨ga, rfl, _, RA, b2⟩
  have b2 := Below.step b1 b2
  clear b1
  go_wp2_with fail
  refine (TOY.out w2 b2).mono ?_
  rintro e w3 ⟨gc, rfl, _, RC, b3⟩
  have RA := RA.below b3
  have b3 := Below.step b2 b3
  clear b2
  go_wp2_with fail
  refine (specInst_any xs ys n m HNX HNY hnl hml ga gc w3 RA RC).mono ?_
  rintro e w4 ⟨aw, cw, p, Z, z, rfl, hp, hRes, RW, hPB, hp3, b4⟩
  have HP : Hid (Z.length = p) := hp
  have htz : total (tys Z) ≤ 1048576 := by have := total_bound Z 300 (fun b hb => (hPB b hb).1); omega
  have HPB : Hid (∀ b ∈ Z, b.2.length ≤ 1048576) := fun b hb => by have := (hPB b hb).1; omega
  have HI : Hid (∀ (g h : Nat) (W : World), Row W g xs → Row W h ys → Calls Try.prog 8 #[.slice (some ⟨g, 0, none⟩) n n, .slice (some ⟨h, 0, none⟩) m m] W fun e w' => ∃ ag cg, e = .returned (.tuple #[.slice ag p cg, .bool z]) ∧ BAns w' W.heap.size ag Z ∧ Below W.heap.size W w') := by
    intro g h W h1 h2
    refine (HI0 n m g h W hnn hnl hmm hml h1 h2).mono ?_
    rintro e w' ⟨ag, cg, bs, b, rfl, hr, ha, hb⟩
    obtain ⟨rfl, rfl⟩ := inst_res_same hRes hr
    exact ⟨ag, cg, by rw [hp], ha, hb⟩
  have tzz0 : (z != z) = false := by simp
  have RW := RW.within
  have b4 := Below.step b3 b4
  clear b3 RA RC hPB hRes HI0 hp hnn hmm
  -- x0, x1
  go_wp2_with fail
  refine (TOX.out w4 b4).mono ?_
  rintro e w5 ⟨gx, rfl, hgx, RX, b5⟩
  obtain ⟨C4, hC4⟩ : ∃ C, w4.heap.size = C := ⟨_, rfl⟩
  rw [hC4] at RW hgx
  have hwC : w.heap.size ≤ C4 := by have := b4.size; omega
  have RW := RW.below b5
  have b5 := Below.step b4 b5
  clear b4 hC4
  go_wp2_with fail
  refine (TOY.out w5 b5).mono ?_
  rintro e w6 ⟨gy, rfl, hgy, RY, b6⟩
  have lg5 := RX.lt
  have RW := RW.below b6
  have RX := RX.below b6
  have lg6 := RY.lt
  have hs56 := b6.size
  have b6 := Below.step b5 b6
  clear b5
  -- g0, g1
  go_wp2_with fail
  refine (HI.out gx gy w6 RX RY).mono ?_
  rintro e w7 ⟨ag, cg, rfl, RG, b7⟩
  obtain ⟨B7, hB7⟩ : ∃ B, w6.heap.size = B := ⟨_, rfl⟩
  rw [hB7] at RG lg6 hs56
  have hw7 : w.heap.size ≤ B7 := by have := b6.size; omega
  have RW := RW.below b7
  have RX := RX.below b7
  have RY := RY.below b7
  have b7 := Below.step b6 b7
  clear b6 hB7
  go_wp2_with fail
  refine (eqBindS_same Z p HP _ _ _ _ w7 RG.binds RW.binds HPB.out (by omega)).mono ?_
  rintro e w8 ⟨rfl, b8⟩
  have RW := RW.below b8
  have RX := RX.below b8
  have RY := RY.below b8
  have RG := RG.below b8
  have b8 := Below.step b7 b8
  clear b7
  go_wp2_with fail
  refine (TOX.out w8 b8).mono ?_
  rintro e w9 ⟨g9, rfl, _, R9, b9⟩
  have RW := RW.below b9
  have RX := RX.below b9
  have RY := RY.below b9
  have RG := RG.below b9
  have b9 := Below.step b8 b9
  clear b8
  go_wp2_with fail
  refine (eqNodeS_any xs xs n n HNX HNX _ _ _ _ w9 RX.nodes R9.nodes (by omega) (by omega)).mono ?_
  rintro e w10 ⟨⟨u, rfl, hu⟩, b10⟩
  have hu1 : u = true := hu.2 (alike_same xs)
  subst hu1
  have RW := RW.below b10
  have RX := RX.below b10
  have RY := RY.below b10
  have RG := RG.below b10
  have b10 := Below.step b9 b10
  clear b9 R9 hu
  go_wp2_with fail
  refine (TOY.out w10 b10).mono ?_
  rintro e w11 ⟨g11, rfl, _, R11, b11⟩
  have RW := RW.below b11
  have RX := RX.below b11
  have RY := RY.below b11
  have RG := RG.below b11
  have b11 := Below.step b10 b11
  clear b10
  go_wp2_with fail
  refine (eqNodeS_any ys ys m m HNY HNY _ _ _ _ w11 RY.nodes R11.nodes (by omega) (by omega)).mono ?_
  rintro e w12 ⟨⟨u, rfl, hu⟩, b12⟩
  have hu1 : u = true := hu.2 (alike_same ys)
  subst hu1
  have RW := RW.below b12
  have RX := RX.below b12
  have RY := RY.below b12
  have RG := RG.below b12
  have b12 := Below.step b11 b12
  clear b11 R11 hu
  -- marks of the arguments
  go_wp2_with fail
  refine (markNodeS_any xs n gx n 1 w12 HNX RX (by omega) (by omega) (by omega)).mono ?_
  rintro e w13 ⟨rfl, _, bu⟩
  have RW := RW.but bu (fun q hq h => by omega)
  have RG := RG.but bu (fun q hq h => by omega)
  have RY := bu.row RY (by omega)
  have b13 : Below w.heap.size w w13 := b12.trans (bu.below b12.size (fun q hq => by omega))
  clear b12 RX bu
  obtain ⟨km, hkm⟩ : ∃ km, 1 + 5 * n = km := ⟨_, rfl⟩
  have hkm1 : km ≤ 10000000 := by omega
  have hkm0 : 0 < km := by omega
  rw [hkm]
  clear hkm
  go_wp2_with fail
  refine (markNodeS_any ys m gy m km w13 HNY RY (by omega) (by omega) hkm0).mono ?_
  rintro e w14 ⟨rfl, _, bu⟩
  have RW := RW.but bu (fun q hq h => by omega)
  have RG := RG.but bu (fun q hq h => by omega)
  have b14 : Below w.heap.size w w14 := b13.trans (bu.below b13.size (fun q hq => by omega))
  clear b13 RY bu
  obtain ⟨kn, hkn⟩ : ∃ kn, km + 5 * m = kn := ⟨_, rfl⟩
  have hkn1 : kn ≤ 200000000 := by omega
  rw [hkn]
  have tk : decide ((kn : Int) < 0) = false := decide_eq_false (by omega)
  clear hkn
  go_wp2_with fail
  refine (eqBindS_same Z p HP _ _ _ _ w14 RG.binds RW.binds HPB.out (by omega)).mono ?_
  rintro e w15 ⟨rfl, b15⟩
  have RW := RW.below b15
  have RG := RG.below b15
  have b15 := Below.step b14 b15
  clear b14
  -- m, q
  go_wp2_with fail
  refine (markBindS_ans Z p B7 ag cg 1 w15 HP RG htz (by omega) (by omega) (by omega)).mono ?_
  rintro e w16 ⟨rfl, RM, bu⟩
  have RW := RW.but bu (fun q hq h => by have : B7 ≤ q := h; omega)
  have b16 : Below w.heap.size w w16 := b15.trans (bu.below b15.size (fun q hq => by have : B7 ≤ q := hq; omega))
  clear b15 RG bu
  obtain ⟨kz, hkz⟩ : ∃ kz, 1 + p + 5 * total (tys Z) = kz := ⟨_, rfl⟩
  have HKZ : Hid (1 + p + 5 * total (tys Z) = kz) := hkz
  have hkz1 : kz ≤ 200000000 := by omega
  rw [hkz]
  have tz : decide ((kz : Int) < 0) = false := decide_eq_false (by omega)
  have tzz : ((kz : Int) != (kz : Int)) = false := by simp
  clear hkz
  go_wp2_with fail
  refine (heldBindS_ans Z p B7 ag cg 1 w16 HP RM htz (by omega) (by omega) (by omega)).mono ?_
  rintro e w17 ⟨rfl, b17⟩
  rw [HKZ.out]
  have RW := RW.below b17
  have RM := RM.below b17
  have b17 := Below.step b16 b17
  clear b16
  -- h0, h1
  go_wp2_with fail
  refine (TOX.out w17 b17).mono ?_
  rintro e w18 ⟨g18, rfl, _, R18, b18⟩
  have RW := RW.below b18
  have RM := RM.below b18
  have b18 := Below.step b17 b18
  clear b17
  go_wp2_with fail
  refine (TOY.out w18 b18).mono ?_
  rintro e w19 ⟨g19, rfl, _, R19, b19⟩
  have RW := RW.below b19
  have RM := RM.below b19
  have R18 := R18.below b19
  have b19 := Below.step b18 b19
  clear b18
  go_wp2_with fail
  refine (HI.out g18 g19 w19 R18 R19).mono ?_
  rintro e w20 ⟨ah, ch, rfl, RH, b20⟩
  have RW := RW.below b20
  have RM := RM.below b20
  have b20 := Below.step b19 b20
  clear b19 R18 R19
  go_wp2_with fail
  refine (eqBindS_same Z p HP _ _ _ _ w20 RH.binds RW.binds HPB.out (by omega)).mono ?_
  rintro e w21 ⟨rfl, b21⟩
  have RM := RM.below b21
  have b21 := Below.step b20 b21
  clear b20 RH RW
  go_wp2_with fail
  refine (heldBindS_ans Z p B7 ag cg 1 w21 HP RM htz (by omega) (by omega) (by omega)).mono ?_
  rintro e w22 ⟨rfl, b22⟩
  rw [HKZ.out]
  have b22 := Below.step b21 b22
  clear b21 RM
  go_wp2
  go_ret
  exact ⟨rfl, b22⟩

end Go.Proofs.Ytljdcaoibnikjaa

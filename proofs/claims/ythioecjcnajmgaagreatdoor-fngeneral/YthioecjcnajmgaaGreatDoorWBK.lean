import Derived.Test.YthioecjcnajmgaaGreatDoorWBB
import Derived.Test.YthioecjcnajmgaaGreatDoorWAS
import Derived.Test.YthioecjcnajmgaaGreatDoorWBF
import Derived.Test.YthioecjcnajmgaaGreatDoorProg
import Derived.WalkKit
import Derived.LaidEql
import Derived.Stop.Asserts
import Derived.RowKitTokens
namespace Go.Proofs.YthioecjcnajmgaaGreatDoor

open Go.RowKit

def AreRes (ps : List (List Nd × List Nd)) (e : Ending) : Prop := ∃ ok : Bool, e = .returned (.bool ok) ∧ (ok = true ↔ Valid ps)

theorem AreRes.no {ps : List (List Nd × List Nd)} (h : ¬ Valid ps) : AreRes ps (.returned (.bool false)) := ⟨false, rfl, by simp [h]⟩

theorem AreRes.yes {ps : List (List Nd × List Nd)} (h : Valid ps) : AreRes ps (.returned (.bool true)) := ⟨true, rfl, by simp [h]⟩

set_option maxRecDepth 20000 in
set_option maxHeartbeats 2000000 in
theorem areTypes_any (ps : List (List Nd × List Nd)) (m : Nat) (HM : Hid (ps.length = m)) (hm : m ≤ 1048576) (HPL : Hid (∀ p ∈ ps, p.1.length ≤ 1048576 ∧ p.2.length ≤ 1048576)) (ao : Option Addr) (cap : Nat) (w : World) (hx : Pairs w ao ps) :
    Calls Tryz.prog 33 #[.slice ao m cap] w fun e w' => AreRes ps e ∧ Below w.heap.size w w' := by
  obtain ⟨z, hz⟩ : ∃ z, w.heap.size = z := ⟨_, rfl⟩
  have HXB : Hid (∀ wr, Below z w wr → Pairs wr ao ps) := fun wr h => hx.below (by rw [hz]; exact h)
  clear hx
  go_enter Tryz.func33, Tryz.ntmps33
  go_wp2
  go_loopw [3, 8] (fun vt vi wr => ∃ i : Nat, i ≤ m ∧ vi = .int .i64 (i : Int) ∧ vt = .int .i64 (pairSum ps i : Int) ∧ pairSum ps i ≤ 20000 ∧ (∀ p ∈ ps.take i, typeb p.1 = true ∧ typeb p.2 = true) ∧ Below z w wr) (fun _ vi _ => m - (intOf vi).toNat)
  case atStart => exact ⟨0, Nat.zero_le _, rfl, rfl, by simp [pairSum], by simp, by rw [← hz]; exact Below.refl _ _⟩
  case round =>
    obtain ⟨i, him, rfl, rfl, hsum, hall, hb⟩ := hrel
    have hbz := hb.size
    by_cases hlt : i < m
    · have hltx : i < ps.length := by have := HM.out; omega
      obtain ⟨b, o, a1, c1, a2, c2, hao, e1, e2, hn1, hn2⟩ := HXB.out wr hb i hltx
      subst hao
      obtain ⟨A, hA⟩ : ∃ A, ps[i].1 = A := ⟨_, rfl⟩
      obtain ⟨C, hC⟩ : ∃ C, ps[i].2 = C := ⟨_, rfl⟩
      rw [hA] at e1 hn1
      rw [hC] at e2 hn2
      obtain ⟨la, hla⟩ : ∃ la, A.length = la := ⟨_, rfl⟩
      obtain ⟨lc, hlc⟩ : ∃ lc, C.length = lc := ⟨_, rfl⟩
      rw [hla] at e1
      rw [hlc] at e2
      have hpl := HPL.out ps[i] (List.getElem_mem hltx)
      rw [hA, hC, hla, hlc] at hpl
      obtain ⟨t, ht⟩ : ∃ t, pairSum ps i = t := ⟨_, rfl⟩
      have HT : Hid (pairSum ps (i + 1) = t + la + lc) := by
        show pairSum ps (i + 1) = _
        rw [pairSum_succ hltx, ht, hA, hC, hla, hlc]
      have HLA : Hid (A.length = la) := hla
      have HLC : Hid (C.length = lc) := hlc
      rw [ht] at hsum
      rw [ht]
      have HBAD : Hid ((¬ pairSum ps (i + 1) ≤ 20000 ∨ typeb A = false ∨ typeb C = false) → ¬ Valid ps) := by
        intro h9 hv
        have hmem : ps[i] ∈ ps := List.getElem_mem hltx
        rcases h9 with h9 | h9 | h9
        · have := pairSum_le ps (i + 1)
          have := hv.1
          omega
        · rw [← hA, (hv.2 _ hmem).1] at h9; cases h9
        · rw [← hC, (hv.2 _ hmem).2] at h9; cases h9
      have HALL : Hid (typeb A = true → typeb C = true → ∀ p ∈ ps.take (i + 1), typeb p.1 = true ∧ typeb p.2 = true) := by
        intro h1 h2 p hp
        rw [List.take_succ_eq_append_getElem hltx] at hp
        rcases List.mem_append.1 hp with h9 | h9
        · exact hall p h9
        · simp only [List.mem_singleton] at h9
          subst h9
          rw [hA, hC]
          exact ⟨h1, h2⟩
      have hbl : b < wr.heap.size := lt_of_cell e1
      clear ht hla hlc hA hC hall
      by_cases h20 : t + la + lc > 20000
      · have h20' : (20000 : Int) < (t : Int) + ((la : Int) + (lc : Int)) := by omega
        have HN : Hid (¬ Valid ps) := HBAD.out (.inl (by rw [HT.out]; omega))
        clear hn1 hn2
        go_wp2
        go_ret
        exact ⟨AreRes.no HN.out, by rw [hz]; exact hb.alloc (by omega) _⟩
      · have h20' : (t : Int) + ((la : Int) + (lc : Int)) ≤ 20000 := by omega
        have hA : Below wr.heap.size wr (wr.alloc (.cells #[.slice a1 la c1, .slice a2 lc c2] 30)) := (Below.refl _ wr).alloc (Nat.le_refl _) _
        have q1 : (wr.alloc (.cells #[.slice a1 la c1, .slice a2 lc c2] 30)).cell? ⟨wr.heap.size, 1, none⟩ = some (.slice a2 lc c2) := by
          rw [cell_of_row _ _ _ _ 30 (0, 0) (heap_alloc_new _ _)]; rfl
        have hlW := lt_of_cell q1
        have HC1 := iIsType_any A la HLA hpl.1 a1 c1 _ (hn1.below hA)
        have hnC := hn2.below hA
        have hbW := hb.trans (hA.mono (by omega))
        clear hn1 hn2 hb hA
        go_wp2_with fail
        refine HC1.mono ?_
        rintro e W1 ⟨rfl, hb3⟩
        have hb4 := hbW.trans (hb3.mono (by have := hbW.size; omega))
        have hnC1 := hnC.below hb3
        have q1' := (hb3.cell (p := ⟨wr.heap.size, 1, none⟩) hlW).trans q1
        have hl1 := lt_of_cell q1'
        have HC2 := iIsType_any C lc HLC hpl.2 a2 c2 W1 hnC1
        clear hbW hb3 hnC q1 hlW HC1 hnC1 e1 e2 hbl
        cases hta : typeb A
        · have HN : Hid (¬ Valid ps) := HBAD.out (.inr (.inl hta))
          clear HC2
          go_wp2
          go_ret
          exact ⟨AreRes.no HN.out, by rw [hz]; exact hb4⟩
        · go_wp2_with fail
          refine HC2.mono ?_
          rintro e W2 ⟨rfl, hb5⟩
          have hb6 := hb4.trans (hb5.mono (by have := hb4.size; omega))
          clear HC2 hb4 hb5 q1' hl1
          cases htc : typeb C
          · have HN : Hid (¬ Valid ps) := HBAD.out (.inr (.inr htc))
            go_wp2
            go_ret
            exact ⟨AreRes.no HN.out, by rw [hz]; exact hb6⟩
          · have HAL : Hid (∀ p ∈ ps.take (i + 1), typeb p.1 = true ∧ typeb p.2 = true) := HALL.out hta htc
            have HT2 : Hid (pairSum ps (i + 1) ≤ 20000) := by show pairSum ps (i + 1) ≤ 20000; rw [HT.out]; omega
            go_wp2
            go_roundw
            case rel => exact ⟨i + 1, by omega, by go_num, by rw [HT.out]; go_num, HT2.out, HAL.out, hb6⟩
            case measure => simp [intOf]; omega
    · have hie : i = m := by omega
      subst hie
      have hse : pairSum ps i = (ps.map fun p => p.1.length + p.2.length).sum := by
        unfold pairSum
        rw [List.take_of_length_le (by have := HM.out; omega)]
      have HV : Hid (Valid ps) := by
        refine ⟨by omega, ?_⟩
        rw [List.take_of_length_le (by have := HM.out; omega)] at hall
        exact hall
      clear hall
      go_wp2
      go_ret
      exact ⟨AreRes.yes HV.out, by rw [hz]; exact hb⟩

end Go.Proofs.YthioecjcnajmgaaGreatDoor

namespace Go.Proofs.YthioecjcnajmgaaGreatDoor

open Go.RowKit Go.Extern.Stop Go.Stop Go.Extern

/-! errors.As at the two targets that the program asks for. -/

theorem as_nil (t : Value) (w : World) :
    Calls Tryz.prog 35 #[.nilIface, t] w fun e w' => e = .returned (.bool false) ∧ w' = w := by
  go_enter Tryz.func35, Tryz.ntmps35
  go_wp2
  go_ret
  exact ⟨rfl, rfl⟩

theorem rlm (z : Sem Value) (f : TypeId → Addr → Nat → Nat → Sem Value) (v : Value) :
    ReflectliteValue.method z f #[v] = (do match ← ReflectliteValue.parts v with | none => z | some (t, a, fl) => f t a fl (fl % 32)) := rfl
theorem rls (v x : Value) : ReflectliteValue.set #[v, x] = (do
    let (some (dst, a, fl), some (src, b, _)) := (← ReflectliteValue.parts v, ← ReflectliteValue.parts x)
      | unsupported (.noEntry "extern/(internal/reflectlite.Value).Set.zeroValue")
    if fl / ReflectliteValue.flagAddr % 2 == 0 then unsupported (.noEntry "extern/(internal/reflectlite.Value).Set.unaddressable")
    let val ← loadVar src b
    if ← Rtype.directlyAssignable dst src then storeVar dst a val
    else if ← Rtype.implements dst src then
      if (← Rtype.kind src) == 20 then
        match val with
        | .nilIface => unsupported (.noEntry "extern/reflectlite: a nil value of one interface type handed on as a value of another")
        | _ => storeVar dst a val
      else storeVar dst a (.iface src val)
    else panicString ("reflectlite.Set: value of type " ++ (← Rtype.spelt src) ++ " is not assignable to type " ++ (← Rtype.spelt dst))
    pure (.tuple #[])) := rfl
theorem Tryz.methodKind (h : Value) (w : World) : (Go.method 332 163 (.agg #[h]) "Kind").run Tryz.prog w = .ok (122, h) w := by kernel_rfl
theorem Tryz.methodElem (h : Value) (w : World) : (Go.method 332 163 (.agg #[h]) "Elem").run Tryz.prog w = .ok (134, .agg #[h]) w := by kernel_rfl
theorem Tryz.methodImplements (h : Value) (w : World) : (Go.method 332 163 (.agg #[h]) "Implements").run Tryz.prog w = .ok (135, .agg #[h]) w := by kernel_rfl
theorem Tryz.methodAssignableTo (h : Value) (w : World) : (Go.method 332 163 (.agg #[h]) "AssignableTo").run Tryz.prog w = .ok (132, .agg #[h]) w := by kernel_rfl

theorem Tryz.valueOfPU (t : Addr) (w : World) : (ReflectliteValue.unpack (.iface 81 (.pointer (some t)))).run Tryz.prog w
    = .ok (.agg #[.pointer (some ⟨2, 81, none⟩), .pointer (some ⟨w.heap.size, 0, none⟩), .int .u64 150]) (w.alloc (.cells #[.pointer (some t)] 81)) := by kernel_rfl
theorem Tryz.typePU (a : Addr) (w : World) : (ReflectliteValue.methodAny (ReflectliteValue.valueError "reflectlite.Value.Type" 0) (fun t _ _ _ => ReflectliteType.toType t) #[.agg #[.pointer (some ⟨2, 81, none⟩), .pointer (some a), .int .u64 150]]).run Tryz.prog w
    = .ok (.iface 163 (.agg #[.pointer (some ⟨2, 81, none⟩)])) w := by kernel_rfl
theorem Tryz.kindPU (w : World) : ((ReflectliteType.abiMethod fun t => (fun a : Nat => Value.int IntKind.u8 (a : Int)) <$> Rtype.kind t) #[.pointer (some ⟨2, 81, none⟩)]).run Tryz.prog w = .ok (.int .u8 22) w := by kernel_rfl
theorem Tryz.kindU (w : World) : ((ReflectliteType.abiMethod fun t => (fun a : Nat => Value.int IntKind.u8 (a : Int)) <$> Rtype.kind t) #[.pointer (some ⟨2, 79, none⟩)]).run Tryz.prog w = .ok (.int .u8 22) w := by kernel_rfl
theorem Tryz.partsPU (a : Addr) (w : World) : (ReflectliteValue.parts (.agg #[.pointer (some ⟨2, 81, none⟩), .pointer (some a), .int .u64 150])).run Tryz.prog w = .ok (some (81, a, 150)) w := by kernel_rfl
theorem Tryz.isNilPU (a p : Addr) (W : World) (ha : W.cell? a = some (.pointer (some p))) :
    (ReflectliteValue.method (ReflectliteValue.valueError "reflectlite.Value.IsNil" 0) ReflectliteValue.isNil #[.agg #[.pointer (some ⟨2, 81, none⟩), .pointer (some a), .int .u64 150]]).run Tryz.prog W = .ok (.bool false) W := by
  rw [rlm]
  simp only [Sem.run_bind, Tryz.partsPU, Result.andThen]
  simp [ReflectliteValue.isNil, loadVar, isAgg, underlying, Tryz.underlying81, ha, Result.andThen]
theorem Tryz.elemPU (w : World) : (ReflectliteType.method ReflectliteType.elem #[.agg #[.pointer (some ⟨2, 81, none⟩)]]).run Tryz.prog w = .ok (.iface 163 (.agg #[.pointer (some ⟨2, 79, none⟩)])) w := by kernel_rfl
theorem Tryz.implementsU (w : World) : (ReflectliteType.relation "Implements" ReflectliteType.implements_ #[.agg #[.pointer (some ⟨2, 79, none⟩)], .iface 163 (.agg #[.pointer (some ⟨2, 67, none⟩)])]).run Tryz.prog w = .ok (.bool true) w := by kernel_rfl
theorem Tryz.typeOfU (v : Value) (w : World) : (ReflectliteType.typeOf #[.iface 79 v]).run Tryz.prog w = .ok (.iface 163 (.agg #[.pointer (some ⟨2, 79, none⟩)])) w := by kernel_rfl
theorem Tryz.assignableU (w : World) : (ReflectliteType.relation "AssignableTo" ReflectliteType.assignableTo #[.agg #[.pointer (some ⟨2, 79, none⟩)], .iface 163 (.agg #[.pointer (some ⟨2, 79, none⟩)])]).run Tryz.prog w = .ok (.bool true) w := by kernel_rfl
theorem Tryz.valueOfU (e : Addr) (w : World) : (ReflectliteValue.unpack (.iface 79 (.pointer (some e)))).run Tryz.prog w
    = .ok (.agg #[.pointer (some ⟨2, 79, none⟩), .pointer (some ⟨w.heap.size, 0, none⟩), .int .u64 150]) (w.alloc (.cells #[.pointer (some e)] 79)) := by kernel_rfl
theorem Tryz.elemOfU (w : World) : (Rtype.elem? 81).run Tryz.prog w = .ok (some 79) w := by kernel_rfl
theorem Tryz.mkU (p : Addr) (w : World) : (ReflectliteValue.mk 79 p ReflectliteValue.flagAddr).run Tryz.prog w = .ok (.agg #[.pointer (some ⟨2, 79, none⟩), .pointer (some p), .int .u64 406]) w := by kernel_rfl
theorem Tryz.elemVU (a p : Addr) (W : World) (ha : W.cell? a = some (.pointer (some p))) :
    (ReflectliteValue.method (ReflectliteValue.valueError "reflectlite.Value.Elem" 0) ReflectliteValue.elem #[.agg #[.pointer (some ⟨2, 81, none⟩), .pointer (some a), .int .u64 150]]).run Tryz.prog W
      = .ok (.agg #[.pointer (some ⟨2, 79, none⟩), .pointer (some p), .int .u64 406]) W := by
  rw [rlm]
  simp only [Sem.run_bind, Tryz.partsPU, Result.andThen]
  simp [ReflectliteValue.elem, loadVar, isAgg, underlying, Tryz.underlying81, ha, Result.andThen, Tryz.elemOfU, Tryz.mkU]
theorem Tryz.partsUa (a : Addr) (w : World) : (ReflectliteValue.parts (.agg #[.pointer (some ⟨2, 79, none⟩), .pointer (some a), .int .u64 406])).run Tryz.prog w = .ok (some (79, a, 406)) w := by kernel_rfl
theorem Tryz.partsU (a : Addr) (w : World) : (ReflectliteValue.parts (.agg #[.pointer (some ⟨2, 79, none⟩), .pointer (some a), .int .u64 150])).run Tryz.prog w = .ok (some (79, a, 150)) w := by kernel_rfl
theorem Tryz.directU (w : World) : (Rtype.directlyAssignable 79 79).run Tryz.prog w = .ok true w := by kernel_rfl
theorem Tryz.setU (ta b e : Addr) (old : Value) (W : World) (hb : W.cell? b = some (.pointer (some e))) (ht : W.cell? ta = some old) (hf : W.frozen? ta = false) :
    (ReflectliteValue.set #[.agg #[.pointer (some ⟨2, 79, none⟩), .pointer (some ta), .int .u64 406], .agg #[.pointer (some ⟨2, 79, none⟩), .pointer (some b), .int .u64 150]]).run Tryz.prog W
      = .ok (.tuple #[]) (W.setCell ta (.pointer (some e))) := by
  rw [rls]
  simp only [Sem.run_bind, Tryz.partsUa, Tryz.partsU, Result.andThen]
  simp [ReflectliteValue.flagAddr, loadVar, isAgg, underlying, Tryz.underlying79, hb, Result.andThen, Tryz.directU, storeVar, Value.cells, storeCells, Addr.add]
  rw [run_store Tryz.prog W ta _ _ (by rfl)]
  simp [ht, hf]

theorem Tryz.valueOfPC (t : Addr) (w : World) : (ReflectliteValue.unpack (.iface 140 (.pointer (some t)))).run Tryz.prog w
    = .ok (.agg #[.pointer (some ⟨2, 140, none⟩), .pointer (some ⟨w.heap.size, 0, none⟩), .int .u64 150]) (w.alloc (.cells #[.pointer (some t)] 140)) := by kernel_rfl
theorem Tryz.typePC (a : Addr) (w : World) : (ReflectliteValue.methodAny (ReflectliteValue.valueError "reflectlite.Value.Type" 0) (fun t _ _ _ => ReflectliteType.toType t) #[.agg #[.pointer (some ⟨2, 140, none⟩), .pointer (some a), .int .u64 150]]).run Tryz.prog w
    = .ok (.iface 163 (.agg #[.pointer (some ⟨2, 140, none⟩)])) w := by kernel_rfl
theorem Tryz.kindPC (w : World) : ((ReflectliteType.abiMethod fun t => (fun a : Nat => Value.int IntKind.u8 (a : Int)) <$> Rtype.kind t) #[.pointer (some ⟨2, 140, none⟩)]).run Tryz.prog w = .ok (.int .u8 22) w := by kernel_rfl
theorem Tryz.kindC (w : World) : ((ReflectliteType.abiMethod fun t => (fun a : Nat => Value.int IntKind.u8 (a : Int)) <$> Rtype.kind t) #[.pointer (some ⟨2, 123, none⟩)]).run Tryz.prog w = .ok (.int .u8 22) w := by kernel_rfl
theorem Tryz.partsPC (a : Addr) (w : World) : (ReflectliteValue.parts (.agg #[.pointer (some ⟨2, 140, none⟩), .pointer (some a), .int .u64 150])).run Tryz.prog w = .ok (some (140, a, 150)) w := by kernel_rfl
theorem Tryz.isNilPC (a p : Addr) (W : World) (ha : W.cell? a = some (.pointer (some p))) :
    (ReflectliteValue.method (ReflectliteValue.valueError "reflectlite.Value.IsNil" 0) ReflectliteValue.isNil #[.agg #[.pointer (some ⟨2, 140, none⟩), .pointer (some a), .int .u64 150]]).run Tryz.prog W = .ok (.bool false) W := by
  rw [rlm]
  simp only [Sem.run_bind, Tryz.partsPC, Result.andThen]
  simp [ReflectliteValue.isNil, loadVar, isAgg, underlying, Tryz.underlying140, ha, Result.andThen]
theorem Tryz.elemPC (w : World) : (ReflectliteType.method ReflectliteType.elem #[.agg #[.pointer (some ⟨2, 140, none⟩)]]).run Tryz.prog w = .ok (.iface 163 (.agg #[.pointer (some ⟨2, 123, none⟩)])) w := by kernel_rfl
theorem Tryz.implementsC (w : World) : (ReflectliteType.relation "Implements" ReflectliteType.implements_ #[.agg #[.pointer (some ⟨2, 123, none⟩)], .iface 163 (.agg #[.pointer (some ⟨2, 67, none⟩)])]).run Tryz.prog w = .ok (.bool true) w := by kernel_rfl
theorem Tryz.typeOfC (v : Value) (w : World) : (ReflectliteType.typeOf #[.iface 123 v]).run Tryz.prog w = .ok (.iface 163 (.agg #[.pointer (some ⟨2, 123, none⟩)])) w := by kernel_rfl
theorem Tryz.assignableC (w : World) : (ReflectliteType.relation "AssignableTo" ReflectliteType.assignableTo #[.agg #[.pointer (some ⟨2, 123, none⟩)], .iface 163 (.agg #[.pointer (some ⟨2, 123, none⟩)])]).run Tryz.prog w = .ok (.bool true) w := by kernel_rfl
theorem Tryz.valueOfC (e : Addr) (w : World) : (ReflectliteValue.unpack (.iface 123 (.pointer (some e)))).run Tryz.prog w
    = .ok (.agg #[.pointer (some ⟨2, 123, none⟩), .pointer (some ⟨w.heap.size, 0, none⟩), .int .u64 150]) (w.alloc (.cells #[.pointer (some e)] 123)) := by kernel_rfl
theorem Tryz.elemOfC (w : World) : (Rtype.elem? 140).run Tryz.prog w = .ok (some 123) w := by kernel_rfl
theorem Tryz.mkC (p : Addr) (w : World) : (ReflectliteValue.mk 123 p ReflectliteValue.flagAddr).run Tryz.prog w = .ok (.agg #[.pointer (some ⟨2, 123, none⟩), .pointer (some p), .int .u64 406]) w := by kernel_rfl
theorem Tryz.elemVC (a p : Addr) (W : World) (ha : W.cell? a = some (.pointer (some p))) :
    (ReflectliteValue.method (ReflectliteValue.valueError "reflectlite.Value.Elem" 0) ReflectliteValue.elem #[.agg #[.pointer (some ⟨2, 140, none⟩), .pointer (some a), .int .u64 150]]).run Tryz.prog W
      = .ok (.agg #[.pointer (some ⟨2, 123, none⟩), .pointer (some p), .int .u64 406]) W := by
  rw [rlm]
  simp only [Sem.run_bind, Tryz.partsPC, Result.andThen]
  simp [ReflectliteValue.elem, loadVar, isAgg, underlying, Tryz.underlying140, ha, Result.andThen, Tryz.elemOfC, Tryz.mkC]
theorem Tryz.partsCa (a : Addr) (w : World) : (ReflectliteValue.parts (.agg #[.pointer (some ⟨2, 123, none⟩), .pointer (some a), .int .u64 406])).run Tryz.prog w = .ok (some (123, a, 406)) w := by kernel_rfl
theorem Tryz.partsC (a : Addr) (w : World) : (ReflectliteValue.parts (.agg #[.pointer (some ⟨2, 123, none⟩), .pointer (some a), .int .u64 150])).run Tryz.prog w = .ok (some (123, a, 150)) w := by kernel_rfl
theorem Tryz.directC (w : World) : (Rtype.directlyAssignable 123 123).run Tryz.prog w = .ok true w := by kernel_rfl
theorem Tryz.setC (ta b e : Addr) (old : Value) (W : World) (hb : W.cell? b = some (.pointer (some e))) (ht : W.cell? ta = some old) (hf : W.frozen? ta = false) :
    (ReflectliteValue.set #[.agg #[.pointer (some ⟨2, 123, none⟩), .pointer (some ta), .int .u64 406], .agg #[.pointer (some ⟨2, 123, none⟩), .pointer (some b), .int .u64 150]]).run Tryz.prog W
      = .ok (.tuple #[]) (W.setCell ta (.pointer (some e))) := by
  rw [rls]
  simp only [Sem.run_bind, Tryz.partsCa, Tryz.partsC, Result.andThen]
  simp [ReflectliteValue.flagAddr, loadVar, isAgg, underlying, Tryz.underlying123, hb, Result.andThen, Tryz.directC, storeVar, Value.cells, storeCells, Addr.add]
  rw [run_store Tryz.prog W ta _ _ (by rfl)]
  simp [ht, hf]

theorem Tryz.notUC (w : World) : (ReflectliteType.relation "AssignableTo" ReflectliteType.assignableTo #[.agg #[.pointer (some ⟨2, 79, none⟩)], .iface 163 (.agg #[.pointer (some ⟨2, 123, none⟩)])]).run Tryz.prog w = .ok (.bool false) w := by kernel_rfl
theorem Tryz.notEC (w : World) : (ReflectliteType.relation "AssignableTo" ReflectliteType.assignableTo #[.agg #[.pointer (some ⟨2, 200, none⟩)], .iface 163 (.agg #[.pointer (some ⟨2, 123, none⟩)])]).run Tryz.prog w = .ok (.bool false) w := by kernel_rfl
theorem Tryz.typeOfE (v : Value) (w : World) : (ReflectliteType.typeOf #[.iface 200 v]).run Tryz.prog w = .ok (.iface 163 (.agg #[.pointer (some ⟨2, 200, none⟩)])) w := by kernel_rfl
theorem Tryz.noAsU (v : Value) (xT : TypeId) (w : World) : (Instr.typeAssert (.iface 79 v) xT 168 true).run Tryz.prog w = .ok (.tuple #[.nilIface, .bool false]) w := run_typeAssert_lacksB Tryz.underlying168 (by kernel_rfl) (by kernel_rfl) v xT w
theorem Tryz.hasUnU (v : Value) (xT : TypeId) (w : World) : (Instr.typeAssert (.iface 79 v) xT 171 true).run Tryz.prog w = .ok (.tuple #[.iface 79 v, .bool true]) w := run_typeAssert_hasB Tryz.underlying171 (by kernel_rfl) v xT w
theorem Tryz.noAsE (v : Value) (xT : TypeId) (w : World) : (Instr.typeAssert (.iface 200 v) xT 168 true).run Tryz.prog w = .ok (.tuple #[.nilIface, .bool false]) w := run_typeAssert_lacksB Tryz.underlying168 (by kernel_rfl) (by kernel_rfl) v xT w
theorem Tryz.noUnE (v : Value) (xT : TypeId) (w : World) : (Instr.typeAssert (.iface 200 v) xT 171 true).run Tryz.prog w = .ok (.tuple #[.nilIface, .bool false]) w := run_typeAssert_lacksB Tryz.underlying171 (by kernel_rfl) (by kernel_rfl) v xT w
theorem Tryz.noUsE (v : Value) (xT : TypeId) (w : World) : (Instr.typeAssert (.iface 200 v) xT 173 true).run Tryz.prog w = .ok (.tuple #[.nilIface, .bool false]) w := run_typeAssert_lacksB Tryz.underlying173 (by kernel_rfl) (by kernel_rfl) v xT w
theorem Tryz.methodUnwrap (v : Value) (w : World) : (Go.method 332 79 v "Unwrap").run Tryz.prog w = .ok (126, v) w := by kernel_rfl

end Go.Proofs.YthioecjcnajmgaaGreatDoor

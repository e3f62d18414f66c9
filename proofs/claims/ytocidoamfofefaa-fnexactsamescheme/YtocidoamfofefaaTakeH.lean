
import Derived.Test.YtocidoamfofefaaYAA
import Derived.Deep.RegionHeld3
namespace Go.Proofs.Ytocidoamfofefaa

/-- A take of an operation of a drawn region whose slot is told: what it leaves can be laid out at once. -/
theorem take_in {P : Program} {ops : Array Oper} {Q : Exit → Act → World → Prop} {md : Region.Mode} {S : World → Prop} {fuel : Nat} {listed : Array Bool} {tmps : Array Value} {defers : List Deferred} {w : World} (i d : Nat) {oi : Oper} {v : Value}
    (hi : ops[i]? = some oi) (hd : oi.dst = some d) (hs : Region.noSelect ops = true) (hf : Region.free md ops listed i = true) (hr : (Region.ready md ops listed).contains i = true)
    (hQ : ∀ c a w, Q (.panic c) (a.put oi.dst v) w → Q (.panic c) a w) (hy : YieldsIf P ops S oi v ⟨tmps, defers⟩) (hS : S w)
    (h : wpAnyH P md ops Q S fuel (listed.setIfInBounds i true) ⟨tmps.setIfInBounds d v, defers⟩ w) : wpAnyH P md ops Q S (fuel + 1) listed ⟨tmps, defers⟩ w := by
  refine wpAnyH_take hi hs hf hr hQ hy hS ?_
  have e : Act.put ⟨tmps, defers⟩ oi.dst v = ⟨tmps.setIfInBounds d v, defers⟩ := by rw [hd]; rfl
  rw [e]
  exact h

end Go.Proofs.Ytocidoamfofefaa

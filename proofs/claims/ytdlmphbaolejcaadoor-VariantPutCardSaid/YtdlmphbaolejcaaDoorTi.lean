/- The law on Put at a path, walked. -/
import Derived.Test.YtdlmphbaolejcaaDoorTh
import Derived.Test.YtdlmphbaolejcaaDoorVk
import Derived.Test.YtdlmphbaolejcaaDoorYw
import Derived.Test.YtdlmphbaolejcaaDoorYe
namespace Go.Proofs.YtdlmphbaolejcaaDoor
open Go.RowKit

theorem getV_ok {x : V} {q : List Stp} (hx : x.valid = true) (hq : pathB q = true) : ∃ a is, getV x q = (a, is, 0) := by
  unfold getV
  rw [if_pos (by rw [hx, hq]; rfl)]
  cases atV x q with
  | none => exact ⟨_, _, rfl⟩
  | some y => exact ⟨_, _, rfl⟩
theorem put_law {x y z : V} {p : List Stp} (h : putOut x p z = (y, 0)) : x.valid = true ∧ y.valid = true ∧ getV y p = (z, true, 0) ∧ ∀ q, pathB q = true → ¬ p <+: q → ¬ q <+: p → getV y q = getV x q := by
  unfold putOut at h
  split at h
  · rename_i hv
    rw [Bool.and_eq_true, Bool.and_eq_true] at hv
    obtain ⟨hx, hp, hz⟩ := hv
    split at h
    · rename_i h0
      split at h
      · rename_i hy
        have e : y = (putV x p z).1 := (Prod.mk.inj h).1.symm
        have hok := (valid_nodes hx).1
        have ha : ∀ q : List Stp, pathB q = true → q.all stepB = true := fun q hq => by unfold pathB at hq; rw [Bool.and_eq_true] at hq; exact hq.2
        rw [← e] at hy
        refine ⟨hx, hy, ?_, fun q hq n1 n2 => ?_⟩
        · unfold getV
          rw [if_pos (by rw [hy, hp]; rfl), e, put_get p x z hok (ha p hp) h0]
        · unfold getV
          rw [hy, hx, hq, e, put_other p x z q hok (ha p hp) (ha q hq) h0 n1 n2]
      · have := (Prod.mk.inj h).2; simp at this
    · rename_i h0
      exact absurd (Prod.mk.inj h).2 h0
  · have := (Prod.mk.inj h).2; simp at this
theorem GetPost.form2 {x y : V} {p : List Stp} {b : Bool} {n : Int} (hy : getV x p = (y, b, n)) {w w' : World} {e : Ending} (h : GetPost x p w e w') :
    ∃ A c K d, e = .returned (.tuple #[.agg #[.int .i64 y.kind, .int .i64 y.int, .string y.text, .slice A y.items.length c, .slice K y.keys.length d], .bool b, .int .i64 n]) ∧ Lies w' w'.heap.size y A c K d ∧ Below w.heap.size w w' := by
  unfold GetPost at h
  rw [hy] at h
  exact h
end Go.Proofs.YtdlmphbaolejcaaDoor

/- Measure, Valid, Size. -/
import Derived.Test.YtoddlacfbeckiaaDoorWd
import Derived.Deep.QuietTactic
import Derived.BigQuiet
namespace Go.Proofs.YtoddlacfbeckiaaDoor
open Go.RowKit

def MeasPost (x : V) (w : World) (e : Ending) (w' : World) : Prop :=
  ∃ n' d' : Nat, e = .returned (.tuple #[.int .i64 n', .int .i64 d', .bool x.valid]) ∧ (x.valid = true → n' = x.nodes ∧ d' = x.depth) ∧ Below w.heap.size w w'

theorem addB_valid (x : V) : addB x 0 0 1 = x.valid := by
  unfold addB V.valid V.fits
  simp

set_option maxRecDepth 100000 in
set_option maxHeartbeats 1000000 in
theorem measure_any (x : V) (w : World) (A K : Option Addr) (c d : Nat) (h : Lies w w.heap.size x A c K d) :
    Calls Tryd.prog 35 #[.agg #[.int .i64 x.kind, .int .i64 x.int, .string x.text, .slice A x.items.length c, .slice K x.keys.length d]] w (MeasPost x w) := by
  have HS := Lib.hid fun W (hW : Below w.heap.size w W) (pb : Nat) hpb hblk => add_any x.nodes x W w.heap.size A K c d pb 0 0 1 (Nat.le_refl _) (h.below hW) hpb hblk (by omega) (by omega) (by omega) (by omega) 1 rfl
  go_enter Tryd.func35, Tryd.ntmps35
  go_wp2_with fail
  refine (HS.out _ ?_ _ ?_ ?_).mono ?_
  · exact ((Below.refl _ _).alloc (Nat.le_refl _) _).alloc (by simp) _
  · omega
  · exact Blk.newAt _ _ _ (by simp)
  rintro e w' ⟨rfl, hg, n', d', hb, heq⟩
  rw [addB_valid] at heq ⊢
  have HB := Lib.hid hb
  have HG := Lib.hid hg
  have HE := Lib.hid heq
  have b0 := hb.cell 0
  have b1 := hb.cell 1
  obtain ⟨v, hv⟩ : ∃ v, v = x.valid := ⟨_, rfl⟩
  have HV := Lib.hid hv
  rw [← hv]
  clear hb hg heq hv
  go_wp2_with fail
  go_quiet (fail)
  go_wp2_with fail
  go_ret3
  go_light
  refine ⟨n', d', by rw [← HV.out]; rfl, fun hx => by have := HE.out hx; omega, below_drewN ?_ _⟩
  exact (((Below.refl w.heap.size w).alloc (Nat.le_refl _) _).alloc (by simp) _).trans (below_grow HG.out (by simp; omega) (fun r hr => by cases hr; omega))

set_option maxHeartbeats 1000000 in
theorem valid_any (x : V) (w : World) (A K : Option Addr) (c d : Nat) (h : Lies w w.heap.size x A c K d) :
    Calls Tryd.prog 16 #[.agg #[.int .i64 x.kind, .int .i64 x.int, .string x.text, .slice A x.items.length c, .slice K x.keys.length d]] w fun e w' => e = .returned (.bool x.valid) ∧ Below w.heap.size w w' := by
  have HS := Lib.hid fun W (hW : Below w.heap.size w W) => measure_any x W A K c d (Lies.keep (bcell hW) hW.size _ h)
  go_enter Tryd.func16, Tryd.ntmps16
  go_wp2_with fail
  refine (HS.out _ ((Below.refl _ _).alloc (Nat.le_refl _) _)).mono ?_
  rintro e w' ⟨n', d', rfl, _, hb⟩
  go_wp2_with fail
  go_ret
  go_light
  exact ⟨rfl, ((Below.refl _ _).alloc (Nat.le_refl _) _).trans (hb.mono (by simp))⟩

def SizePost (x : V) (w : World) (e : Ending) (w' : World) : Prop :=
  e = .returned (if x.valid then .tuple #[.int .i64 x.nodes, .int .i64 x.depth, .int .i64 0] else .tuple #[.int .i64 0, .int .i64 0, .int .i64 1]) ∧ Below w.heap.size w w'

set_option maxHeartbeats 1000000 in
theorem size_any (x : V) (w : World) (A K : Option Addr) (c d : Nat) (h : Lies w w.heap.size x A c K d) :
    Calls Tryd.prog 12 #[.agg #[.int .i64 x.kind, .int .i64 x.int, .string x.text, .slice A x.items.length c, .slice K x.keys.length d]] w (SizePost x w) := by
  have HS := Lib.hid fun W (hW : Below w.heap.size w W) => measure_any x W A K c d (Lies.keep (bcell hW) hW.size _ h)
  go_enter Tryd.func12, Tryd.ntmps12
  go_wp2_with fail
  refine (HS.out _ ((Below.refl _ _).alloc (Nat.le_refl _) _)).mono ?_
  rintro e w' ⟨n', d', rfl, he, hb⟩
  have HE := Lib.hid he
  clear he
  cases hv : x.valid
  all_goals have HV := Lib.hid hv
  all_goals clear hv
  · go_wp2_with fail
    go_ret3
    go_light
    exact ⟨by rw [HV.out]; rfl, ((Below.refl _ _).alloc (Nat.le_refl _) _).trans (hb.mono (by simp))⟩
  · go_wp2_with fail
    go_ret3
    go_light
    exact ⟨by obtain ⟨e1, e2⟩ := HE.out HV.out; rw [HV.out, e1, e2]; rfl, ((Below.refl _ _).alloc (Nat.le_refl _) _).trans (hb.mono (by simp))⟩
end Go.Proofs.YtoddlacfbeckiaaDoor

/- Reading: a value. -/
import Derived.Test.YtchadlbhdcpojaaDoorWu
import Derived.Recover
namespace Go.Proofs.YtchadlbhdcpojaaDoor
open Go.RowKit

theorem lies_put {w w3 w4 : World} {x : V} {A K : Option Addr} {c q : Nat} (h : LiesIn (Fresh w3 w4) w4 x A c K q) (hs : w.heap.size + 1 ≤ w3.heap.size) (a b e d f : Value) : LiesIn (Fresh w (put5 w4 w.heap.size 0 a b e d f)) (put5 w4 w.heap.size 0 a b e d f) x A c K q :=
  LiesIn.keep (fun i _ hb => World.cell?_of_block (put5_heap _ _ _ _ _ _ _ _ (show i ≠ w.heap.size by have := hb.1; omega))) (fun _ hb => ⟨by have := hb.1; omega, by rw [put5_size]; exact hb.2⟩) x h
theorem vp_zero {n : Nat} {l : List UInt8} : valueP 0 n l = none := rfl
theorem vp_many {L n : Nat} {l : List UInt8} (h : ¬ n + 1 ≤ 60) : valueP (L + 1) n l = none := by rw [valueP, if_neg h]
theorem vp_end {L n : Nat} {l : List UInt8} (h : n + 1 ≤ 60) (h2 : skipP l = []) : valueP (L + 1) n l = none := by rw [valueP, if_pos h, h2]
theorem vp_cons {L n : Nat} {l r : List UInt8} {c : UInt8} (h : n + 1 ≤ 60) (h2 : skipP l = c :: r) : valueP (L + 1) n l = (if c = 91 then (seriesP (stepL (valueP L)) 93 91 [] (n + 1) (c :: r)).map fun q => (V.mk 4 0 ⟨#[]⟩ q.1 [], q.2)
        else if c = 123 then (seriesP (stepO (valueP L)) 125 123 ([], []) (n + 1) (c :: r)).map fun q => (V.mk 5 0 ⟨#[]⟩ q.1.2 q.1.1, q.2)
        else if c = 34 then (quotedP (c :: r)).map fun q => (leaf 3 0 ⟨q.1.toArray⟩, q.2, n + 1)
        else if c = 110 ∨ c = 102 ∨ c = 116 then (nameP (c :: r)).map fun q => (q.1, q.2, n + 1)
        else numberP (c :: r) (n + 1)) := by
  rw [valueP, if_pos h, h2]

end Go.Proofs.YtchadlbhdcpojaaDoor
/- Reading: values of whatever depth. -/
namespace Go.Proofs.YtchadlbhdcpojaaDoor
open Go.RowKit

end Go.Proofs.YtchadlbhdcpojaaDoor

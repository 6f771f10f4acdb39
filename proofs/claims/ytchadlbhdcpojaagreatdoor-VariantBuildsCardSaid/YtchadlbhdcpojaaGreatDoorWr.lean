/- Reading: a list. -/
import Derived.Test.YtchadlbhdcpojaaGreatDoorWl
import Derived.Test.YtchadlbhdcpojaaGreatDoorPv
import Derived.Test.YtchadlbhdcpojaaGreatDoorMa
import Derived.Deep.AppendLies
import Derived.Deep.RegionHeld3
import Derived.Deep.DrawnRows
namespace Go.Proofs.YtchadlbhdcpojaaGreatDoor
open Go.RowKit

def zeroF : Array Value := #[.int .i64 0, .int .i64 0, .string ⟨#[]⟩, .slice none 0 0, .slice none 0 0]
def put5 (W : World) (g o : Nat) (a b c d e : Value) : World := ((((W.setCell ⟨g, o, none⟩ a).setCell ⟨g, o + 1, none⟩ b).setCell ⟨g, o + 2, none⟩ c).setCell ⟨g, o + 3, none⟩ d).setCell ⟨g, o + 4, none⟩ e
theorem own_form {W : World} {base n size : Nat} {e : TypeId} {v : Value} {xs : List Value} (h : W.ownsRow base e size v n xs) : ∃ A c, v = .slice A n c := by
  obtain ⟨hl, ⟨rfl, h0⟩ | ⟨g, cap, cur, hv, hB, hc, hn, hcap, hcs, ht⟩⟩ := h
  · exact ⟨none, 0, by rw [h0]⟩
  · exact ⟨_, _, hv⟩
theorem own_heap {W W' : World} {base n size : Nat} {e : TypeId} {v : Value} {xs : List Value} (h : W.ownsRow base e size v n xs) (he : W'.heap = W.heap) : W'.ownsRow base e size v n xs := by
  unfold World.ownsRow at *; rw [he]; exact h

theorem row_apart {v : Value} {g H b : Nat} (h : v.ownBlock = some g ∨ g = H) (h1 : some b ≠ v.ownBlock) (h2 : b < H) : ¬ b = g := by
  rcases h with h | h
  · exact fun e => h1 (by rw [h, e])
  · omega

/-- Behind a store into another block. -/
theorem own_set_far {W : World} {base n size : Nat} {e : TypeId} {v : Value} {xs : List Value} (h : W.ownsRow base e size v n xs) (p : Addr) (u : Value) (hp : some p.block ≠ v.ownBlock) : (W.setCell p u).ownsRow base e size v n xs := by
  refine h.kept (row := some p.block) (World.grownBy.mk rfl rfl rfl (by simp [World.setCell]) (fun k _ hk => Below.heap_setCell _ p u k (fun e => hk (by rw [e])))) ?_
  rcases hv : v.ownBlock with _ | q
  · exact .inl rfl
  · exact .inr (by rw [hv] at hp; exact fun e => hp e.symm)
theorem put5_heap (W : World) (g o : Nat) (a b c d e : Value) {k : Nat} (h : k ≠ g) : (put5 W g o a b c d e).heap[k]? = W.heap[k]? := by
  unfold put5
  rw [Below.heap_setCell _ _ _ _ h, Below.heap_setCell _ _ _ _ h, Below.heap_setCell _ _ _ _ h, Below.heap_setCell _ _ _ _ h, Below.heap_setCell _ _ _ _ h]
theorem put5_size (W : World) (g o : Nat) (a b c d e : Value) : (put5 W g o a b c d e).heap.size = W.heap.size := by simp [put5, World.setCell]
end Go.Proofs.YtchadlbhdcpojaaGreatDoor
/- Reading: a list, walked. -/
namespace Go.Proofs.YtchadlbhdcpojaaGreatDoor
open Go.RowKit

attribute [local go_sem ↓] Go.wp_at_zero Go.wp_at_succ
end Go.Proofs.YtchadlbhdcpojaaGreatDoor
/- Reading: a list, whole. -/
namespace Go.Proofs.YtchadlbhdcpojaaGreatDoor
open Go.RowKit

end Go.Proofs.YtchadlbhdcpojaaGreatDoor

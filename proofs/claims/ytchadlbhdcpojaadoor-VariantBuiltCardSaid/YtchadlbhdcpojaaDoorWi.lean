/- Reading: the signs. -/
import Derived.Test.YtchadlbhdcpojaaDoorPa
import Derived.Test.YtchadlbhdcpojaaDoorMa
import Derived.Test.YtchadlbhdcpojaaDoorRa
import Derived.Deep.RegionHeld3
import Derived.Deep.Light
import Derived.Test.YtchadlbhdcpojaaDoorShelf
namespace Go.Proofs.YtchadlbhdcpojaaDoor
open Go.RowKit

/-- The panic by which a text is refused. -/
def boom : List PanicEntry := [{ v := .iface 29 (.int .i64 14), recovered := false }]
def posOf (g : Nat) (w : World) : Nat := match w.cell? ⟨g, 1, none⟩ with | some (.int _ i) => i.toNat | _ => 0
theorem sk_blank {s : ByteArray} {k : Nat} (h : k < s.size) (hc : s[k].toNat = 32) : skipP (sfx s k) = skipP (sfx s (k + 1)) := by
  rw [sfx_cons h, skipP, if_pos (UInt8.toNat_inj.1 hc)]
theorem sk_other {s : ByteArray} {k : Nat} (h : k < s.size) (hc : ¬ s[k].toNat = 32) : skipP (sfx s k) = sfx s k := by
  rw [sfx_cons h, skipP, if_neg (fun e => hc (by rw [e]; rfl))]
theorem sk_end {s : ByteArray} {k : Nat} (h : ¬ k < s.size) : skipP (sfx s k) = sfx s k := by rw [sfx_nil h, skipP]

end Go.Proofs.YtchadlbhdcpojaaDoor
/- Reading: words. -/
namespace Go.Proofs.YtchadlbhdcpojaaDoor
open Go.RowKit

theorem hasPrefix_le {l p : List UInt8} (h : Lib.hasPrefix l p = true) : p.length ≤ l.length := by
  unfold Lib.hasPrefix at h
  exact (List.isPrefixOf_iff_prefix.1 h).length_le

def cellsOf (x : V) (A : Option Addr) (c : Nat) (K : Option Addr) (d : Nat) : Value := .agg #[.int .i64 x.kind, .int .i64 x.int, .string x.text, .slice A x.items.length c, .slice K x.keys.length d]
theorem lies_leaf (P : Nat → Prop) (w : World) (k i : Int) (t : ByteArray) (ht : t.size ≤ maxLen) : LiesIn P w (leaf k i t) none 0 none 0 := by
  unfold maxLen at ht
  simp [leaf, LiesIn, StrsIn, maxLen, ht]
theorem grow_refl (w : World) (r : Option Nat) : w.grownBy w r := ⟨rfl, rfl, rfl, Nat.le_refl _, fun _ _ _ => rfl⟩
end Go.Proofs.YtchadlbhdcpojaaDoor

/- Where a value lies in memory. -/
import Derived.Test.YtchadlbhdcpojaaGreatDoorPa
import Derived.Below
import Derived.RowKit
import Derived.WalkKit
import Derived.Laws.OwnMore
import Derived.Deep.Draws
import Derived.Lib.AppendZerosOnto
import Derived.Lib.Overlaps
namespace Go.Proofs.YtchadlbhdcpojaaGreatDoor
open Go.RowKit

/-- The strings of a list lie one behind the other, below block B. -/
def StrsFrom (w : World) : List ByteArray → Nat → Nat → Prop
  | [], _, _ => True
  | s :: r, b, o => w.cell? ⟨b, o, none⟩ = some (.string s) ∧ s.size ≤ maxLen ∧ StrsFrom w r b (o + 1)
def Strs (w : World) (B : Nat) (K : Option Addr) (d : Nat) (l : List ByteArray) : Prop :=
  l.length ≤ d ∧ d ≤ maxLen ∧ (l = [] ∨ ∃ b o, K = some ⟨b, o, none⟩ ∧ b < B ∧ StrsFrom w l b o)

mutual
/-- A value whose items lie at A, and its keys at K. -/
def Lies (w : World) (B : Nat) : V → Option Addr → Nat → Option Addr → Nat → Prop
  | .mk _ _ t items keys, A, c, K, d => t.size ≤ maxLen ∧ items.length ≤ c ∧ c ≤ maxLen ∧ Strs w B K d keys ∧ (items = [] ∨ ∃ b o, A = some ⟨b, o, none⟩ ∧ b < B ∧ LiesFrom w B items b o)
def LiesFrom (w : World) (B : Nat) : List V → Nat → Nat → Prop
  | [], _, _ => True
  | x :: r, b, o => (∃ A c K d, w.cell? ⟨b, o, none⟩ = some (.int .i64 x.kind) ∧ w.cell? ⟨b, o + 1, none⟩ = some (.int .i64 x.int) ∧ w.cell? ⟨b, o + 2, none⟩ = some (.string x.text) ∧
      w.cell? ⟨b, o + 3, none⟩ = some (.slice A x.items.length c) ∧ w.cell? ⟨b, o + 4, none⟩ = some (.slice K x.keys.length d) ∧ Lies w B x A c K d) ∧ LiesFrom w B r b (o + 5)
end

/-- A list of values that lies at A. -/
def LiesL (w : World) (B : Nat) (A : Option Addr) (c : Nat) (l : List V) : Prop :=
  l.length ≤ c ∧ c ≤ maxLen ∧ (l = [] ∨ ∃ b o, A = some ⟨b, o, none⟩ ∧ b < B ∧ LiesFrom w B l b o)

theorem StrsFrom.keep {w w' : World} {l : List ByteArray} {b o : Nat} (h : StrsFrom w l b o) (hk : ∀ o, w'.cell? ⟨b, o, none⟩ = w.cell? ⟨b, o, none⟩) : StrsFrom w' l b o := by
  induction l generalizing o with
  | nil => trivial
  | cons s r ih => exact ⟨(hk _).trans h.1, h.2.1, ih h.2.2⟩
theorem Strs.keep {w w' : World} {B B' d : Nat} {K : Option Addr} {l : List ByteArray} (h : Strs w B K d l) (hk : ∀ b o, b < B → w'.cell? ⟨b, o, none⟩ = w.cell? ⟨b, o, none⟩) (hB : B ≤ B') : Strs w' B' K d l := by
  obtain ⟨h1, h2, h3⟩ := h
  refine ⟨h1, h2, h3.imp id ?_⟩
  rintro ⟨b, o, hK, hb, hf⟩
  exact ⟨b, o, hK, by omega, hf.keep fun o => hk b o hb⟩
theorem StrsFrom.at_ {w : World} {l : List ByteArray} {b o : Nat} (h : StrsFrom w l b o) {k : Nat} {s : ByteArray} (hs : l[k]? = some s) : w.cell? ⟨b, o + k, none⟩ = some (.string s) ∧ s.size ≤ maxLen := by
  induction l generalizing o k with
  | nil => simp at hs
  | cons y r ih =>
    cases k with
    | zero => simp at hs; subst hs; exact ⟨h.1, h.2.1⟩
    | succ k => simp at hs; have := ih h.2.2 hs; rw [show o + (k + 1) = o + 1 + k by omega]; exact this
theorem Strs.at_ {w : World} {B d : Nat} {K : Option Addr} {l : List ByteArray} (h : Strs w B K d l) {k : Nat} (hk : k < l.length) :
    ∃ b o, K = some ⟨b, o, none⟩ ∧ b < B ∧ ∀ (j : Nat) (s : ByteArray), l[j]? = some s → w.cell? ⟨b, o + j, none⟩ = some (.string s) ∧ s.size ≤ maxLen := by
  obtain ⟨_, _, h3⟩ := h
  rcases h3 with rfl | ⟨b, o, hK, hb, hf⟩
  · simp at hk
  · exact ⟨b, o, hK, hb, fun j s hs => hf.at_ hs⟩

mutual
theorem Lies.keep {w w' : World} {B B' : Nat} (hk : ∀ b o, b < B → w'.cell? ⟨b, o, none⟩ = w.cell? ⟨b, o, none⟩) (hB : B ≤ B') : ∀ (x : V) {A c K d}, Lies w B x A c K d → Lies w' B' x A c K d
  | .mk _ _ _ items _, _, _, _, _, h => by
    obtain ⟨h1, h2, h3, h4, h5⟩ := h
    refine ⟨h1, h2, h3, h4.keep hk hB, h5.imp id ?_⟩
    rintro ⟨b, o, hA, hb, hf⟩
    exact ⟨b, o, hA, by omega, LiesFrom.keep hk hB items hb hf⟩
theorem LiesFrom.keep {w w' : World} {B B' : Nat} (hk : ∀ b o, b < B → w'.cell? ⟨b, o, none⟩ = w.cell? ⟨b, o, none⟩) (hB : B ≤ B') : ∀ (l : List V) {b o}, b < B → LiesFrom w B l b o → LiesFrom w' B' l b o
  | [], _, _, _, _ => trivial
  | x :: r, b, o, hb, h => by
    obtain ⟨⟨A, c, K, d, e0, e1, e2, e3, e4, hx⟩, hr⟩ := h
    exact ⟨⟨A, c, K, d, (hk _ _ hb).trans e0, (hk _ _ hb).trans e1, (hk _ _ hb).trans e2, (hk _ _ hb).trans e3, (hk _ _ hb).trans e4, Lies.keep hk hB x hx⟩, LiesFrom.keep hk hB r hb hr⟩
end
theorem LiesL.keep {w w' : World} {B B' c : Nat} {A : Option Addr} {l : List V} (h : LiesL w B A c l) (hk : ∀ b o, b < B → w'.cell? ⟨b, o, none⟩ = w.cell? ⟨b, o, none⟩) (hB : B ≤ B') : LiesL w' B' A c l := by
  obtain ⟨h1, h2, h3⟩ := h
  refine ⟨h1, h2, h3.imp id ?_⟩
  rintro ⟨b, o, hA, hb, hf⟩
  exact ⟨b, o, hA, by omega, LiesFrom.keep hk hB l hb hf⟩
theorem LiesFrom.at_ {w : World} {B : Nat} {l : List V} {b o : Nat} (h : LiesFrom w B l b o) {k : Nat} {x : V} (hx : l[k]? = some x) :
    ∃ A c K d, w.cell? ⟨b, o + k * 5, none⟩ = some (.int .i64 x.kind) ∧ w.cell? ⟨b, o + k * 5 + 1, none⟩ = some (.int .i64 x.int) ∧ w.cell? ⟨b, o + k * 5 + 2, none⟩ = some (.string x.text) ∧
      w.cell? ⟨b, o + k * 5 + 3, none⟩ = some (.slice A x.items.length c) ∧ w.cell? ⟨b, o + k * 5 + 4, none⟩ = some (.slice K x.keys.length d) ∧ Lies w B x A c K d := by
  induction l generalizing o k with
  | nil => simp at hx
  | cons y r ih =>
    rw [LiesFrom] at h
    cases k with
    | zero => simp at hx; subst hx; simpa using h.1
    | succ k => simp at hx; have := ih h.2 hx; rw [show o + (k + 1) * 5 = o + 5 + k * 5 by omega]; exact this
theorem LiesL.at_ {w : World} {B c : Nat} {A : Option Addr} {l : List V} (h : LiesL w B A c l) {k : Nat} (hk : k < l.length) :
    ∃ b o, A = some ⟨b, o, none⟩ ∧ b < B ∧ LiesFrom w B l b o := by
  obtain ⟨_, _, h3⟩ := h
  rcases h3 with rfl | h3
  · simp at hk
  · exact h3
theorem Lies.items {w : World} {B c d : Nat} {A K : Option Addr} {k i : Int} {t : ByteArray} {items : List V} {keys : List ByteArray} (h : Lies w B (.mk k i t items keys) A c K d) : LiesL w B A c items := by
  rw [Lies] at h; exact ⟨h.2.1, h.2.2.1, h.2.2.2.2⟩
theorem Lies.keys {w : World} {B c d : Nat} {A K : Option Addr} {k i : Int} {t : ByteArray} {items : List V} {keys : List ByteArray} (h : Lies w B (.mk k i t items keys) A c K d) : Strs w B K d keys := by
  rw [Lies] at h; exact h.2.2.2.1
theorem Lies.text {w : World} {B c d : Nat} {A K : Option Addr} {k i : Int} {t : ByteArray} {items : List V} {keys : List ByteArray} (h : Lies w B (.mk k i t items keys) A c K d) : t.size ≤ maxLen := by
  rw [Lies] at h; exact h.1

/-- What a world that kept all that there was gives. -/
theorem bcell {W w1 : World} {B : Nat} (hb : Below B W w1) : (∀ b o, b < B → w1.cell? ⟨b, o, none⟩ = W.cell? ⟨b, o, none⟩) :=
  fun b o h => hb.cell (p := ⟨b, o, none⟩) h
theorem bfro {W w1 : World} {B : Nat} (hb : Below B W w1) : (∀ b o, b < B → w1.frozen? ⟨b, o, none⟩ = W.frozen? ⟨b, o, none⟩) :=
  fun b o h => hb.frozen (p := ⟨b, o, none⟩) h
theorem Lies.below {w w' : World} {B : Nat} (hb : Below B w w') {x : V} {A c K d} (h : Lies w B x A c K d) : Lies w' B x A c K d := Lies.keep (bcell hb) (Nat.le_refl _) x h
end Go.Proofs.YtchadlbhdcpojaaGreatDoor
/- A world that has grown, and was written in one block alone. -/
namespace Go.Proofs.YtchadlbhdcpojaaGreatDoor
open Go.RowKit

theorem grow_trans {a b c : World} {row : Option Nat} (h : a.grownBy b row) (k : b.grownBy c row) : a.grownBy c row :=
  ⟨k.os.trans h.os, k.tape.trans h.tape, k.output.trans h.output, Nat.le_trans h.size k.size, fun i hi hne => (k.block i (Nat.lt_of_lt_of_le hi h.size) hne).trans (h.block i hi hne)⟩
theorem grow_alloc {a b : World} {row : Option Nat} (h : a.grownBy b row) (o : Obj) : a.grownBy (b.alloc o) row := grow_trans h (World.grownBy_alloc b o row)
theorem grow_drew {a b : World} {row : Option Nat} (h : a.grownBy b row) : a.grownBy b.drew row := ⟨h.os, h.tape, h.output, h.size, h.block⟩
theorem grow_set {a b : World} {r : Nat} (h : a.grownBy b (some r)) (p : Addr) (v : Value) (hp : p.block = r) : a.grownBy (b.setCell p v) (some r) :=
  ⟨h.os, h.tape, h.output, by simpa [World.setCell] using h.size, fun i hi hne => (Below.heap_setCell b p v i (fun e => hne (by rw [e, hp]))).trans (h.block i hi hne)⟩
theorem grow_none {a b : World} (h : Below a.heap.size a b) (row : Option Nat) : a.grownBy b row := ⟨h.os, h.tape, h.output, h.size, fun i hi _ => h.block i hi⟩
theorem grow_below {a b c : World} {row : Option Nat} (h : a.grownBy b row) (k : Below b.heap.size b c) : a.grownBy c row := grow_trans h (grow_none k row)
theorem below_grow {a b : World} {row : Option Nat} {B : Nat} (h : a.grownBy b row) (hB : B ≤ a.heap.size) (hr : ∀ r, row = some r → B ≤ r) : Below B a b :=
  ⟨h.os, h.tape, h.output, h.size, fun i hi => h.block i (by omega) (fun e => by have := hr i e.symm; omega)⟩
theorem below_drewN {a b : World} {B : Nat} (h : Below B a b) (n : Nat) : Below B a (b.drewN n) := ⟨h.os, h.tape, h.output, h.size, h.block⟩
theorem grow_drewN {a b : World} {row : Option Nat} (h : a.grownBy b row) (n : Nat) : a.grownBy (b.drewN n) row := ⟨h.os, h.tape, h.output, h.size, h.block⟩

/-- All of a block's cells are known, and none of them is frozen. -/
def BlockIs (w : World) (g : Nat) (t : TypeId) (cs : Array Value) : Prop := w.heap[g]? = some (Obj.cells cs t (0, 0))
theorem BlockIs.eq {w : World} {g : Nat} {t : TypeId} {cs : Array Value} (h : BlockIs w g t cs) : w.heap[g]? = some (Obj.cells cs t (0, 0)) := h
theorem BlockIs.to {w w' : World} {g : Nat} {t : TypeId} {cs : Array Value} (h : BlockIs w g t cs) (e : w'.heap[g]? = w.heap[g]?) : BlockIs w' g t cs := by
  show w'.heap[g]? = _
  rw [e]
  exact h.eq
theorem BlockIs.lt {w : World} {g : Nat} {t : TypeId} {cs : Array Value} (h : BlockIs w g t cs) : g < w.heap.size := (Array.getElem?_eq_some_iff.1 h.eq).1
theorem BlockIs.cell {w : World} {g : Nat} {t : TypeId} {cs : Array Value} (h : BlockIs w g t cs) (i : Nat) : w.cell? ⟨g, i, none⟩ = cs[i]? := by simp [World.cell?, h.eq]
theorem BlockIs.frozen {w : World} {g : Nat} {t : TypeId} {cs : Array Value} (h : BlockIs w g t cs) (i : Nat) : w.frozen? ⟨g, i, none⟩ = false := by simp [World.frozen?, h.eq]
theorem BlockIs.newAt (w : World) (t : TypeId) (cs : Array Value) {n : Nat} (hn : n = w.heap.size) : BlockIs (w.alloc (.cells cs t)) n t cs := hn ▸ heap_alloc_new w _
theorem BlockIs.new (w : World) (t : TypeId) (cs : Array Value) : BlockIs (w.alloc (.cells cs t)) w.heap.size t cs := BlockIs.newAt w t cs rfl
theorem BlockIs.drewN {w : World} {g : Nat} {t : TypeId} {cs : Array Value} (h : BlockIs w g t cs) (n : Nat) : BlockIs (w.drewN n) g t cs := h.to rfl
theorem BlockIs.drew {w : World} {g : Nat} {t : TypeId} {cs : Array Value} (h : BlockIs w g t cs) : BlockIs w.drew g t cs := h.to rfl
theorem BlockIs.alloc {w : World} {g : Nat} {t : TypeId} {cs : Array Value} (h : BlockIs w g t cs) (o : Obj) : BlockIs (w.alloc o) g t cs := h.to (Below.heap_alloc w o g h.lt)
theorem BlockIs.far {w : World} {g : Nat} {t : TypeId} {cs : Array Value} (h : BlockIs w g t cs) {p : Addr} (hp : g ≠ p.block) (u : Value) : BlockIs (w.setCell p u) g t cs := h.to (Below.heap_setCell w p u g hp)
theorem BlockIs.set_ {w : World} {g : Nat} {t : TypeId} {cs : Array Value} (h : BlockIs w g t cs) (i : Nat) (u : Value) : BlockIs (w.setCell ⟨g, i, none⟩ u) g t (cs.setIfInBounds i u) := by
  show (w.setCell ⟨g, i, none⟩ u).heap[g]? = _
  simp [World.setCell, Array.getElem?_modify, h.eq]
theorem BlockIs.below {w w' : World} {g : Nat} {t : TypeId} {cs : Array Value} {B : Nat} (h : BlockIs w g t cs) (hb : Below B w w') (hg : g < B) : BlockIs w' g t cs := h.to (hb.block g hg)
theorem BlockIs.grown {w w' : World} {g : Nat} {t : TypeId} {cs : Array Value} {row : Option Nat} (h : BlockIs w g t cs) (hb : w.grownBy w' row) (hg : some g ≠ row) : BlockIs w' g t cs := h.to (hb.block g h.lt hg)
end Go.Proofs.YtchadlbhdcpojaaGreatDoor
/- Where a value lies in memory, among blocks of a given sort; rows of values that a call owns. -/
namespace Go.Proofs.YtchadlbhdcpojaaGreatDoor
open Go.RowKit

def StrsIn (P : Nat → Prop) (w : World) (K : Option Addr) (d : Nat) (l : List ByteArray) : Prop :=
  l.length ≤ d ∧ d ≤ maxLen ∧ (l = [] ∨ ∃ b o, K = some ⟨b, o, none⟩ ∧ P b ∧ StrsFrom w l b o)
mutual
def LiesIn (P : Nat → Prop) (w : World) : V → Option Addr → Nat → Option Addr → Nat → Prop
  | .mk _ _ t items keys, A, c, K, d => t.size ≤ maxLen ∧ items.length ≤ c ∧ c ≤ maxLen ∧ StrsIn P w K d keys ∧ (items = [] ∨ ∃ b o, A = some ⟨b, o, none⟩ ∧ P b ∧ LiesFromIn P w items b o)
def LiesFromIn (P : Nat → Prop) (w : World) : List V → Nat → Nat → Prop
  | [], _, _ => True
  | x :: r, b, o => (∃ A c K d, w.cell? ⟨b, o, none⟩ = some (.int .i64 x.kind) ∧ w.cell? ⟨b, o + 1, none⟩ = some (.int .i64 x.int) ∧ w.cell? ⟨b, o + 2, none⟩ = some (.string x.text) ∧
      w.cell? ⟨b, o + 3, none⟩ = some (.slice A x.items.length c) ∧ w.cell? ⟨b, o + 4, none⟩ = some (.slice K x.keys.length d) ∧ LiesIn P w x A c K d) ∧ LiesFromIn P w r b (o + 5)
end
theorem StrsIn.keep {P P' : Nat → Prop} {w w' : World} {d : Nat} {K : Option Addr} {l : List ByteArray} (h : StrsIn P w K d l) (hk : ∀ b o, P b → w'.cell? ⟨b, o, none⟩ = w.cell? ⟨b, o, none⟩) (hP : ∀ b, P b → P' b) : StrsIn P' w' K d l := by
  obtain ⟨h1, h2, h3⟩ := h
  refine ⟨h1, h2, h3.imp id ?_⟩
  rintro ⟨b, o, hK, hb, hf⟩
  exact ⟨b, o, hK, hP b hb, hf.keep fun o => hk b o hb⟩
mutual
theorem LiesIn.keep {P P' : Nat → Prop} {w w' : World} (hk : ∀ b o, P b → w'.cell? ⟨b, o, none⟩ = w.cell? ⟨b, o, none⟩) (hP : ∀ b, P b → P' b) : ∀ (x : V) {A c K d}, LiesIn P w x A c K d → LiesIn P' w' x A c K d
  | .mk _ _ _ items _, _, _, _, _, h => by
    obtain ⟨h1, h2, h3, h4, h5⟩ := h
    refine ⟨h1, h2, h3, h4.keep hk hP, h5.imp id ?_⟩
    rintro ⟨b, o, hA, hb, hf⟩
    exact ⟨b, o, hA, hP b hb, LiesFromIn.keep hk hP items hb hf⟩
theorem LiesFromIn.keep {P P' : Nat → Prop} {w w' : World} (hk : ∀ b o, P b → w'.cell? ⟨b, o, none⟩ = w.cell? ⟨b, o, none⟩) (hP : ∀ b, P b → P' b) : ∀ (l : List V) {b o}, P b → LiesFromIn P w l b o → LiesFromIn P' w' l b o
  | [], _, _, _, _ => trivial
  | x :: r, b, o, hb, h => by
    obtain ⟨⟨A, c, K, d, e0, e1, e2, e3, e4, hx⟩, hr⟩ := h
    exact ⟨⟨A, c, K, d, (hk _ _ hb).trans e0, (hk _ _ hb).trans e1, (hk _ _ hb).trans e2, (hk _ _ hb).trans e3, (hk _ _ hb).trans e4, LiesIn.keep hk hP x hx⟩, LiesFromIn.keep hk hP r hb hr⟩
end
theorem StrsIn.lies {P : Nat → Prop} {w : World} {B d : Nat} {K : Option Addr} {l : List ByteArray} (h : StrsIn P w K d l) (hP : ∀ b, P b → b < B) : Strs w B K d l := by
  obtain ⟨h1, h2, h3⟩ := h
  refine ⟨h1, h2, h3.imp id ?_⟩
  rintro ⟨b, o, hK, hb, hf⟩
  exact ⟨b, o, hK, hP b hb, hf⟩
mutual
theorem LiesIn.lies {P : Nat → Prop} {w : World} {B : Nat} (hP : ∀ b, P b → b < B) : ∀ (x : V) {A c K d}, LiesIn P w x A c K d → Lies w B x A c K d
  | .mk _ _ _ items _, _, _, _, _, h => by
    obtain ⟨h1, h2, h3, h4, h5⟩ := h
    refine ⟨h1, h2, h3, h4.lies hP, h5.imp id ?_⟩
    rintro ⟨b, o, hA, hb, hf⟩
    exact ⟨b, o, hA, hP b hb, LiesFromIn.lies hP items hf⟩
theorem LiesFromIn.lies {P : Nat → Prop} {w : World} {B : Nat} (hP : ∀ b, P b → b < B) : ∀ (l : List V) {b o}, LiesFromIn P w l b o → LiesFrom w B l b o
  | [], _, _, _ => trivial
  | x :: r, b, o, h => by
    obtain ⟨⟨A, c, K, d, e0, e1, e2, e3, e4, hx⟩, hr⟩ := h
    exact ⟨⟨A, c, K, d, e0, e1, e2, e3, e4, LiesIn.lies hP x hx⟩, LiesFromIn.lies hP r hr⟩
end

/-- The five fields of a value. -/
def fieldsL (x : V) (A : Option Addr) (c : Nat) (K : Option Addr) (d : Nat) : List Value := [.int .i64 x.kind, .int .i64 x.int, .string x.text, .slice A x.items.length c, .slice K x.keys.length d]
def RowIn (P : Nat → Prop) (w : World) (x : V) (cs : List Value) : Prop := ∃ A c K d, cs = fieldsL x A c K d ∧ LiesIn P w x A c K d
def RowsIn (P : Nat → Prop) (w : World) : List V → List (List Value) → Prop
  | [], [] => True
  | x :: r, cs :: t => RowIn P w x cs ∧ RowsIn P w r t
  | _, _ => False
theorem RowIn.keep {P P' : Nat → Prop} {w w' : World} (hk : ∀ b o, P b → w'.cell? ⟨b, o, none⟩ = w.cell? ⟨b, o, none⟩) (hP : ∀ b, P b → P' b) {x : V} {cs : List Value} (h : RowIn P w x cs) : RowIn P' w' x cs := by
  obtain ⟨A, c, K, d, e, hl⟩ := h
  exact ⟨A, c, K, d, e, LiesIn.keep hk hP x hl⟩
theorem RowsIn.keep {P P' : Nat → Prop} {w w' : World} (hk : ∀ b o, P b → w'.cell? ⟨b, o, none⟩ = w.cell? ⟨b, o, none⟩) (hP : ∀ b, P b → P' b) : ∀ {xs : List V} {css : List (List Value)}, RowsIn P w xs css → RowsIn P' w' xs css
  | [], [], _ => trivial
  | _ :: _, _ :: _, h => ⟨h.1.keep hk hP, RowsIn.keep hk hP h.2⟩
  | [], _ :: _, h => h.elim
  | _ :: _, [], h => h.elim
theorem RowsIn.length {P : Nat → Prop} {w : World} : ∀ {xs : List V} {css : List (List Value)}, RowsIn P w xs css → css.length = xs.length
  | [], [], _ => rfl
  | _ :: _, _ :: _, h => by simp [RowsIn.length h.2]
  | [], _ :: _, h => h.elim
  | _ :: _, [], h => h.elim
theorem RowsIn.flat {P : Nat → Prop} {w : World} : ∀ {xs : List V} {css : List (List Value)}, RowsIn P w xs css → css.flatten.length = xs.length * 5
  | [], [], _ => rfl
  | _ :: _, _ :: _, h => by
    obtain ⟨⟨A, c, K, d, rfl, _⟩, h2⟩ := h
    rw [List.flatten_cons, List.length_append, RowsIn.flat h2]; simp [fieldsL]; omega
  | [], _ :: _, h => h.elim
  | _ :: _, [], h => h.elim
theorem RowsIn.append {P : Nat → Prop} {w : World} {ys : List V} {dss : List (List Value)} (h' : RowsIn P w ys dss) : ∀ {xs : List V} {css : List (List Value)}, RowsIn P w xs css → RowsIn P w (xs ++ ys) (css ++ dss)
  | [], [], _ => h'
  | _ :: _, _ :: _, h => ⟨h.1, RowsIn.append h' h.2⟩
  | [], _ :: _, h => h.elim
  | _ :: _, [], h => h.elim
theorem RowsIn.take {P : Nat → Prop} {w : World} (i : Nat) : ∀ {xs : List V} {css : List (List Value)}, RowsIn P w xs css → RowsIn P w (xs.take i) (css.take i) := by
  induction i with
  | zero => intro _ _ _; simp [RowsIn]
  | succ i ih =>
    intro xs css h
    match xs, css, h with
    | [], [], _ => simp [RowsIn]
    | _ :: _, _ :: _, h => exact ⟨h.1, ih h.2⟩
theorem RowsIn.drop {P : Nat → Prop} {w : World} (i : Nat) : ∀ {xs : List V} {css : List (List Value)}, RowsIn P w xs css → RowsIn P w (xs.drop i) (css.drop i) := by
  induction i with
  | zero => intro _ _ h; simpa using h
  | succ i ih =>
    intro xs css h
    match xs, css, h with
    | [], [], _ => simp [RowsIn]
    | _ :: _, _ :: _, h => exact ih h.2
theorem RowsIn.flat_take {P : Nat → Prop} {w : World} (i : Nat) : ∀ {xs : List V} {css : List (List Value)}, RowsIn P w xs css → (css.take i).flatten = css.flatten.take (i * 5) ∧ (css.drop i).flatten = css.flatten.drop (i * 5) := by
  induction i with
  | zero => intro _ _ _; simp
  | succ i ih =>
    intro xs css h
    match xs, css, h with
    | [], [], _ => simp
    | _ :: _, cs :: t, h =>
      obtain ⟨⟨A, c, K, d, rfl, _⟩, h2⟩ := h
      have := ih h2
      rw [List.take_succ_cons, List.drop_succ_cons, List.flatten_cons, List.flatten_cons, this.1, this.2, show (i + 1) * 5 = i * 5 + 5 by omega]
      simp [fieldsL]
theorem RowsIn.from {P : Nat → Prop} {w : World} {b : Nat} : ∀ {xs : List V} {css : List (List Value)} {o : Nat}, RowsIn P w xs css → (∀ (j : Nat) (v : Value), css.flatten[j]? = some v → w.cell? ⟨b, o + j, none⟩ = some v) → LiesFromIn P w xs b o
  | [], [], _, _, _ => trivial
  | x :: r, cs :: t, o, h, hc => by
    obtain ⟨⟨A, c, K, d, rfl, hl⟩, h2⟩ := h
    refine ⟨⟨A, c, K, d, hc 0 _ rfl, hc 1 _ rfl, hc 2 _ rfl, hc 3 _ rfl, hc 4 _ rfl, hl⟩, RowsIn.from h2 fun j v hj => ?_⟩
    have := hc (j + 5) v (by rw [List.flatten_cons, List.getElem?_append_right (by simp [fieldsL])]; simpa [fieldsL] using hj)
    rw [show o + 5 + j = o + (j + 5) by omega]; exact this
  | [], _ :: _, _, h, _ => h.elim
  | _ :: _, [], _, h, _ => h.elim

/-- The blocks that a call made. -/
def Fresh (w w' : World) (b : Nat) : Prop := w.heap.size ≤ b ∧ b < w'.heap.size
/-- The blocks of a call's own, but some. -/
def Out (N : Nat) (F : List (Option Nat)) (w : World) (b : Nat) : Prop := N ≤ b ∧ b < w.heap.size ∧ ∀ f ∈ F, some b ≠ f
theorem Out.mono {N : Nat} {F : List (Option Nat)} {w w' : World} {b : Nat} (h : Out N F w b) (hw : w.heap.size ≤ w'.heap.size) : Out N F w' b := ⟨h.1, Nat.lt_of_lt_of_le h.2.1 hw, h.2.2⟩
theorem row_where {v v' : Value} {k : Nat} (h : v'.ownBlock = v.ownBlock ∨ ∃ n c, v' = .slice (some ⟨k, 0, none⟩) n c) {b : Nat} (h1 : some b ≠ v.ownBlock) (h2 : b < k) : some b ≠ v'.ownBlock := by
  rcases h with h | ⟨n, c, rfl⟩
  · rw [h]; exact h1
  · simp [Value.ownBlock]; omega
/-- Values in a row of the call's own: what it is to be the row of a value. -/
theorem rows_lie {P : Nat → Prop} {w : World} {B : Nat} {e : TypeId} {v : Value} {xs : List V} {css : List (List Value)} (h : RowsIn P w xs css) (ho : w.ownsRow B e 5 v xs.length css.flatten) (hP : ∀ b, v.ownBlock = some b → P b) :
    ∃ A c, v = .slice A xs.length c ∧ xs.length ≤ c ∧ c ≤ maxLen ∧ (xs = [] ∨ ∃ b o, A = some ⟨b, o, none⟩ ∧ P b ∧ LiesFromIn P w xs b o) := by
  have hc := fun g hg => World.ownsRow.cells ho (g := g) hg
  obtain ⟨hl, ⟨rfl, h0⟩ | ⟨g, cap, cur, rfl, hB, hb, hn, hm, hs, ht⟩⟩ := ho
  · exact ⟨none, 0, by rw [h0], by omega, by simp [maxLen], .inl (List.length_eq_zero_iff.1 h0)⟩
  · refine ⟨_, _, rfl, hn, hm, .inr ⟨g, 0, rfl, hP g rfl, h.from fun j v hj => ?_⟩⟩
    have := hc g rfl j v hj
    rw [Addr.add_lit] at this
    exact this

/-- An append to a row of the call's own: in place, or in a new block. -/
theorem append_where {P : Program} (w : World) (base : Nat) (t ty e : TypeId) (i : TypeInfo) (z : Value) (size bytes : Nat) (ht : P.underlying t = some (.slice e)) (hi : P.info? e = some i) (hz : i.zero = some z)
    (hsize : i.size = size) (hby : i.bytes = bytes) (hzs : z.cells.size = size) (hsz : 0 < size)
    (v : Value) (n : Nat) (xs : List Value) (hown : w.ownsRow base e size v n xs)
    (a : Addr) (m c : Nat) (news : List Value) (hl : news.length = m * size) (hnews : ∀ j u, news[j]? = some u → w.cell? (a.add j) = some u) (h1 : ∀ u ∈ news, u.oneCell' = true)
    (h63 : n + m ≤ maxLen) (hbytes : (n + m) * bytes ≤ 140737488355328) (hbase : base ≤ w.heap.size) (hm : 0 < m) :
    ∃ v' w', (Builtin.append_ #[t, t] ty #[v, .slice (some a) m c]).run P w = .ok v' w' ∧ w'.ownsRow base e size v' (n + m) (xs ++ news) ∧ w.grownBy w' v.ownBlock ∧
      (v'.ownBlock = v.ownBlock ∨ ∃ n c, v' = .slice (some ⟨w.heap.size, 0, none⟩) n c) := by
  obtain ⟨v', w', hr, h2, h3, h4⟩ := run_append_own (P := P) w base t ty e i z size bytes ht hi hz hsize hby hzs hsz v n xs hown a m c news hl hnews h1 h63 hbytes hbase
  refine ⟨v', w', hr, h2, h3, ?_⟩
  subst hsize
  subst hby
  have hsmall : n + m ≤ 9223372036854775807 := by simp only [maxLen] at h63; omega
  obtain ⟨hlx, ⟨rfl, rfl⟩ | ⟨g, cap, cur, rfl, hbg, hg, hnc, hcm, hcs, htake⟩⟩ := hown
  · have hx := run_append_nil (P := P) w t ty e i z ht hi hz a m c news hl hnews (by omega) (by omega) (by have hb := hbytes; simp only [Nat.zero_add] at hb; omega)
    rw [hx] at hr
    cases hr
    exact .inr ⟨_, _, rfl⟩
  · by_cases hroom : n + m ≤ cap
    · have hfit : n * i.size + news.length ≤ cur.size := by rw [hl, hcs, ← Nat.add_mul]; exact Nat.mul_le_mul_right _ hroom
      have hx := run_append_room (P := P) w t ty e i ht hi g n cap cur hg a m c news hl hnews h1 hroom hfit
      rw [hx] at hr
      cases hr
      exact .inl rfl
    · have holds : ∀ j u, xs[j]? = some u → w.cell? ((⟨g, 0, none⟩ : Addr).add j) = some u := World.ownsRow.cells (v := .slice (some ⟨g, 0, none⟩) n cap) ⟨hlx, .inr ⟨g, cap, cur, rfl, hbg, hg, hnc, hcm, hcs, htake⟩⟩ (g := g) rfl
      have hx := run_append_grow (P := P) w t ty e i z ht hi hz ⟨g, 0, none⟩ n cap xs hlx holds a m c news hl hnews (by omega) (by omega) (growslice_fits (by omega) hbytes)
      rw [hx] at hr
      cases hr
      exact .inr ⟨_, _, rfl⟩
theorem shift_list {α : Type} {cur xs cs : List α} {p q m : Nat} (hx : cur.take m = xs) (hm : m + q ≤ cur.length) (hp : p ≤ m) (hc : cs.length = q) :
    let c1 := cur.take (p + q) ++ xs.drop p ++ cur.drop (p + q + (xs.drop p).length)
    let c2 := c1.take p ++ cs ++ c1.drop (p + cs.length)
    c1.length = cur.length ∧ c2.length = cur.length ∧ c2.take (m + q) = xs.take p ++ cs ++ xs.drop p := by
  have hl : xs.length = m := by rw [← hx, List.length_take]; omega
  have h1 : (cur.take (p + q)).take p = xs.take p := by rw [← hx, List.take_take, List.take_take]; congr 1; omega
  have hlt : (cur.take (p + q)).length = p + q := by rw [List.length_take]; omega
  have hd : (xs.drop p).length = m - p := by rw [List.length_drop, hl]
  have e1 : (cur.take (p + q) ++ xs.drop p ++ cur.drop (p + q + (xs.drop p).length)).take p = xs.take p := by
    rw [List.append_assoc, List.take_append_of_le_length (by omega), h1]
  have e2 : (cur.take (p + q) ++ xs.drop p ++ cur.drop (p + q + (xs.drop p).length)).drop (p + cs.length) = xs.drop p ++ cur.drop (p + q + (xs.drop p).length) := by
    rw [List.append_assoc, List.drop_append_of_le_length (by omega), hc, List.drop_eq_nil_of_le (by omega), List.nil_append]
  intro c1 c2
  have f1 : c1.length = cur.length := by simp only [c1, List.length_append, hlt, hd, List.length_drop]; omega
  refine ⟨f1, ?_, ?_⟩
  · simp only [c2, List.length_append, List.length_take, List.length_drop, f1]; omega
  · simp only [c2, c1]
    rw [e1, e2, ← List.append_assoc, List.take_left']
    simp only [List.length_append, List.length_take, hd]; omega
theorem grow_list {α : Type} {row xs cs : List α} {p q m : Nat} (hx : row.take p = xs.take p) (hm : m + q ≤ row.length) (hl : xs.length = m) (hp : p ≤ m) (hc : cs.length = q) :
    let c1 := row.take p ++ cs ++ row.drop (p + cs.length)
    let c2 := c1.take (p + q) ++ xs.drop p ++ c1.drop (p + q + (xs.drop p).length)
    c1.length = row.length ∧ c2.length = row.length ∧ c2.take (m + q) = xs.take p ++ cs ++ xs.drop p := by
  have hd : (xs.drop p).length = m - p := by rw [List.length_drop, hl]
  have hlp : (row.take p).length = p := by rw [List.length_take]; omega
  intro c1 c2
  have f1 : c1.length = row.length := by simp only [c1, List.length_append, hlp, List.length_drop]; omega
  have e1 : c1.take (p + q) = xs.take p ++ cs := by
    simp only [c1]
    rw [List.take_left' (by rw [List.length_append, hlp, hc]), hx]
  refine ⟨f1, ?_, ?_⟩
  · simp only [c2, List.length_append, List.length_take, List.length_drop, f1]; omega
  · simp only [c2]
    rw [e1, List.take_left']
    simp only [List.length_append, List.length_take, hd]; omega

theorem run_copy_rowN {P : Program} (w : World) (dT sT ty elem : TypeId) (size : Nat) (g o dLen dCap : Nat) (a : Addr) (sLen sCap : Nat) (cur : Array Value) (t : TypeId) (cs : List Value)
    (hu : P.underlying dT = some (.slice elem)) (hs : (P.info? elem).map (·.size) = some size)
    (hg : w.heap[g]? = some (.cells cur t (0, 0))) (hn : cs.length = Nat.min sLen dLen * size)
    (hsrc : ∀ j v, cs[j]? = some v → w.cell? (a.add j) = some v) (hfit : o + cs.length ≤ cur.size) (h1 : ∀ v ∈ cs, v.oneCell' = true) :
    (Builtin.copy_ #[dT, sT] ty #[.slice (some ⟨g, o, none⟩) dLen dCap, .slice (some a) sLen sCap]).run P w =
      .ok (goInt (Nat.min sLen dLen)) (w.setRow g (cur.toList.take o ++ cs ++ cur.toList.drop (o + cs.length)).toArray) := by
  have hl := run_loadCells_list (P := P) w a cs hsrc
  have hst := run_storeCells_at P g o t cs 0 cur w hg (by simpa using hfit) h1
  cases hq : P.info? elem with
  | none => simp [hq] at hs
  | some i =>
    have hi : i.size = size := by simpa [hq] using hs
    simp [Builtin.copy_, run_underlying hu, Builtin.lenOf, Builtin.firstCells, sizeOf, typeInfo, hq, hi, ← hn, hl, hst]
theorem BlockIs.shape {w : World} {g : Nat} {t : TypeId} {cs : Array Value} (h : BlockIs w g t cs) : w.shape? g = some (t, cs.size) := by
  unfold BlockIs at h; simp [World.shape?, h]
theorem size_setRow (w : World) (g : Nat) (c : Array Value) : (w.setRow g c).heap.size = w.heap.size := by simp [World.setRow]
/-- What an insertion leaves. -/
def Put (w : World) (base : Nat) (e : TypeId) (size : Nat) (v : Value) (n i : Nat) (xs cs : List Value) (en : Ending) (w' : World) : Prop :=
  ∃ v', en = .returned v' ∧ w'.ownsRow base e size v' (n + 1) (xs.take (i * size) ++ cs ++ xs.drop (i * size)) ∧ w.grownBy w' v.ownBlock ∧ (v'.ownBlock = v.ownBlock ∨ ∃ n c, v' = .slice (some ⟨w.heap.size, 0, none⟩) n c)
theorem put_shift {w : World} {base : Nat} {e : TypeId} {size n i g cap : Nat} {cur : Array Value} {xs cs : List Value} (hi : i ≤ n) (hg : w.heap[g]? = some (.cells cur e (0, 0))) (hbg : base ≤ g) (hcap : cap ≤ maxLen) (hroom : n + 1 ≤ cap)
    (hcur : cur.size = cap * size) (hx : cur.toList.take (n * size) = xs) (hc : cs.length = size) {w' : World} (c1 c2 : List Value)
    (h1 : c1 = cur.toList.take ((i + 1) * size) ++ xs.drop (i * size) ++ cur.toList.drop ((i + 1) * size + (xs.drop (i * size)).length))
    (h2 : c2 = c1.take (i * size) ++ cs ++ c1.drop (i * size + cs.length)) (hw : w' = (w.drew.setRow g c1.toArray).setRow g c2.toArray) :
    Put w base e size (.slice (some ⟨g, 0, none⟩) n cap) n i xs cs (.returned (.slice (some ⟨g, 0, none⟩) (n + 1) cap)) w' := by
  have hm : n * size + size ≤ cur.toList.length := by rw [Array.length_toList, hcur, ← Nat.succ_mul]; exact Nat.mul_le_mul_right _ hroom
  have hs := shift_list (cs := cs) hx hm (Nat.mul_le_mul_right size hi) hc
  rw [show i * size + size = (i + 1) * size by rw [Nat.succ_mul]] at hs
  simp only [] at hs
  rw [← h1, ← h2, show n * size + size = (n + 1) * size by rw [Nat.succ_mul]] at hs
  have hg1 : (w.drew.setRow g c1.toArray).heap[g]? = some (.cells c1.toArray e (0, 0)) := setRow_heap w.drew g cur _ e _ hg
  subst hw
  refine ⟨_, rfl, ⟨?_, .inr ⟨g, cap, c2.toArray, rfl, hbg, setRow_heap _ g _ _ e _ hg1, hroom, hcap, ?_, ?_⟩⟩, ⟨rfl, rfl, rfl, ?_, fun k _ hk => ?_⟩, .inl rfl⟩
  · rw [← hs.2.2, List.length_take, hs.2.1]
    rw [Array.length_toList] at hm ⊢
    rw [Nat.succ_mul]; omega
  · rw [List.size_toArray, hs.2.1, Array.length_toList, hcur]
  · rw [hs.2.2]
  · rw [size_setRow, size_setRow]; exact Nat.le_refl _
  · have hne : k ≠ g := fun e => hk (by simp [Value.ownBlock, e])
    rw [setRow_other _ g k _ hne, setRow_other _ g k _ hne]; rfl
theorem put_grow {w : World} {base : Nat} {e : TypeId} {size n i g cap G : Nat} {row : Array Value} {xs cs : List Value} (hi : i ≤ n) (hbase : base ≤ w.heap.size) (hG : G ≤ maxLen) (hGn : n + 1 ≤ G)
    (hrow : row.size = G * size) (hx : row.toList.take (i * size) = xs.take (i * size)) (hl : xs.length = n * size) (hc : cs.length = size) {w' : World} (c1 c2 : List Value)
    (h1 : c1 = row.toList.take (i * size) ++ cs ++ row.toList.drop (i * size + cs.length))
    (h2 : c2 = c1.take ((i + 1) * size) ++ xs.drop (i * size) ++ c1.drop ((i + 1) * size + (xs.drop (i * size)).length)) (hw : ∃ p q, w' = ((((w.drewN p).alloc (.cells row e)).setRow w.heap.size c1.toArray).setRow w.heap.size c2.toArray).drewN q) :
    Put w base e size (.slice (some ⟨g, 0, none⟩) n cap) n i xs cs (.returned (.slice (some ⟨w.heap.size, 0, none⟩) (n + 1) G)) w' := by
  have hm : n * size + size ≤ row.toList.length := by rw [Array.length_toList, hrow, ← Nat.succ_mul]; exact Nat.mul_le_mul_right _ hGn
  have hs := grow_list (cs := cs) hx hm hl (Nat.mul_le_mul_right size hi) hc
  rw [show i * size + size = (i + 1) * size by rw [Nat.succ_mul]] at hs
  simp only [] at hs
  rw [← h1, ← h2, show n * size + size = (n + 1) * size by rw [Nat.succ_mul]] at hs
  obtain ⟨p, q, rfl⟩ := hw
  have hg0 : ((w.drewN p).alloc (.cells row e)).heap[w.heap.size]? = some (.cells row e (0, 0)) := heap_alloc_new (w.drewN p) _
  have hg1 := setRow_heap _ w.heap.size _ c1.toArray e _ hg0
  refine ⟨_, rfl, ⟨?_, .inr ⟨w.heap.size, G, c2.toArray, rfl, hbase, setRow_heap _ _ _ _ e _ hg1, hGn, hG, ?_, ?_⟩⟩, ⟨rfl, rfl, rfl, ?_, fun k hk _ => ?_⟩, .inr ⟨_, _, rfl⟩⟩
  · rw [← hs.2.2, List.length_take, hs.2.1]
    rw [Array.length_toList] at hm ⊢
    rw [Nat.succ_mul]; omega
  · rw [List.size_toArray, hs.2.1, Array.length_toList, hrow]
  · rw [hs.2.2]
  · show w.heap.size ≤ ((((w.drewN p).alloc (.cells row e)).setRow w.heap.size c1.toArray).setRow w.heap.size c2.toArray).heap.size
    rw [size_setRow, size_setRow]; simp
  · have hne : k ≠ w.heap.size := by omega
    show ((((w.drewN p).alloc (.cells row e)).setRow w.heap.size c1.toArray).setRow w.heap.size c2.toArray).heap[k]? = w.heap[k]?
    rw [setRow_other _ _ k _ hne, setRow_other _ _ k _ hne]
    exact heap_alloc_old (w.drewN p) _ hk
end Go.Proofs.YtchadlbhdcpojaaGreatDoor

/- Where a value lies in memory. -/
import Derived.Test.YtoddlacfbeckiaaDoorPa
import Derived.Below
import Derived.RowKit
namespace Go.Proofs.YtoddlacfbeckiaaDoor
open Go.RowKit

/-- The strings of a list lie one behind the other, below block B. -/
def StrsFrom (w : World) : List ByteArray → Nat → Nat → Prop
  | [], _, _ => True
  | s :: r, b, o => w.cell? ⟨b, o, none⟩ = some (.string s) ∧ s.size ≤ maxLen ∧ StrsFrom w r b (o + 1)
def Strs (w : World) (B : Nat) (K : Option Addr) (d : Nat) (l : List ByteArray) : Prop :=
  l.length ≤ d ∧ d ≤ maxLen ∧ (l = [] ∨ ∃ b o, K = some ⟨b, o, none⟩ ∧ b < B ∧ StrsFrom w l b o)

mutual
/-- A value whose items lie at A, and its keys at K. -/
def Lies (w : World) (B : Nat) : V → Option Addr → Nat → Option Addr → Nat → Prop
  | .mk _ _ t items keys, A, c, K, d => t.size ≤ maxLen ∧ items.length ≤ c ∧ c ≤ maxLen ∧ Strs w B K d keys ∧ (items = [] ∨ ∃ b o, A = some ⟨b, o, none⟩ ∧ b < B ∧ LiesFrom w B items b o)
def LiesFrom (w : World) (B : Nat) : List V → Nat → Nat → Prop
  | [], _, _ => True
  | x :: r, b, o => (∃ A c K d, w.cell? ⟨b, o, none⟩ = some (.int .i64 x.kind) ∧ w.cell? ⟨b, o + 1, none⟩ = some (.int .i64 x.int) ∧ w.cell? ⟨b, o + 2, none⟩ = some (.string x.text) ∧
      w.cell? ⟨b, o + 3, none⟩ = some (.slice A x.items.length c) ∧ w.cell? ⟨b, o + 4, none⟩ = some (.slice K x.keys.length d) ∧ Lies w B x A c K d) ∧ LiesFrom w B r b (o + 5)
end

/-- A list of values that lies at A. -/
def LiesL (w : World) (B : Nat) (A : Option Addr) (c : Nat) (l : List V) : Prop :=
  l.length ≤ c ∧ c ≤ maxLen ∧ (l = [] ∨ ∃ b o, A = some ⟨b, o, none⟩ ∧ b < B ∧ LiesFrom w B l b o)

theorem StrsFrom.keep {w w' : World} {l : List ByteArray} {b o : Nat} (h : StrsFrom w l b o) (hk : ∀ o, w'.cell? ⟨b, o, none⟩ = w.cell? ⟨b, o, none⟩) : StrsFrom w' l b o := by
  induction l generalizing o with
  | nil => trivial
  | cons s r ih => exact ⟨(hk _).trans h.1, h.2.1, ih h.2.2⟩
theorem Strs.keep {w w' : World} {B B' d : Nat} {K : Option Addr} {l : List ByteArray} (h : Strs w B K d l) (hk : ∀ b o, b < B → w'.cell? ⟨b, o, none⟩ = w.cell? ⟨b, o, none⟩) (hB : B ≤ B') : Strs w' B' K d l := by
  obtain ⟨h1, h2, h3⟩ := h
  refine ⟨h1, h2, h3.imp id ?_⟩
  rintro ⟨b, o, hK, hb, hf⟩
  exact ⟨b, o, hK, by omega, hf.keep fun o => hk b o hb⟩
theorem StrsFrom.at_ {w : World} {l : List ByteArray} {b o : Nat} (h : StrsFrom w l b o) {k : Nat} {s : ByteArray} (hs : l[k]? = some s) : w.cell? ⟨b, o + k, none⟩ = some (.string s) ∧ s.size ≤ maxLen := by
  induction l generalizing o k with
  | nil => simp at hs
  | cons y r ih =>
    cases k with
    | zero => simp at hs; subst hs; exact ⟨h.1, h.2.1⟩
    | succ k => simp at hs; have := ih h.2.2 hs; rw [show o + (k + 1) = o + 1 + k by omega]; exact this
theorem Strs.at_ {w : World} {B d : Nat} {K : Option Addr} {l : List ByteArray} (h : Strs w B K d l) {k : Nat} (hk : k < l.length) :
    ∃ b o, K = some ⟨b, o, none⟩ ∧ b < B ∧ ∀ (j : Nat) (s : ByteArray), l[j]? = some s → w.cell? ⟨b, o + j, none⟩ = some (.string s) ∧ s.size ≤ maxLen := by
  obtain ⟨_, _, h3⟩ := h
  rcases h3 with rfl | ⟨b, o, hK, hb, hf⟩
  · simp at hk
  · exact ⟨b, o, hK, hb, fun j s hs => hf.at_ hs⟩

mutual
theorem Lies.keep {w w' : World} {B B' : Nat} (hk : ∀ b o, b < B → w'.cell? ⟨b, o, none⟩ = w.cell? ⟨b, o, none⟩) (hB : B ≤ B') : ∀ (x : V) {A c K d}, Lies w B x A c K d → Lies w' B' x A c K d
  | .mk _ _ _ items _, _, _, _, _, h => by
    obtain ⟨h1, h2, h3, h4, h5⟩ := h
    refine ⟨h1, h2, h3, h4.keep hk hB, h5.imp id ?_⟩
    rintro ⟨b, o, hA, hb, hf⟩
    exact ⟨b, o, hA, by omega, LiesFrom.keep hk hB items hb hf⟩
theorem LiesFrom.keep {w w' : World} {B B' : Nat} (hk : ∀ b o, b < B → w'.cell? ⟨b, o, none⟩ = w.cell? ⟨b, o, none⟩) (hB : B ≤ B') : ∀ (l : List V) {b o}, b < B → LiesFrom w B l b o → LiesFrom w' B' l b o
  | [], _, _, _, _ => trivial
  | x :: r, b, o, hb, h => by
    obtain ⟨⟨A, c, K, d, e0, e1, e2, e3, e4, hx⟩, hr⟩ := h
    exact ⟨⟨A, c, K, d, (hk _ _ hb).trans e0, (hk _ _ hb).trans e1, (hk _ _ hb).trans e2, (hk _ _ hb).trans e3, (hk _ _ hb).trans e4, Lies.keep hk hB x hx⟩, LiesFrom.keep hk hB r hb hr⟩
end
theorem LiesL.keep {w w' : World} {B B' c : Nat} {A : Option Addr} {l : List V} (h : LiesL w B A c l) (hk : ∀ b o, b < B → w'.cell? ⟨b, o, none⟩ = w.cell? ⟨b, o, none⟩) (hB : B ≤ B') : LiesL w' B' A c l := by
  obtain ⟨h1, h2, h3⟩ := h
  refine ⟨h1, h2, h3.imp id ?_⟩
  rintro ⟨b, o, hA, hb, hf⟩
  exact ⟨b, o, hA, by omega, LiesFrom.keep hk hB l hb hf⟩
theorem LiesFrom.at_ {w : World} {B : Nat} {l : List V} {b o : Nat} (h : LiesFrom w B l b o) {k : Nat} {x : V} (hx : l[k]? = some x) :
    ∃ A c K d, w.cell? ⟨b, o + k * 5, none⟩ = some (.int .i64 x.kind) ∧ w.cell? ⟨b, o + k * 5 + 1, none⟩ = some (.int .i64 x.int) ∧ w.cell? ⟨b, o + k * 5 + 2, none⟩ = some (.string x.text) ∧
      w.cell? ⟨b, o + k * 5 + 3, none⟩ = some (.slice A x.items.length c) ∧ w.cell? ⟨b, o + k * 5 + 4, none⟩ = some (.slice K x.keys.length d) ∧ Lies w B x A c K d := by
  induction l generalizing o k with
  | nil => simp at hx
  | cons y r ih =>
    rw [LiesFrom] at h
    cases k with
    | zero => simp at hx; subst hx; simpa using h.1
    | succ k => simp at hx; have := ih h.2 hx; rw [show o + (k + 1) * 5 = o + 5 + k * 5 by omega]; exact this
theorem LiesL.at_ {w : World} {B c : Nat} {A : Option Addr} {l : List V} (h : LiesL w B A c l) {k : Nat} (hk : k < l.length) :
    ∃ b o, A = some ⟨b, o, none⟩ ∧ b < B ∧ LiesFrom w B l b o := by
  obtain ⟨_, _, h3⟩ := h
  rcases h3 with rfl | h3
  · simp at hk
  · exact h3
theorem Lies.items {w : World} {B c d : Nat} {A K : Option Addr} {k i : Int} {t : ByteArray} {items : List V} {keys : List ByteArray} (h : Lies w B (.mk k i t items keys) A c K d) : LiesL w B A c items := by
  rw [Lies] at h; exact ⟨h.2.1, h.2.2.1, h.2.2.2.2⟩
theorem Lies.keys {w : World} {B c d : Nat} {A K : Option Addr} {k i : Int} {t : ByteArray} {items : List V} {keys : List ByteArray} (h : Lies w B (.mk k i t items keys) A c K d) : Strs w B K d keys := by
  rw [Lies] at h; exact h.2.2.2.1
theorem Lies.text {w : World} {B c d : Nat} {A K : Option Addr} {k i : Int} {t : ByteArray} {items : List V} {keys : List ByteArray} (h : Lies w B (.mk k i t items keys) A c K d) : t.size ≤ maxLen := by
  rw [Lies] at h; exact h.1

/-- What a world that kept all that there was gives. -/
theorem bcell {W w1 : World} {B : Nat} (hb : Below B W w1) : (∀ b o, b < B → w1.cell? ⟨b, o, none⟩ = W.cell? ⟨b, o, none⟩) :=
  fun b o h => hb.cell (p := ⟨b, o, none⟩) h
theorem bfro {W w1 : World} {B : Nat} (hb : Below B W w1) : (∀ b o, b < B → w1.frozen? ⟨b, o, none⟩ = W.frozen? ⟨b, o, none⟩) :=
  fun b o h => hb.frozen (p := ⟨b, o, none⟩) h
theorem Lies.below {w w' : World} {B : Nat} (hb : Below B w w') {x : V} {A c K d} (h : Lies w B x A c K d) : Lies w' B x A c K d := Lies.keep (bcell hb) (Nat.le_refl _) x h
end Go.Proofs.YtoddlacfbeckiaaDoor

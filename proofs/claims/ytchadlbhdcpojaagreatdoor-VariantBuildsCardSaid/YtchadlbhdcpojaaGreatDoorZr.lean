/- Arguments that are paths: what they read as, and where they lie. -/
import Derived.Test.YtchadlbhdcpojaaGreatDoorZc
import Derived.Test.YtchadlbhdcpojaaGreatDoorPc
namespace Go.Proofs.YtchadlbhdcpojaaGreatDoor
open Go.RowKit Go.ChangeShapes Go.WideShapes Go.Deep

theorem cT : Tryz.prog.cellsOf 34 = 2 := by kernel_rfl
/-- Steps, one behind another. -/
def StepsFrom (w : World) : List Stp → Nat → Nat → Prop
  | [], _, _ => True
  | s :: r, b, o => w.cell? ⟨b, o, none⟩ = some (.int .i64 s.1) ∧ w.cell? ⟨b, o + 1, none⟩ = some (.string s.2) ∧ s.2.size ≤ maxLen ∧ StepsFrom w r b (o + 2)
theorem StepsFrom.keep {w w' : World} {b : Nat} (hk : ∀ o, w'.cell? ⟨b, o, none⟩ = w.cell? ⟨b, o, none⟩) : ∀ {l : List Stp} {o : Nat}, StepsFrom w l b o → StepsFrom w' l b o
  | [], _, _ => trivial
  | _ :: _, _, h => ⟨(hk _).trans h.1, (hk _).trans h.2.1, h.2.2.1, StepsFrom.keep hk h.2.2.2⟩
theorem StepsFrom.at_ {w : World} {b : Nat} : ∀ {l : List Stp} {o : Nat}, StepsFrom w l b o → ∀ {k : Nat} {s : Stp}, l[k]? = some s → w.cell? ⟨b, o + k * 2, none⟩ = some (.int .i64 s.1) ∧ w.cell? ⟨b, o + k * 2 + 1, none⟩ = some (.string s.2) ∧ s.2.size ≤ maxLen
  | [], _, _, _, _, hs => by simp at hs
  | y :: r, o, h, 0, s, hs => by
    simp at hs
    subst hs
    exact ⟨by simpa using h.1, by simpa using h.2.1, h.2.2.1⟩
  | y :: r, o, h, k + 1, s, hs => by
    simp at hs
    have := StepsFrom.at_ h.2.2.2 hs
    rw [show o + (k + 1) * 2 = o + 2 + k * 2 by omega]
    exact this
/-- Where a path lies. -/
def PLies (w : World) (B : Nat) (A : Option Addr) (c : Nat) (p : List Stp) : Prop :=
  p.length ≤ c ∧ c ≤ maxLen ∧ (p = [] ∨ ∃ b o, A = some ⟨b, o, none⟩ ∧ b < B ∧ StepsFrom w p b o)
theorem PLies.on {w w' : World} {A : Option Addr} {c : Nat} {p : List Stp} (h : PLies w w.heap.size A c p) (hb : Below w.heap.size w w') : PLies w' w'.heap.size A c p := by
  obtain ⟨h1, h2, h3⟩ := h
  refine ⟨h1, h2, h3.imp id ?_⟩
  rintro ⟨b, o, hA, hlt, hf⟩
  exact ⟨b, o, hA, Nat.lt_of_lt_of_le hlt hb.size, hf.keep fun o => bcell hb b o hlt⟩
theorem PLies.at_ {w : World} {B : Nat} {A : Option Addr} {c : Nat} {p : List Stp} (h : PLies w B A c p) {k : Nat} {s : Stp} (hs : p[k]? = some s) :
    ∃ b o, A = some ⟨b, o, none⟩ ∧ b < B ∧ w.cell? ⟨b, o + k * 2, none⟩ = some (.int .i64 s.1) ∧ w.cell? ⟨b, o + k * 2 + 1, none⟩ = some (.string s.2) ∧ s.2.size ≤ maxLen := by
  rcases h.2.2 with rfl | ⟨b, o, hA, hlt, hf⟩
  · simp at hs
  · exact ⟨b, o, hA, hlt, hf.at_ hs⟩
theorem steps_list {W : World} {b : Nat} : ∀ (len off : Nat), (∀ i, i < len → ∃ s : Stp, W.cell? ⟨b, off + i * 2, none⟩ = some (.int .i64 s.1) ∧ W.cell? ⟨b, off + i * 2 + 1, none⟩ = some (.string s.2) ∧ s.2.size ≤ maxLen) → ∃ l : List Stp, l.length = len ∧ StepsFrom W l b off
  | 0, _, _ => ⟨[], rfl, trivial⟩
  | len + 1, off, h => by
    obtain ⟨s, h1, h2, h0⟩ := h 0 (by omega)
    obtain ⟨l, h3, h4⟩ := steps_list len (off + 2) (fun i hi => by
      have := h (i + 1) (by omega)
      rw [show off + 2 + i * 2 = off + (i + 1) * 2 by omega]; exact this)
    exact ⟨s :: l, by simp [h3], by simpa using h1, by simpa using h2, h0, h4⟩
section
variable {H : Type} {enc : TypeId × Value → H} {W : World}
set_option maxRecDepth 100000 in
theorem open_step {n : Nat} {cs : List Value} {x : DataW H × List MemPlace} (h : DataW.trod enc Tryz.prog W 0 (fun _ => true) true n 34 cs = some x) : ∃ s : Stp, cs = [.int .i64 s.1, .string s.2] ∧ s.2.size ≤ maxLen := by
  obtain ⟨xs, m, hn, _, hlen, hxl, hg⟩ := DataW.trod_struct Tryz.underlying34 h
  rw [cT] at hlen
  match cs, hlen, xs, hxl with
  | [c0, c1], _, [y0, y1], _ =>
    have g0 := hg 0 _ rfl
    have g1 := hg 1 _ rfl
    simp [cI, cS] at g0 g1
    obtain ⟨k, hk, _, _⟩ := DataW.trod_int Tryz.underlying3 g0
    obtain ⟨t, ht, _, hts⟩ := DataW.trod_string Tryz.underlying9 g1
    simp at hk ht
    exact ⟨(k, t), by rw [hk, ht], hts⟩
end
end Go.Proofs.YtchadlbhdcpojaaGreatDoor

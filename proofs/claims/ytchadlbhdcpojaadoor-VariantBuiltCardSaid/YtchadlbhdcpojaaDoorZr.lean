/- Arguments that are paths: what they read as, and where they lie. -/
import Derived.Test.YtchadlbhdcpojaaDoorZc
import Derived.Test.YtchadlbhdcpojaaDoorPc
namespace Go.Proofs.YtchadlbhdcpojaaDoor
open Go.RowKit Go.ChangeShapes Go.WideShapes Go.Deep

theorem cT : Tryd.prog.cellsOf 42 = 2 := by kernel_rfl
/-- Steps, one behind another. -/
def StepsFrom (w : World) : List Stp → Nat → Nat → Prop
  | [], _, _ => True
  | s :: r, b, o => w.cell? ⟨b, o, none⟩ = some (.int .i64 s.1) ∧ w.cell? ⟨b, o + 1, none⟩ = some (.string s.2) ∧ s.2.size ≤ maxLen ∧ StepsFrom w r b (o + 2)
theorem StepsFrom.keep {w w' : World} {b : Nat} (hk : ∀ o, w'.cell? ⟨b, o, none⟩ = w.cell? ⟨b, o, none⟩) : ∀ {l : List Stp} {o : Nat}, StepsFrom w l b o → StepsFrom w' l b o
  | [], _, _ => trivial
  | _ :: _, _, h => ⟨(hk _).trans h.1, (hk _).trans h.2.1, h.2.2.1, StepsFrom.keep hk h.2.2.2⟩
theorem StepsFrom.at_ {w : World} {b : Nat} : ∀ {l : List Stp} {o : Nat}, StepsFrom w l b o → ∀ {k : Nat} {s : Stp}, l[k]? = some s → w.cell? ⟨b, o + k * 2, none⟩ = some (.int .i64 s.1) ∧ w.cell? ⟨b, o + k * 2 + 1, none⟩ = some (.string s.2) ∧ s.2.size ≤ maxLen
  | [], _, _, _, _, hs => by simp at hs
  | y :: r, o, h, 0, s, hs => by
    simp at hs
    subst hs
    exact ⟨by simpa using h.1, by simpa using h.2.1, h.2.2.1⟩
  | y :: r, o, h, k + 1, s, hs => by
    simp at hs
    have := StepsFrom.at_ h.2.2.2 hs
    rw [show o + (k + 1) * 2 = o + 2 + k * 2 by omega]
    exact this
/-- Where a path lies. -/
def PLies (w : World) (B : Nat) (A : Option Addr) (c : Nat) (p : List Stp) : Prop :=
  p.length ≤ c ∧ c ≤ maxLen ∧ (p = [] ∨ ∃ b o, A = some ⟨b, o, none⟩ ∧ b < B ∧ StepsFrom w p b o)
theorem PLies.on {w w' : World} {A : Option Addr} {c : Nat} {p : List Stp} (h : PLies w w.heap.size A c p) (hb : Below w.heap.size w w') : PLies w' w'.heap.size A c p := by
  obtain ⟨h1, h2, h3⟩ := h
  refine ⟨h1, h2, h3.imp id ?_⟩
  rintro ⟨b, o, hA, hlt, hf⟩
  exact ⟨b, o, hA, Nat.lt_of_lt_of_le hlt hb.size, hf.keep fun o => bcell hb b o hlt⟩
theorem PLies.at_ {w : World} {B : Nat} {A : Option Addr} {c : Nat} {p : List Stp} (h : PLies w B A c p) {k : Nat} {s : Stp} (hs : p[k]? = some s) :
    ∃ b o, A = some ⟨b, o, none⟩ ∧ b < B ∧ w.cell? ⟨b, o + k * 2, none⟩ = some (.int .i64 s.1) ∧ w.cell? ⟨b, o + k * 2 + 1, none⟩ = some (.string s.2) ∧ s.2.size ≤ maxLen := by
  rcases h.2.2 with rfl | ⟨b, o, hA, hlt, hf⟩
  · simp at hs
  · exact ⟨b, o, hA, hlt, hf.at_ hs⟩
theorem steps_list {W : World} {b : Nat} : ∀ (len off : Nat), (∀ i, i < len → ∃ s : Stp, W.cell? ⟨b, off + i * 2, none⟩ = some (.int .i64 s.1) ∧ W.cell? ⟨b, off + i * 2 + 1, none⟩ = some (.string s.2) ∧ s.2.size ≤ maxLen) → ∃ l : List Stp, l.length = len ∧ StepsFrom W l b off
  | 0, _, _ => ⟨[], rfl, trivial⟩
  | len + 1, off, h => by
    obtain ⟨s, h1, h2, h0⟩ := h 0 (by omega)
    obtain ⟨l, h3, h4⟩ := steps_list len (off + 2) (fun i hi => by
      have := h (i + 1) (by omega)
      rw [show off + 2 + i * 2 = off + (i + 1) * 2 by omega]; exact this)
    exact ⟨s :: l, by simp [h3], by simpa using h1, by simpa using h2, h0, h4⟩
section
variable {H : Type} {enc : TypeId × Value → H} {W : World}
set_option maxRecDepth 100000 in
theorem open_step {n : Nat} {cs : List Value} {x : DataW H × List MemPlace} (h : DataW.trod enc Tryd.prog W 0 (fun _ => true) true n 42 cs = some x) : ∃ s : Stp, cs = [.int .i64 s.1, .string s.2] ∧ s.2.size ≤ maxLen := by
  obtain ⟨xs, m, hn, _, hlen, hxl, hg⟩ := DataW.trod_struct Tryd.underlying42 h
  rw [cT] at hlen
  match cs, hlen, xs, hxl with
  | [c0, c1], _, [y0, y1], _ =>
    have g0 := hg 0 _ rfl
    have g1 := hg 1 _ rfl
    simp [cI, cS] at g0 g1
    obtain ⟨k, hk, _, _⟩ := DataW.trod_int Tryd.underlying3 g0
    obtain ⟨t, ht, _, hts⟩ := DataW.trod_string Tryd.underlying9 g1
    simp at hk ht
    exact ⟨(k, t), by rw [hk, ht], hts⟩
set_option maxRecDepth 100000 in
theorem open_path {base : Nat} {v : Value} {d : DataW H} {p : List MemPlace} (hv : Value.okWide Tryd.prog W .any base 37 v) (h : DataW.Trod enc Tryd.prog W 0 (fun _ => true) true 37 v d p) :
    ∃ (x : List Stp) (A : Option Addr) (c : Nat), v = .slice A x.length c ∧ PLies W W.heap.size A c x := by
  obtain ⟨a0, len0, cap0, rfl⟩ := okWide_slice Tryd.underlying37 hv
  obtain ⟨fuel, hf⟩ := h
  rcases DataW.trod_slice Tryd.underlying37 hf with ⟨hc, _⟩ | ⟨a, len, cap, elems, rest, m, _, hc, _, _, hl, hm, hel, hat, _, _⟩
  · have hc' : Value.slice a0 len0 cap0 = .slice none 0 0 := by have hc2 : [Value.slice a0 len0 cap0] = [Value.slice none 0 0] := hc; simpa using hc2
    exact ⟨[], none, 0, hc', Nat.le_refl _, by simp [maxLen], .inl rfl⟩
  · have hc' : Value.slice a0 len0 cap0 = .slice (some a) len cap := by have hc2 : [Value.slice a0 len0 cap0] = [Value.slice (some a) len cap] := hc; simpa using hc2
    obtain ⟨b, off, sp⟩ := a
    have hs : ∀ i, i < len → ∃ s : Stp, (W.cell? (((⟨b, off, sp⟩ : Addr).add (i * 2)).add 0) = some (.int .i64 s.1) ∧ W.cell? (((⟨b, off, sp⟩ : Addr).add (i * 2)).add 1) = some (.string s.2)) ∧ s.2.size ≤ maxLen := by
      intro i hi
      have h1 := hat i hi
      rw [List.getElem?_eq_getElem (by omega), cT] at h1
      obtain ⟨cs, h2, h3⟩ := Option.bind_eq_some_iff.1 h1
      obtain ⟨s, rfl, hsz⟩ := open_step h3
      obtain ⟨_, _, hcell⟩ := World.cells?_some h2
      exact ⟨s, ⟨hcell 0 (by omega), hcell 1 (by omega)⟩, hsz⟩
    rcases Nat.eq_zero_or_pos len with h0 | hpos
    · subst h0
      exact ⟨[], _, cap, hc', by simp, hm, .inl rfl⟩
    · have hsp : sp = none := by
        obtain ⟨s, h1, _⟩ := hs 0 hpos
        have := World.cell?_spot h1.1
        simpa [Addr.add] using this
      subst hsp
      obtain ⟨l, h1, h2⟩ := steps_list (W := W) (b := b) len off (fun i hi => by
        obtain ⟨s, h1, h2⟩ := hs i hi
        simp only [Addr.add_lit, Nat.add_zero] at h1
        exact ⟨s, h1.1, h1.2, h2⟩)
      obtain ⟨s, h3, _⟩ := hs 0 hpos
      have h4 := h3.1
      exact ⟨l, _, cap, by rw [hc', h1], by omega, hm, .inr ⟨b, off, rfl, World.block_lt_of_cell? W _ h4, h2⟩⟩
set_option maxRecDepth 100000 in
theorem path_stays {W' : World} {sp : Nat → Bool} {v : Value} {d : DataW H} {p : List MemPlace} (h : DataW.Trod enc Tryd.prog W 0 (fun _ => true) true 37 v d p) (hb : Below W.heap.size W W') (hlt : ∀ x ∈ p, x.block < W.heap.size) (hs : ∀ x ∈ p, sp x.block = true) :
    DataW.Trod enc Tryd.prog W' 0 sp true 37 v d p :=
  WideElems.Trod_stays laidOutP (by kernel_rfl) (of_decide_eq_true (by kernel_rfl)) h (fun x hx => hb.same (hlt x hx)) hs
end
end Go.Proofs.YtchadlbhdcpojaaDoor

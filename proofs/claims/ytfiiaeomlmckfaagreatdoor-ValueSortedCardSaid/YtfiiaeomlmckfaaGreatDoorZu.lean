/- Arguments that are bytes: what they read as, and where they lie. -/
import Derived.Test.YtfiiaeomlmckfaaGreatDoorZc
namespace Go.Proofs.YtfiiaeomlmckfaaGreatDoor
open Go.RowKit Go.ChangeShapes Go.WideShapes Go.Deep

theorem cU : Tryz.prog.cellsOf 5 = 1 := by kernel_rfl
/-- Bytes, one behind another. -/
def BLies (w : World) (B : Nat) (A : Option Addr) (c : Nat) (l : List Nat) : Prop :=
  l.length ≤ c ∧ c ≤ maxLen ∧ (∀ x ∈ l, x < 256) ∧ (l = [] ∨ ∃ b o, A = some ⟨b, o, none⟩ ∧ b < B ∧ ∀ (j x : Nat), l[j]? = some x → w.cell? ⟨b, o + j, none⟩ = some (.int .u8 x))
theorem BLies.on {w w' : World} {A : Option Addr} {c : Nat} {l : List Nat} (h : BLies w w.heap.size A c l) (hb : Below w.heap.size w w') : BLies w' w'.heap.size A c l := by
  obtain ⟨h1, h2, h4, h3⟩ := h
  refine ⟨h1, h2, h4, h3.imp id ?_⟩
  rintro ⟨b, o, hA, hlt, hf⟩
  exact ⟨b, o, hA, Nat.lt_of_lt_of_le hlt hb.size, fun j x hx => (bcell hb b _ hlt).trans (hf j x hx)⟩
theorem bytes_list {W : World} {b : Nat} : ∀ (len off : Nat), (∀ i, i < len → ∃ x : Nat, x < 256 ∧ W.cell? ⟨b, off + i, none⟩ = some (.int .u8 x)) → ∃ l : List Nat, l.length = len ∧ (∀ x ∈ l, x < 256) ∧ ∀ (j x : Nat), l[j]? = some x → W.cell? ⟨b, off + j, none⟩ = some (.int .u8 x)
  | 0, _, _ => ⟨[], rfl, (fun x hx => by cases hx), fun j x hx => by simp at hx⟩
  | len + 1, off, h => by
    obtain ⟨x, h1, h2⟩ := h 0 (by omega)
    obtain ⟨l, h3, h4, h5⟩ := bytes_list len (off + 1) (fun i hi => by
      have := h (i + 1) (by omega)
      rw [show off + 1 + i = off + (i + 1) by omega]; exact this)
    refine ⟨x :: l, by simp [h3], fun y hy => ?_, fun j y hy => ?_⟩
    · rcases List.mem_cons.1 hy with rfl | hy
      · exact h1
      · exact h4 y hy
    · cases j with
      | zero => simp at hy; subst hy; simpa using h2
      | succ j =>
        simp at hy
        have := h5 j y hy
        rw [show off + (j + 1) = off + 1 + j by omega]
        exact this
theorem byte_wf {n : Int} (h : (Lit.int .u8 n).wf = true) : ∃ x : Nat, x < 256 ∧ n = x := by
  have hb : 0 ≤ n ∧ n ≤ 255 := by
    simp [Lit.wf, IntKind.min, IntKind.max, IntKind.bits, IntKind.signed] at h
    omega
  exact ⟨n.toNat, by omega, by omega⟩
section
variable {H : Type} {enc : TypeId × Value → H} {W : World}
set_option maxRecDepth 100000 in
theorem open_bytes {base : Nat} {v : Value} {d : DataW H} {p : List MemPlace} (hv : Value.okWide Tryz.prog W .any base 29 v) (h : DataW.Trod enc Tryz.prog W 0 (fun _ => true) true 29 v d p) :
    ∃ (x : List Nat) (A : Option Addr) (c : Nat), v = .slice A x.length c ∧ BLies W W.heap.size A c x := by
  obtain ⟨a0, len0, cap0, rfl⟩ := okWide_slice Tryz.underlying29 hv
  obtain ⟨fuel, hf⟩ := h
  rcases DataW.trod_slice Tryz.underlying29 hf with ⟨hc, _⟩ | ⟨a, len, cap, elems, rest, m, _, hc, _, _, hl, hm, hel, hat, _, _⟩
  · have hc' : Value.slice a0 len0 cap0 = .slice none 0 0 := by have hc2 : [Value.slice a0 len0 cap0] = [Value.slice none 0 0] := hc; simpa using hc2
    exact ⟨[], none, 0, hc', Nat.le_refl _, by simp [maxLen], fun x hx => (by cases hx), .inl rfl⟩
  · have hc' : Value.slice a0 len0 cap0 = .slice (some a) len cap := by have hc2 : [Value.slice a0 len0 cap0] = [Value.slice (some a) len cap] := hc; simpa using hc2
    obtain ⟨b, off, sp⟩ := a
    have hs : ∀ i, i < len → ∃ x : Nat, x < 256 ∧ W.cell? ((⟨b, off, sp⟩ : Addr).add i) = some (.int .u8 x) := by
      intro i hi
      have h1 := hat i hi
      rw [List.getElem?_eq_getElem (by omega), cU, Nat.mul_one] at h1
      obtain ⟨cs, h2, h3⟩ := Option.bind_eq_some_iff.1 h1
      obtain ⟨n, rfl, _, hwf⟩ := DataW.trod_int Tryz.underlying5 h3
      obtain ⟨x, hx, rfl⟩ := byte_wf hwf
      obtain ⟨_, _, hcell⟩ := World.cells?_some h2
      have := hcell 0 (by omega)
      rw [Go.Deep.add_add, Nat.add_zero] at this
      exact ⟨x, hx, this⟩
    rcases Nat.eq_zero_or_pos len with h0 | hpos
    · subst h0
      exact ⟨[], _, cap, hc', by simp, hm, fun x hx => (by cases hx), .inl rfl⟩
    · have hsp : sp = none := by
        obtain ⟨x, _, h1⟩ := hs 0 hpos
        simpa [Addr.add] using World.cell?_spot h1
      subst hsp
      obtain ⟨l, h1, h2, h3⟩ := bytes_list (W := W) (b := b) len off (fun i hi => by
        obtain ⟨x, h1, h2⟩ := hs i hi
        rw [Addr.add_lit] at h2
        exact ⟨x, h1, h2⟩)
      obtain ⟨x, _, h4⟩ := hs 0 hpos
      exact ⟨l, _, cap, by rw [hc', h1], by omega, hm, h2, .inr ⟨b, off, rfl, World.block_lt_of_cell? W _ h4, h3⟩⟩
set_option maxRecDepth 100000 in
theorem bytes_stays {W' : World} {sp : Nat → Bool} {v : Value} {d : DataW H} {p : List MemPlace} (h : DataW.Trod enc Tryz.prog W 0 (fun _ => true) true 29 v d p) (hb : Below W.heap.size W W') (hlt : ∀ x ∈ p, x.block < W.heap.size) (hs : ∀ x ∈ p, sp x.block = true) :
    DataW.Trod enc Tryz.prog W' 0 sp true 29 v d p :=
  WideElems.Trod_stays laidOutP (by kernel_rfl) (of_decide_eq_true (by kernel_rfl)) h (fun x hx => hb.same (hlt x hx)) hs
end
end Go.Proofs.YtfiiaeomlmckfaaGreatDoor

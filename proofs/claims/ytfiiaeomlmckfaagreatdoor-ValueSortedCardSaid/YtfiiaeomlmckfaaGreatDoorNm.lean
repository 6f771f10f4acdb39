/- Rows of values that grow: what an append of values leaves. -/
import Derived.Test.YtfiiaeomlmckfaaGreatDoorNi
import Derived.Test.YtfiiaeomlmckfaaGreatDoorNf
namespace Go.Proofs.YtfiiaeomlmckfaaGreatDoor
open Go.RowKit

/-- A row of the call's own that holds values; what hangs on them lies below N. -/
def Row (N : Nat) (v : Value) (l : List V) (W : World) : Prop := ∃ css, W.ownsRow N 35 5 v l.length css.flatten ∧ RowsIn (fun b => b < N) W l css
/-- Where the values of a slice stand. -/
def SrcRow (N : Nat) (A : Option Addr) (l : List V) (W : World) : Prop := ∃ css, RowsIn (fun b => b < N) W l css ∧ (l = [] ∨ ∃ b o, A = some ⟨b, o, none⟩ ∧ b < W.heap.size ∧ ∀ j u, css.flatten[j]? = some u → W.cell? ⟨b, o + j, none⟩ = some u)
theorem rows_cells1 {P : Nat → Prop} {w : World} {xs : List V} {css : List (List Value)} (h : RowsIn P w xs css) : ∀ u ∈ css.flatten, u.oneCell' = true := by
  intro u hu
  obtain ⟨cs, hcs, hu⟩ := List.mem_flatten.1 hu
  have h5 : ∀ {xs : List V} {css : List (List Value)}, RowsIn P w xs css → ∀ cs ∈ css, ∀ u ∈ cs, u.oneCell' = true := by
    intro xs
    induction xs with
    | nil => intro css h cs hc; cases css with
      | nil => cases hc
      | cons a r => exact h.elim
    | cons x r ih => intro css h cs hc; cases css with
      | nil => exact h.elim
      | cons a t =>
        rcases List.mem_cons.1 hc with rfl | hc
        · obtain ⟨A, c, K, d, rfl, _⟩ := h.1
          intro u hu
          simp [fieldsL] at hu
          rcases hu with rfl | rfl | rfl | rfl | rfl <;> rfl
        · exact ih h.2 cs hc
  exact h5 h cs hcs u hu
theorem own_same {v : Value} {n : Nat} {a : Option Addr} {c : Nat} (h : v = .slice a n c) : v.ownBlock = (Value.slice a n c).ownBlock := by rw [h]
theorem append_row (N : Nat) (W : World) (v : Value) (acc m : List V) (A : Option Addr) (c : Nat) (hN : N ≤ W.heap.size) (hv : Row N v acc W) (hs : SrcRow N A m W) (hl : acc.length + m.length ≤ 1000) (ty : TypeId) :
    ∃ v' W', (Builtin.append_ #[22, 22] ty #[v, .slice A m.length c]).run Tryz.prog W = .ok v' W' ∧ Row N v' (acc ++ m) W' ∧ W.grownBy W' v.ownBlock ∧ (v'.ownBlock = v.ownBlock ∨ v'.ownBlock = some W.heap.size) := by
  obtain ⟨i0, hi, hz0, hz1, hz2⟩ := info_parts (P := Tryz.prog) (e := 35) (z := .agg zeroF) (size := 5) (bytes := 80) (by kernel_rfl)
  obtain ⟨css, hown, hrow⟩ := hv
  obtain ⟨dss, hsr, hor⟩ := hs
  by_cases hm : m = []
  · subst hm
    obtain ⟨a, cap, rfl⟩ := own_form hown
    have hsrc : Src Tryz.prog i0.size 22 (.slice A 0 c) 0 [] W := by
      cases A with
      | none => exact Src.ofNil _ Tryz.underlying22 c
      | some a => exact Src.ofSlice _ Tryz.underlying22 a 0 c [] (by simp) (fun j u hj => by simp at hj) (fun u hu => by cases hu)
    have hcap : acc.length ≤ cap := by
      obtain ⟨_, ⟨he, h0⟩ | ⟨g, cap', cur, he, _, _, h1, _⟩⟩ := hown
      · simp only [Value.slice.injEq] at he; omega
      · simp only [Value.slice.injEq] at he; omega
    exact ⟨_, W, run_append_nothing (P := Tryz.prog) W 22 22 ty 35 i0 Tryz.underlying22 hi a acc.length cap hcap _ hsrc, ⟨css, by simpa using hown, by simpa using hrow⟩, ⟨rfl, rfl, rfl, Nat.le_refl _, fun _ _ _ => rfl⟩, .inl rfl⟩
  · rcases hor with h | ⟨b, o, rfl, hb, hc⟩
    · exact absurd h hm
    have hpos : 0 < m.length := List.length_pos_iff.2 hm
    have hfl := hsr.flat
    obtain ⟨v', W', hr, h2, h3, h4⟩ := append_where (P := Tryz.prog) W N 22 ty 35 i0 (.agg zeroF) 5 80 Tryz.underlying22 hi hz0 hz1 hz2 rfl (by omega) v acc.length css.flatten hown ⟨b, o, none⟩ m.length c dss.flatten hfl (fun j u hj => by rw [Addr.add_lit]; exact hc j u hj) (rows_cells1 hsr) (by unfold maxLen; omega) (by omega) hN hpos
    have hlow : ∀ b, b < N → W'.heap[b]? = W.heap[b]? := fun b hb => h3.block b (by omega) (fun e => by have := (World.ownsRow.lt hown b e.symm).1; omega)
    refine ⟨v', W', hr, ⟨css ++ dss, by rw [List.length_append, List.flatten_append]; exact h2, RowsIn.append (hsr.keep (fun b o hb => World.cell?_of_block (hlow b hb)) fun _ h => h) (hrow.keep (fun b o hb => World.cell?_of_block (hlow b hb)) fun _ h => h)⟩, h3, ?_⟩
    rcases h4 with h | ⟨n, c, rfl⟩
    · exact .inl h
    · exact .inr rfl
theorem Row.kept {N : Nat} {u : Value} {l : List V} {W W' : World} {r : Option Nat} (h : Row N u l W) (hg : W.grownBy W' r) (hN : N ≤ W.heap.size) (hr : ∀ k, r = some k → N ≤ k) (hu : ∀ k, u.ownBlock = some k → r ≠ some k) : Row N u l W' := by
  obtain ⟨css, h1, h2⟩ := h
  refine ⟨css, h1.kept hg ?_, h2.keep (fun b o hb => World.cell?_of_block (hg.block b (by omega) (fun e => by have := hr b e.symm; omega))) fun _ h => h⟩
  rcases hb : u.ownBlock with _ | q
  · exact .inl rfl
  · exact .inr (fun e => hu q hb (by rw [e]))
theorem Row.own {N : Nat} {u : Value} {l : List V} {W : World} (h : Row N u l W) : ∀ k, u.ownBlock = some k → N ≤ k ∧ k < W.heap.size := by
  obtain ⟨css, h1, _⟩ := h
  exact World.ownsRow.lt h1
theorem Row.form {N : Nat} {u : Value} {l : List V} {W : World} (h : Row N u l W) : ∃ A c, u = .slice A l.length c ∧ l.length ≤ c ∧ c ≤ maxLen ∧ (l = [] ∨ ∃ g, A = some ⟨g, 0, none⟩ ∧ g < W.heap.size ∧ ∃ css, RowsIn (fun b => b < N) W l css ∧ ∀ j v, css.flatten[j]? = some v → W.cell? ⟨g, j, none⟩ = some v) := by
  obtain ⟨css, h1, h2⟩ := h
  have hc := fun g hg => World.ownsRow.cells h1 (g := g) hg
  have hlt := World.ownsRow.lt h1
  obtain ⟨hl, ⟨rfl, h0⟩ | ⟨g, cap, cur, rfl, hB, hb, hn, hm, hs, ht⟩⟩ := h1
  · exact ⟨none, 0, by rw [h0], by omega, by simp [maxLen], .inl (List.length_eq_zero_iff.1 h0)⟩
  · refine ⟨_, _, rfl, hn, hm, .inr ⟨g, rfl, (hlt g rfl).2, css, h2, fun j v hj => ?_⟩⟩
    have := hc g rfl j v hj
    rw [Addr.add_lit, Nat.zero_add] at this
    exact this
theorem Row.lies {N : Nat} {u : Value} {l : List V} {W : World} (h : Row N u l W) (hN : N ≤ W.heap.size) : ∃ A c, u = .slice A l.length c ∧ LiesL W W.heap.size A c l := by
  obtain ⟨A, c, hu, h1, h2, h3⟩ := h.form
  refine ⟨A, c, hu, h1, h2, h3.imp id ?_⟩
  rintro ⟨g, hA, hg, css, hr, hc⟩
  exact ⟨g, 0, hA, hg, LiesFromIn.lies (fun b hb => by omega) _ (hr.from fun j v hj => by rw [Nat.zero_add]; exact hc j v hj)⟩
theorem rows_of {w : World} {B b : Nat} : ∀ {l : List V} {o : Nat}, LiesFrom w B l b o → ∃ css, RowsIn (fun b => b < B) w l css ∧ ∀ j u, css.flatten[j]? = some u → w.cell? ⟨b, o + j, none⟩ = some u
  | [], _, _ => ⟨[], trivial, fun j u h => by simp at h⟩
  | x :: r, o, h => by
    obtain ⟨⟨A, c, K, d, e0, e1, e2, e3, e4, hx⟩, hr⟩ := h
    obtain ⟨css, h1, h2⟩ := rows_of hr
    refine ⟨fieldsL x A c K d :: css, ⟨⟨A, c, K, d, rfl, Lies.inn x hx⟩, h1⟩, fun j u hj => ?_⟩
    match j, hj with
    | 0, hj => simp [fieldsL] at hj; subst hj; simpa using e0
    | 1, hj => simp [fieldsL] at hj; subst hj; exact e1
    | 2, hj => simp [fieldsL] at hj; subst hj; exact e2
    | 3, hj => simp [fieldsL] at hj; subst hj; exact e3
    | 4, hj => simp [fieldsL] at hj; subst hj; exact e4
    | j + 5, hj =>
      have := h2 j u (by simpa [fieldsL] using hj)
      rw [show o + (j + 5) = o + 5 + j by omega]
      exact this
theorem LiesL.src {w : World} {B : Nat} {A : Option Addr} {c : Nat} {l : List V} (h : LiesL w B A c l) (hB : B ≤ w.heap.size) : SrcRow B A l w := by
  rcases h.2.2 with rfl | ⟨b, o, hA, hb, hf⟩
  · exact ⟨[], trivial, .inl rfl⟩
  · obtain ⟨css, h1, h2⟩ := rows_of hf
    exact ⟨css, h1, .inr ⟨b, o, hA, by omega, h2⟩⟩
/-- A row's part, from k on. -/
theorem src_part {N g : Nat} {l : List V} {W : World} {css : List (List Value)} (hr : RowsIn (fun b => b < N) W l css) (hg : g < W.heap.size) (hc : ∀ j v, css.flatten[j]? = some v → W.cell? ⟨g, j, none⟩ = some v) (k : Nat) :
    SrcRow N (some ⟨g, 0, none⟩) (l.take k) W ∧ SrcRow N (some ⟨g, k * 5, none⟩) (l.drop k) W := by
  have h := hr.flat_take k
  refine ⟨⟨css.take k, hr.take k, .inr ⟨g, 0, rfl, hg, fun j u hj => ?_⟩⟩, css.drop k, hr.drop k, .inr ⟨g, k * 5, rfl, hg, fun j u hj => ?_⟩⟩
  · rw [Nat.zero_add]
    rw [h.1] at hj
    exact hc j u (by
      have hlt := (List.getElem?_eq_some_iff.1 hj).1
      rw [List.length_take] at hlt
      rw [List.getElem?_take] at hj
      split at hj
      · exact hj
      · cases hj)
  · rw [h.2, List.getElem?_drop] at hj
    exact hc _ u hj
theorem Row.alloc {N : Nat} {u : Value} {l : List V} {W : World} (h : Row N u l W) (hN : N ≤ W.heap.size) (o : Obj) : Row N u l (W.alloc o) :=
  h.kept (World.grownBy_alloc W o none) hN (fun k hk => by cases hk) (fun k _ => by simp)
theorem SrcRow.alloc {N : Nat} {A : Option Addr} {l : List V} {W : World} (h : SrcRow N A l W) (hN : N ≤ W.heap.size) (o : Obj) : SrcRow N A l (W.alloc o) := by
  obtain ⟨css, h1, h2⟩ := h
  refine ⟨css, h1.keep (fun b o' hb => World.cell?_of_block (Below.heap_alloc _ _ _ (show b < W.heap.size by omega))) fun _ h => h, h2.imp id ?_⟩
  rintro ⟨b, o', hA, hb, hc⟩
  exact ⟨b, o', hA, by simp; omega, fun j u hj => by rw [World.cell?_of_block (Below.heap_alloc _ _ _ hb)]; exact hc j u hj⟩
end Go.Proofs.YtfiiaeomlmckfaaGreatDoor

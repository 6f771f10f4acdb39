/- The program's Sort and Distinct: what they answer. -/
import Derived.Test.YtfiiaeomlmckfaaGreatDoorNg
import Derived.Test.YtfiiaeomlmckfaaGreatDoorNe
namespace Go.Proofs.YtfiiaeomlmckfaaGreatDoor
open Go.RowKit

/-- A list and a number are answered. -/
def AnsPost (r : List V) (k : Int) (w : World) (e : Ending) (w' : World) : Prop :=
  ∃ A c, e = .returned (.tuple #[.slice A r.length c, .int .i64 k]) ∧ LiesL w' w'.heap.size A c r ∧ Below w.heap.size w w'
def ansL (l m : List V) : List V := if l.all V.valid = true then m else []
def codeL (l : List V) : Int := if l.all V.valid = true then 0 else 1
theorem AnsPost.none (w w' : World) (k : Int) (h : Below w.heap.size w w') : AnsPost [] k w (.returned (.tuple #[.slice none 0 0, .int .i64 k])) w' := ⟨_, _, rfl, ⟨Nat.le_refl _, by simp [maxLen], .inl rfl⟩, h⟩
theorem RowPost.ans {m : List V} {v : Value} {w w' : World} (h : RowPost m v w w') (hl : m.length ≤ 1000000) (k : Int) : AnsPost m k w (.returned (.tuple #[v, .int .i64 k])) w' := by
  obtain ⟨A, c, rfl, h1, h2, h3, h4⟩ := h.lies hl
  refine ⟨A, c, rfl, ⟨h1, h2, h3.imp id ?_⟩, h4⟩
  rintro ⟨b, o, hA, hb, hf⟩
  exact ⟨b, o, hA, hb.2, LiesFromIn.lies (fun b hb => hb.2) _ hf⟩
theorem sort_ans (l : List V) (w : World) (A : Option Addr) (c : Nat) (hl : l.length ≤ 1000) (h : LiesL w w.heap.size A c l) :
    Calls Tryz.prog 6 #[.slice A l.length c] w (AnsPost (ansL l (sortV l)) (codeL l) w) := by
  refine (progSort_any l w A c hl h).mono ?_
  intro e w' hp
  unfold SortPost at hp
  unfold ansL codeL
  split at hp
  · rename_i hv
    rw [if_pos hv, if_pos hv]
    obtain ⟨v, rfl, hr⟩ := hp
    exact hr.ans (by rw [(sortV_perm l).length_eq]; omega) 0
  · rename_i hv
    rw [if_neg hv, if_neg hv]
    obtain ⟨rfl, hb⟩ := hp
    exact AnsPost.none w w' 1 hb
theorem compact_short (p : Option Addr) (cap : Nat) (fv : Value) (w : World) : Calls Tryz.prog 27 #[.slice p 0 cap, fv] w fun e w' => e = .returned (.slice p 0 cap) ∧ w' = w := by
  go_enter Tryz.func27, Tryz.ntmps27
  go_wp2_with fail
  go_ret
  exact ⟨rfl, rfl⟩
theorem compact_ans {m : List V} {g : Nat} {w w1 w2 : World} {e : Ending} (hw : Below w.heap.size w w1) (hg : w.heap.size ≤ g) (hl : m.length ≤ 1000000) (h : CompactPost m g w1 e w2) :
    ∃ A c, e = .returned (.slice A (onceV m).length c) ∧ LiesL w2 w2.heap.size A c (onceV m) ∧ Below w.heap.size w w2 := by
  obtain ⟨kss, rest, rfl, h1, h2, h3⟩ := h
  have hs := h1.size
  have hr : RowsIn (fun b => b < w2.heap.size) w2 (onceV m) kss := h3.keep (fun b o hb => World.cell?_of_block (h1.block b hb.2 (fun e => by rw [Option.some.injEq] at e; omega))) (fun b hb => by have := hb.2; omega)
  have hf : LiesFromIn (fun b => b < w2.heap.size) w2 (onceV m) g 0 := hr.from fun j v hj => by
    rw [Nat.zero_add, h2.cell, List.getElem?_toArray, List.flatten_append, List.getElem?_append_left (List.getElem?_eq_some_iff.1 hj).1]; exact hj
  exact ⟨_, _, rfl, ⟨onceV_len m, by unfold maxLen; omega, .inr ⟨g, 0, rfl, h2.lt, LiesFromIn.lies (fun _ h => h) _ hf⟩⟩, hw.trans (below_grow h1 hw.size (fun r hr => by cases hr; exact hg))⟩
set_option maxRecDepth 100000 in
set_option maxHeartbeats 2000000 in
theorem distinct_ans (l : List V) (w : World) (A : Option Addr) (c : Nat) (hl : l.length ≤ 1000) (h : LiesL w w.heap.size A c l) :
    Calls Tryz.prog 8 #[.slice A l.length c] w (AnsPost (ansL l (onceV (sortV l))) (codeL l) w) := by
  have HS := Lib.hid (progSort_any l w A c hl h)
  have HL := Lib.hid hl
  clear h hl
  go_enter Tryz.func8, Tryz.ntmps8
  go_wp2_with fail
  refine HS.out.mono ?_
  intro e w1 hp
  unfold SortPost at hp
  split at hp
  · rename_i hv
    have HE1 := Lib.hid (show ∀ m, ansL l m = m from fun m => if_pos hv)
    have HE2 := Lib.hid (show codeL l = 0 from if_pos hv)
    have hok : Ok l := fun x hx => valid_ok (List.all_eq_true.1 hv x hx)
    have HSL := Lib.hid (show (sortV l).length ≤ 1000 by rw [(sortV_perm l).length_eq]; exact HL.out)
    clear hv HS
    obtain ⟨v, rfl, hr⟩ := hp
    rcases hr with ⟨h0, rfl, hb⟩ | ⟨g, css, rfl, h1, h2, h3, h4, h5⟩
    · have H0 := Lib.hid h0
      have HB := Lib.hid hb
      clear h0 hb hok
      go_wp2_with (go_at_call 27; refine (compact_short _ _ _ _).mono ?_; rintro e w' ⟨rfl, rfl⟩)
      go_ret2
      rw [HE1.out, HE2.out, H0.out]
      exact AnsPost.none w _ 0 HB.out
    · have HC := Lib.hid (compact_any (sortV l) css g w1 h3 h4 (sortV_ok hok) HSL.out)
      have HB := Lib.hid h5
      have HG := Lib.hid h1
      clear h1 h2 h3 h4 h5 hok
      obtain ⟨n, hn⟩ : ∃ n, n = (sortV l).length := ⟨_, rfl⟩
      rw [← hn] at HC ⊢
      clear hn
      go_wp2_with (go_at_call 27; refine HC.out.mono ?_; intro e w' hcp; obtain ⟨A9, c9, rfl, hl9, hb9⟩ := compact_ans HB.out HG.out (by have := HSL.out; omega) hcp)
      have HL9 := Lib.hid hl9
      have HB9 := Lib.hid hb9
      clear hl9 hb9 hcp
      go_ret2
      rw [HE1.out, HE2.out]
      exact ⟨A9, c9, rfl, HL9.out, HB9.out⟩
  · rename_i hv
    have HE1 := Lib.hid (show ∀ m, ansL l m = [] from fun m => if_neg hv)
    have HE2 := Lib.hid (show codeL l = 1 from if_neg hv)
    obtain ⟨rfl, hb⟩ := hp
    have HB := Lib.hid hb
    clear hb hv HS
    go_wp2_with (go_at_call 27; refine (compact_short _ _ _ _).mono ?_; rintro e w' ⟨rfl, rfl⟩)
    go_ret2
    rw [HE1.out, HE2.out]
    exact AnsPost.none w _ 1 HB.out
end Go.Proofs.YtfiiaeomlmckfaaGreatDoor

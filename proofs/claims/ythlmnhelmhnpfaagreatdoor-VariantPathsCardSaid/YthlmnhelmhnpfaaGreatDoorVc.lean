/- The item of a step: both readings walked. -/
import Derived.Test.YthlmnhelmhnpfaaGreatDoorVb
namespace Go.Proofs.YthlmnhelmhnpfaaGreatDoor
open Go.RowKit

/-- Where the item of a step is, and whether it is there. -/
def findV (x : V) (s : Stp) : Int × Bool := if 0 ≤ s.1 then (s.1, decide (x.kind = 4) && decide (s.1 < x.items.length)) else ((posK s.2 x.keys : Nat), hasK s.2 x.keys)
/-- The item of a step. -/
def itemV (x : V) (s : Stp) : Option V := if 0 ≤ s.1 then (if x.kind = 4 then x.items[s.1.toNat]? else none) else if hasK s.2 x.keys = true then x.items[posK s.2 x.keys]? else none
theorem neT {a b : ByteArray} (h : (a.toList == b.toList) = false) : ¬ a = b := fun e => by rw [e] at h; simp at h
theorem eqT {a b : ByteArray} (h : (a.toList == b.toList) = true) : a = b := by
  rw [beq_iff_eq, ByteArray.toList_eq, ByteArray.toList_eq] at h
  exact ByteArray.ext (Array.ext' h)
theorem five_of {w : World} {g : Nat} {t : TypeId} {a b c d e : Value} (h : BlockIs w g t #[a, b, c, d, e]) : w.cell? ⟨g, 0, none⟩ = some a ∧ w.cell? ⟨g, 1, none⟩ = some b ∧ w.cell? ⟨g, 2, none⟩ = some c ∧ w.cell? ⟨g, 3, none⟩ = some d ∧ w.cell? ⟨g, 4, none⟩ = some e :=
  ⟨h.cell 0, h.cell 1, h.cell 2, h.cell 3, h.cell 4⟩
theorem lies_items {w : World} {B : Nat} {x : V} {A K : Option Addr} {c d : Nat} (h : Lies w B x A c K d) : LiesL w B A c x.items := by cases x; exact h.items
theorem lies_keys {w : World} {B : Nat} {x : V} {A K : Option Addr} {c d : Nat} (h : Lies w B x A c K d) : Strs w B K d x.keys := by cases x; exact h.keys
set_option maxRecDepth 100000 in
set_option maxHeartbeats 4000000 in
theorem find_any (x : V) (s : Stp) (w : World) (A K : Option Addr) (c d : Nat) (h : Lies w w.heap.size x A c K d) (hr : Rising x.keys) (hk : x.keys.length ≤ 100) :
    Calls Tryz.prog 53 #[aggOf x A c K d, stepV s] w fun e w' => e = .returned (.tuple #[.int .i64 (findV x s).1, .bool (findV x s).2]) ∧ Below w.heap.size w w' := by
  obtain ⟨i, t⟩ := s
  unfold stepV aggOf
  simp only
  have hlen : x.items.length ≤ maxLen := by have := (lies_items h).1; have := (lies_items h).2.1; omega
  unfold maxLen at hlen
  have HB := Lib.hid (below_al (below_al (Below.refl _ w) (.cells #[.int .i64 x.kind, .int .i64 x.int, .string x.text, .slice A x.items.length c, .slice K x.keys.length d] 38)) (.cells #[.int .i64 i, .string t] 46))
  by_cases h0 : 0 ≤ i
  · have HF := Lib.hid (show findV x (i, t) = (i, decide (x.kind = 4) && decide (i < x.items.length)) by simp [findV, h0])
    clear h hr hk
    by_cases h4 : x.kind = 4
    · have hd : (x.kind == 4) = true := by simp [h4]
      have H4 := Lib.hid h4
      clear h4
      go_enter Tryz.func53, Tryz.ntmps53
      go_wp2_with fail
      go_quiet (fail)
      go_wp2_with fail
      go_ret2
      exact ⟨by rw [HF.out, H4.out]; simp, below_drewN HB.out _⟩
    · have hd : (x.kind == 4) = false := by simp [h4]
      have H4 := Lib.hid h4
      clear h4
      go_enter Tryz.func53, Tryz.ntmps53
      go_wp2_with fail
      go_quiet (fail)
      go_wp2_with fail
      go_ret2
      exact ⟨by rw [HF.out]; simp [H4.out], below_drewN HB.out _⟩
  · have HF := Lib.hid (show findV x (i, t) = (((posK t x.keys : Nat) : Int), hasK t x.keys) by simp [findV, h0])
    have HS := Lib.hid fun W (hW : Below w.heap.size w W) => show Calls Tryz.prog 85 #[.slice K x.keys.length d, .string t] W fun e w' => e = .returned (.tuple #[.int .i64 (posK t x.keys : Nat), .bool (hasK t x.keys)]) ∧ ∃ q, w' = W.drewN q by
      rcases (lies_keys (lies_on h hW)).2.2 with hn | ⟨b, o, rfl, hb, hf⟩
      · rw [hn]; exact search_nil K d t W
      · exact search_at b o _ d x.keys t W rfl hk hr fun j y hj => (hf.at_ hj).1
    clear h hr hk
    go_enter Tryz.func53, Tryz.ntmps53
    go_wp2_with fail
    refine (HS.out _ HB.out).mono ?_
    rintro e w1 ⟨rfl, q, rfl⟩
    go_wp2_with fail
    go_ret2
    exact ⟨by rw [HF.out]; rfl, below_drewN HB.out _⟩
theorem posK_at {keys : List ByteArray} {k : ByteArray} (h : Rising keys) {i : Nat} (hi : keys[i]? = some k) : posK k keys = i := by
  induction keys generalizing i with
  | nil => simp at hi
  | cons y r ih =>
    rw [Rising, List.pairwise_cons] at h
    rw [posK]
    cases i with
    | zero => simp at hi; subst hi; rw [ltB_irrefl]; simp
    | succ i =>
      simp at hi
      rw [h.1 k (List.mem_of_getElem? hi), if_pos rfl, ih h.2 hi]
theorem step_list {x : V} {i : Int} {t : ByteArray} (h0 : 0 ≤ i) (h4 : x.kind = 4) (hl : ¬ (x.items.length : Int) ≤ i) : ∃ y, itemV x (i, t) = some y ∧ x.items[i.toNat]? = some y := by
  have : i.toNat < x.items.length := by omega
  exact ⟨_, by simp [itemV, h0, h4, List.getElem?_eq_getElem this], List.getElem?_eq_getElem this⟩
theorem step_key {x : V} {i : Int} {t : ByteArray} (h0 : ¬ 0 ≤ i) (hr : Rising x.keys) (hl : x.keys.length = x.items.length) {j : Nat} (hj : x.keys[j]? = some t) : ∃ y, itemV x (i, t) = some y ∧ x.items[j]? = some y := by
  have hlt : j < x.items.length := by rw [← hl]; exact (List.getElem?_eq_some_iff.1 hj).1
  refine ⟨_, ?_, List.getElem?_eq_getElem hlt⟩
  unfold itemV
  rw [if_neg h0, if_pos ((hasK_iff _ _).2 (List.mem_of_getElem? hj)), posK_at hr hj]
  exact List.getElem?_eq_getElem hlt
theorem step_nokey {x : V} {i : Int} {t : ByteArray} (h0 : ¬ 0 ≤ i) (hn : ∀ j, j < x.keys.length → x.keys[j]? ≠ some t) : itemV x (i, t) = none := by
  unfold itemV
  rw [if_neg h0, if_neg]
  intro e
  obtain ⟨j, hj, he⟩ := List.getElem_of_mem ((hasK_iff _ _).1 e)
  exact hn j hj (by rw [List.getElem?_eq_getElem hj]; exact congrArg some he)
/-- What is known of a valid value's keys. -/
theorem okk {x : V} (h : x.ok = true) : Rising x.keys ∧ (¬ x.kind = 5 → x.keys = []) ∧ (x.kind = 5 → x.keys.length = x.items.length) := by
  obtain ⟨k, i, t, l, ks⟩ := x
  rw [V.ok, Bool.and_eq_true] at h
  obtain ⟨hs, -⟩ := h
  simp only [V.sound] at hs
  simp only [V.keys, V.kind, V.items]
  have nil : ks.length = 0 → Rising ks ∧ (¬ k = 5 → ks = []) := fun e => by
    rw [List.length_eq_zero_iff] at e
    subst e
    exact ⟨List.Pairwise.nil, fun _ => rfl⟩
  split at hs
  · simp at hs; have := nil (by simp [hs]); exact ⟨this.1, this.2, fun e => by omega⟩
  · split at hs
    · simp at hs; have := nil (by simp [hs]); exact ⟨this.1, this.2, fun e => by omega⟩
    · split at hs
      · simp at hs; have := nil (by simp [hs]); exact ⟨this.1, this.2, fun e => by omega⟩
      · split at hs
        · simp at hs; have := nil (by simp [hs]); exact ⟨this.1, this.2, fun e => by omega⟩
        · split at hs
          · simp at hs; have := nil (by simp [hs]); exact ⟨this.1, this.2, fun e => by omega⟩
          · split at hs
            · simp only [Bool.and_eq_true, beq_iff_eq] at hs
              exact ⟨(rising_of hs.2).1, fun e => absurd (by assumption) e, fun _ => hs.1.2⟩
            · cases hs
/-- What the specification's look for an item leaves: the item, which lies where it lay, and whether it is there. -/
def ItemPost (B : Nat) (r : Option V) (w : World) (e : Ending) (w' : World) : Prop :=
  Below w.heap.size w w' ∧ match r with
    | none => e = .returned (.tuple #[aggOf (leaf 0 0 ⟨#[]⟩) none 0 none 0, .bool false])
    | some y => ∃ A c K d, e = .returned (.tuple #[aggOf y A c K d, .bool true]) ∧ Lies w' B y A c K d
end Go.Proofs.YthlmnhelmhnpfaaGreatDoor

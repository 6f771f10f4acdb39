/- The specification's reader: an object, walked. -/
import Derived.Test.YtcbcfcokfjfffaaDoorSf
namespace Go.Proofs.YtcbcfcokfjfffaaDoor
open Go.RowKit

theorem strR_size : ∀ (f : Nat) {l acc t r : List UInt8}, l.length ≤ f → strR l acc = some (t, r) → t.length ≤ acc.length + l.length
  | f, [], acc, t, r, _, h => by rw [strR] at h; cases h
  | 0, c :: l, acc, t, r, hf, h => by simp at hf
  | f + 1, c :: l, acc, t, r, hf, h => by
    rw [strR_cons] at h
    simp only [List.length_cons] at hf ⊢
    split at h
    · cases h; omega
    · split at h
      · split at h
        · cases h
        · split at h
          · have := strR_size f (by simp only [List.length_cons] at hf; omega) h
            simp only [List.length_append, List.length_cons, List.length_nil] at this ⊢
            omega
          · cases h
      · have := strR_size f (by omega) h
        simp only [List.length_append, List.length_cons, List.length_nil] at this
        omega
/-- How far the reading of an object has come. -/
def OrAt (w : World) (G g : Nat) (s : ByteArray) (bl : Bool) (f : List UInt8 → Option (V × List UInt8)) (R : Option ((List ByteArray × List V) × List UInt8)) (W : World) : Prop :=
  ∃ k bd st A c K d, k ≤ s.size ∧ OS w G g s bl k bd st A c K d W ∧ st.1.length = st.2.length ∧ (bd = false → st.2.length ≤ k ∧ ∃ F, entriesR f bl F st (sfx s k) = R ∧ (sfx s k).length < F) ∧ (bd = true → R = none)
/-- The two calls of an entry, in one form each. -/
theorem str_form (g : Nat) (s : ByteArray) (hs : s.size ≤ 1000000) (bl bd : Bool) (k : Nat) (w : World) (h : RAt w g s k bl bd) (hk : k ≤ s.size) :
    Calls Tryd.prog 88 #[.pointer (some ⟨g, 0, none⟩)] w fun e w' => ∃ (t : ByteArray) (k2 : Nat) (bd2 : Bool), e = .returned (.string t) ∧ t.size ≤ maxLen ∧ k2 ≤ s.size ∧ RWent g s k2 bl bd2 w w' ∧
      Hid ((bd2 = true ∧ strR (sfx s k) [] = none) ∨ (bd2 = bd ∧ ∃ T, t = ⟨T.toArray⟩ ∧ strR (sfx s k) [] = some (T, sfx s k2))) := by
  refine (str_any g s k bl bd w h hk hs).mono ?_
  intro e w' hp
  rcases hst : strR (sfx s k) [] with _ | ⟨T, l⟩
  · rw [hst] at hp
    obtain ⟨rfl, k2, hk2, hW⟩ := hp
    exact ⟨⟨#[]⟩, k2, true, rfl, by simp [ByteArray.size], hk2, hW, Lib.hid (.inl ⟨rfl, rfl⟩)⟩
  · rw [hst] at hp
    obtain ⟨rfl, k2, hk2, rfl, hW⟩ := hp
    have := strR_size _ (Nat.le_refl _) hst
    rw [sfx_length] at this
    have h1 : (⟨T.toArray⟩ : ByteArray).size = T.length := rfl
    simp only [List.length_nil] at this
    have h2 : (⟨T.toArray⟩ : ByteArray).size ≤ maxLen := by rw [h1]; unfold maxLen; omega
    exact ⟨⟨T.toArray⟩, k2, bd, rfl, h2, hk2, hW, Lib.hid (.inr ⟨rfl, T, rfl, rfl⟩)⟩
theorem value_form (g : Nat) (s : ByteArray) (bl bd : Bool) (n : Int) (f : List UInt8 → Option (V × List UInt8)) (k : Nat) (w : World)
    (h : Calls Tryd.prog 55 #[.pointer (some ⟨g, 0, none⟩), .int .i64 n] w (RPost g s bl false w (if bd = true then none else f (sfx s k)))) :
    Calls Tryd.prog 55 #[.pointer (some ⟨g, 0, none⟩), .int .i64 n] w fun e w' => ∃ x A c K q k2 bd2, e = .returned (cellsOf x A c K q) ∧ LiesIn (Fresh w w') w' x A c K q ∧ k2 ≤ s.size ∧ RWent g s k2 bl bd2 w w' ∧
      Hid ((bd2 = true ∧ (bd = true ∨ f (sfx s k) = none)) ∨ (bd2 = false ∧ bd = false ∧ f (sfx s k) = some (x, sfx s k2))) := by
  refine h.mono ?_
  intro e w' hp
  cases bd
  · simp only [Bool.false_eq_true, if_false] at hp
    rcases hst : f (sfx s k) with _ | ⟨x, r⟩
    · rw [hst] at hp
      obtain ⟨x, A, c, K, q, he, hx, k2, hk2, hW⟩ := hp
      exact ⟨x, A, c, K, q, k2, true, he, hx, hk2, hW, Lib.hid (.inl ⟨rfl, .inr rfl⟩)⟩
    · rw [hst] at hp
      obtain ⟨A, c, K, q, he, hx, k2, hk2, hr, hW⟩ := hp
      exact ⟨x, A, c, K, q, k2, false, he, hx, hk2, hW, Lib.hid (.inr ⟨rfl, rfl, by rw [hr]⟩)⟩
  · obtain ⟨x, A, c, K, q, he, hx, k2, hk2, hW⟩ := hp
    exact ⟨x, A, c, K, q, k2, true, he, hx, hk2, hW, Lib.hid (.inl ⟨rfl, .inl rfl⟩)⟩
set_option maxHeartbeats 1000000 in
theorem refStr_any (t : ByteArray) (w : World) :
    Calls Tryd.prog 87 #[.string t] w fun e w' => e = .returned (.agg #[.int .i64 3, .int .i64 0, .string t, .slice none 0 0, .slice none 0 0]) ∧ Below w.heap.size w w' := by
  go_enter Tryd.func87, Tryd.ntmps87
  go_wp2_with fail
  refine bodyPost_ret (v := .agg #[.int .i64 3, .int .i64 0, .string t, .slice none 0 0, .slice none 0 0]) (by simp [results, Tryd.results87, go_sem]) rfl ?_
  exact ⟨rfl, (Below.refl _ _).alloc (Nat.le_refl _) _⟩
set_option maxHeartbeats 1000000 in
theorem refTruth_any (b : Bool) (w : World) :
    Calls Tryd.prog 86 #[.bool b] w fun e w' => e = .returned (.agg #[.int .i64 1, .int .i64 (if b = true then 1 else 0), .string ⟨#[]⟩, .slice none 0 0, .slice none 0 0]) ∧ Below w.heap.size w w' := by
  cases b
  · go_enter Tryd.func86, Tryd.ntmps86
    go_wp2_with fail
    refine bodyPost_ret (v := .agg #[.int .i64 1, .int .i64 0, .string ⟨#[]⟩, .slice none 0 0, .slice none 0 0]) (by simp [results, Tryd.results86, go_sem]) rfl ?_
    exact ⟨rfl, (Below.refl _ _).alloc (Nat.le_refl _) _⟩
  · go_enter Tryd.func86, Tryd.ntmps86
    go_wp2_with fail
    refine bodyPost_ret (v := .agg #[.int .i64 1, .int .i64 1, .string ⟨#[]⟩, .slice none 0 0, .slice none 0 0]) (by simp [results, Tryd.results86, go_sem]) rfl ?_
    exact ⟨rfl, (Below.refl _ _).alloc (Nat.le_refl _) _⟩
end Go.Proofs.YtcbcfcokfjfffaaDoor

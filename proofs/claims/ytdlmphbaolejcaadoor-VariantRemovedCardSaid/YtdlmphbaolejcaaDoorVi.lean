/- The text of a path, walked. -/
import Derived.Test.YtdlmphbaolejcaaDoorVa
namespace Go.Proofs.YtdlmphbaolejcaaDoor
open Go.RowKit

/-- The text of a step, of a path. -/
def stepT (s : Stp) : List UInt8 := if 0 ≤ s.1 then 91 :: (Lib.itoa s.1 ++ [93]) else if wordB s.2.data.toList = true then 46 :: s.2.data.toList else 91 :: (quoteB s.2.data.toList ++ [93])
def pathT (p : List Stp) : List UInt8 := 36 :: p.flatMap stepT
theorem ct_c (u : List UInt8) (c : UInt8) : (⟨u.toArray⟩ ++ ⟨#[c]⟩ : ByteArray) = ⟨(u ++ [c]).toArray⟩ := ByteArray.mk_append_mk u [c]
theorem ct_l (u v : List UInt8) : (⟨u.toArray⟩ ++ ⟨v.toArray⟩ : ByteArray) = ⟨(u ++ v).toArray⟩ := ByteArray.mk_append_mk u v
theorem ct_h (c : UInt8) (v : List UInt8) : (⟨#[c]⟩ ++ ⟨v.toArray⟩ : ByteArray) = ⟨(c :: v).toArray⟩ := ByteArray.mk_append_mk [c] v
theorem ct_b (c : UInt8) (t : ByteArray) : (⟨#[c]⟩ ++ t : ByteArray) = ⟨(c :: t.data.toList).toArray⟩ := by
  obtain ⟨⟨l⟩⟩ := t
  exact ByteArray.mk_append_mk [c] l
theorem step_index {i : Int} {t : ByteArray} (h : stepB (i, t) = true) (h0 : 0 ≤ i) : i ≤ 99 := by
  have hi : ¬ i = -1 := by omega
  simp [stepB, hi] at h
  exact h.1.2
theorem step_text {i : Int} {t : ByteArray} (h : stepB (i, t) = true) (h0 : ¬ 0 ≤ i) : i = -1 ∧ textB t.data.toList = true := by
  by_cases hi : i = -1
  · subst hi; exact ⟨rfl, by simpa [stepB] using h⟩
  · simp [stepB, hi] at h; omega
theorem text_size {t : ByteArray} (h : textB t.data.toList = true) : t.size ≤ 100 := by
  unfold textB at h
  rw [Bool.and_eq_true, decide_eq_true_eq] at h
  have : t.data.toList.length = t.size := by simp
  omega
theorem esc2_len (l : List UInt8) : (l.flatMap escB).length ≤ 2 * l.length := by
  induction l with
  | nil => simp
  | cons c r ih => rw [List.flatMap_cons, List.length_append]; have : (escB c).length ≤ 2 := by unfold escB; split <;> simp
                   simp only [List.length_cons]; omega
set_option maxRecDepth 100000 in
set_option maxHeartbeats 4000000 in
theorem stepText_any (s : Stp) (w : World) (hs : stepB s = true) (hsz : s.2.size ≤ maxLen) (hp : Pow w) :
    Calls Tryd.prog 60 #[stepV s] w fun e w' => e = .returned (.string ⟨(stepT s).toArray⟩) ∧ Below w.heap.size w w' := by
  obtain ⟨i, t⟩ := s
  unfold stepV
  simp only at hsz ⊢
  have hb0 := below_al (Below.refl _ w) (.cells #[.int .i64 i, .string t] 51)
  have HB0 := Lib.hid hb0
  have HP := Lib.hid (hp.on hb0)
  by_cases h0 : 0 ≤ i
  · have h9 := step_index hs h0
    have HR := Lib.hid (show stepT (i, t) = 91 :: (Lib.itoa i ++ [93]) by simp [stepT, h0])
    obtain ⟨u, hu⟩ : ∃ u, u = Lib.itoa i := ⟨_, rfl⟩
    have hul : u.length ≤ 21 := by rw [hu]; exact Lib.itoa_length_le i (by omega) (by omega)
    have HI := Lib.hid fun W (hW : Pow W) => show Calls Tryd.prog 79 #[.int .i64 i] W fun e w' => e = .returned (.string ⟨u.toArray⟩) ∧ Below W.heap.size W w' by
      rw [hu]; exact itoa_any i (by omega) (by omega) W hW
    rw [← hu] at HR
    clear hs hu hp hb0
    go_enter Tryd.func60, Tryd.ntmps60
    go_wp2_with fail
    refine (HI.out _ HP.out).mono ?_
    rintro e w1 ⟨rfl, h1⟩
    have HB1 := Lib.hid (below_on HB0.out h1)
    clear h1
    go_wp2_with fail
    go_ret
    exact ⟨by rw [HR.out]; show Ending.returned (.string (⟨#[91]⟩ ++ ⟨u.toArray⟩ ++ ⟨#[93]⟩)) = _; rw [ct_h, ct_c]; rfl, HB1.out⟩
  · obtain ⟨rfl, ht⟩ := step_text hs h0
    have htl := text_size ht
    have HT := Lib.hid ht
    have HSZ := Lib.hid hsz
    clear hs ht h0 hp hsz
    cases hw : wordB t.data.toList
    · have HR := Lib.hid (show stepT (-1, t) = 91 :: (quoteB t.data.toList ++ [93]) by simp [stepT, hw])
      have HW := Lib.hid fun W => show Calls Tryd.prog 80 #[.string t] W fun e w' => e = .returned (.bool false) ∧ w' = W by
        rw [← hw]; exact word_any t W HSZ.out
      obtain ⟨u, hu⟩ : ∃ u, u = quoteB t.data.toList := ⟨_, rfl⟩
      have hul : u.length ≤ 202 := by
        rw [hu]
        have := esc2_len t.data.toList
        have h2 : t.data.toList.length = t.size := by simp
        simp only [quoteB, List.length_cons, List.length_append, List.length_nil]
        omega
      have HX := Lib.hid fun W (hW : Pow W) => show Calls Tryd.prog 81 #[aggOf (leaf 3 0 t) none 0 none 0] W fun e w' => e = .returned (.tuple #[.string ⟨u.toArray⟩, .int .i64 0]) ∧ Below W.heap.size W w' by
        have := text_valid (leaf 3 0 t) W none none 0 0 (leaf_lies W _ 3 0 HSZ.out) hW (by rw [text_valid3]; exact HT.out)
        rwa [show (leaf 3 0 t).write = u by rw [hu]; simp [leaf, V.write]] at this
      rw [← hu] at HR
      clear hu hw hb0
      go_enter Tryd.func60, Tryd.ntmps60
      go_wp2_with fail
      refine (HW.out _).mono ?_
      rintro e w1 ⟨rfl, rfl⟩
      go_wp2_with fail
      refine (text_agg t _).mono ?_
      rintro e w2 ⟨rfl, h2⟩
      have HP2 := Lib.hid (HP.out.on h2)
      have HB2 := Lib.hid (below_on HB0.out h2)
      clear h2
      go_wp2_with fail
      refine (HX.out _ HP2.out).mono ?_
      rintro e w3 ⟨rfl, h3⟩
      have HB3 := Lib.hid (below_on HB2.out h3)
      clear h3
      go_wp2_with fail
      go_ret
      exact ⟨by rw [HR.out]; show Ending.returned (.string (⟨#[91]⟩ ++ ⟨u.toArray⟩ ++ ⟨#[93]⟩)) = _; rw [ct_h, ct_c]; rfl, HB3.out⟩
    · have HR := Lib.hid (show stepT (-1, t) = 46 :: t.data.toList by simp [stepT, hw])
      have HW := Lib.hid fun W => show Calls Tryd.prog 80 #[.string t] W fun e w' => e = .returned (.bool true) ∧ w' = W by
        rw [← hw]; exact word_any t W HSZ.out
      clear hw hb0
      go_enter Tryd.func60, Tryd.ntmps60
      go_wp2_with fail
      refine (HW.out _).mono ?_
      rintro e w1 ⟨rfl, rfl⟩
      go_wp2_with fail
      go_ret
      exact ⟨by rw [HR.out]; show Ending.returned (.string (⟨#[46]⟩ ++ t)) = _; rw [ct_b], HB0.out⟩
theorem stepT_len {s : Stp} (hs : stepB s = true) : (stepT s).length ≤ 210 := by
  obtain ⟨i, t⟩ := s
  unfold stepT
  by_cases h0 : 0 ≤ i
  · have h9 := step_index hs h0
    have := Lib.itoa_length_le i (by omega) (by omega)
    simp [h0]; omega
  · obtain ⟨rfl, ht⟩ := step_text hs h0
    have htl := text_size ht
    have h2 : t.data.toList.length = t.size := by simp
    have := esc2_len t.data.toList
    simp only [h0, if_false]
    split
    · simp only [List.length_cons]; omega
    · simp only [quoteB, List.length_cons, List.length_append, List.length_nil]; omega
theorem pathT_step {p : List Stp} {j : Nat} {s : Stp} {u : List UInt8} (h : p[j]? = some s) (hu : u = 36 :: (p.take j).flatMap stepT) : u ++ stepT s = 36 :: (p.take (j + 1)).flatMap stepT := by
  subst hu
  rw [List.take_add_one, h]
  simp
theorem path_valid {p : List Stp} (h : pathB p = true) : p.length ≤ 6 ∧ ∀ s ∈ p, stepB s = true := by
  unfold pathB at h
  rw [Bool.and_eq_true, decide_eq_true_eq, List.all_eq_true] at h
  exact h
set_option maxRecDepth 100000 in
set_option maxHeartbeats 4000000 in
theorem pathText_any (p : List Stp) (w : World) (A : Option Addr) (c : Nat) (hv : pathB p = true) (h : PLies w w.heap.size A c p) (hp : Pow w) :
    Calls Tryd.prog 40 #[.slice A p.length c] w fun e w' => e = .returned (.tuple #[.string ⟨(pathT p).toArray⟩, .int .i64 0]) ∧ Below w.heap.size w w' := by
  obtain ⟨n, hn⟩ : ∃ n, n = p.length := ⟨_, rfl⟩
  have HN := Lib.hid hn
  obtain ⟨hp6, hst⟩ := path_valid hv
  have hn6 : n ≤ 6 := by omega
  have HST := Lib.hid hst
  have HPL := Lib.hid fun W (hW : Below w.heap.size w W) => h.on hW
  have HP := Lib.hid fun W (hW : Below w.heap.size w W) => hp.on hW
  have HV := Lib.hid (show Calls Tryd.prog 31 #[.slice A n c] w fun e w' => e = .returned (.bool true) ∧ Below w.heap.size w w' by
    rw [hn, ← hv]; exact pathValid_any p w A c h)
  rw [← hn]
  clear h hn hv hp hp6 hst
  go_enter Tryd.func40, Tryd.ntmps40
  go_wp2_with fail
  refine (HV.out).mono ?_
  rintro e w1 ⟨rfl, h1⟩
  have HB1 := Lib.hid h1
  clear h1
  go_wp2_with fail
  go_loopw [4, 12] (fun sv iv wr => ∃ (j : Nat) (u : List UInt8), sv = .string ⟨u.toArray⟩ ∧ iv = .int .i64 j ∧ j ≤ n ∧ u.length ≤ 1 + 210 * j ∧ Hid (Below w.heap.size w wr ∧ u = 36 :: (p.take j).flatMap stepT)) (fun _ iv _ => n - (intOf iv).toNat)
  case atStart => exact ⟨0, [36], rfl, rfl, Nat.zero_le _, by simp, Lib.hid ⟨HB1.out, by simp⟩⟩
  case round =>
    obtain ⟨j, u, rfl, rfl, hj, hul, hI⟩ := hrel
    by_cases hlt : j < n
    · obtain ⟨s, hs⟩ : ∃ s, p[j]? = some s := ⟨_, List.getElem?_eq_getElem (by rw [← HN.out]; exact hlt)⟩
      obtain ⟨b, o, rfl, hbB, e0, e1, hsz⟩ := (HPL.out _ hI.out.1).at_ hs
      have hsv := HST.out s (List.mem_of_getElem? hs)
      have HX := Lib.hid (pathT_step hs hI.out.2)
      have hsl := stepT_len hsv
      have hjn : (j : Int) < n := by omega
      obtain ⟨v, hv⟩ : ∃ v, v = stepT s := ⟨_, rfl⟩
      have HC := Lib.hid fun W (hW : Below w.heap.size w W) => show Calls Tryd.prog 60 #[.agg #[.int .i64 s.1, .string s.2]] W fun e w' => e = .returned (.string ⟨v.toArray⟩) ∧ Below W.heap.size W w' by
        rw [hv]; exact stepText_any s W hsv hsz (HP.out W hW)
      rw [← hv] at HX hsl
      clear hs hsv hv
      go_wp2_with fail
      refine (HC.out _ (below_al hI.out.1 _)).mono ?_
      rintro e w2 ⟨rfl, h2⟩
      have HB2 := Lib.hid (below_on (below_al hI.out.1 (.cells #[.int .i64 s.1, .string s.2] 51)) h2)
      clear h2 e0 e1 hsz
      go_wp2_with fail
      go_roundw
      case rel => exact ⟨j + 1, u ++ v, by rw [ct_l], by go_num, by omega, by rw [List.length_append]; omega, Lib.hid ⟨HB2.out, HX.out⟩⟩
      case measure => simp [intOf]; omega
    · have hjn : ¬ ((j : Int) < n) := by omega
      have HT := Lib.hid (show u = pathT p by
        have := hI.out.2
        rw [List.take_of_length_le (by have := HN.out; omega)] at this
        exact this)
      go_wp2_with fail
      go_ret2
      exact ⟨by rw [← HT.out]; rfl, hI.out.1⟩
end Go.Proofs.YtdlmphbaolejcaaDoor

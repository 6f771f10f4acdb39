/- A path's text read back (plain): the program's reader. -/
import Derived.Test.YthlmnhelmhnpfaaGreatDoorVi
namespace Go.Proofs.YthlmnhelmhnpfaaGreatDoor

/-- How many bytes there are before the next step, outside of quotes. -/
def endP : Bool → List UInt8 → Nat
  | _, [] => 0
  | q, c :: r =>
    if c = 34 then 1 + endP (!q) r
    else if q = true ∧ c = 92 then (match r with | [] => 1 | _ :: u => 2 + endP q u)
    else if q = false ∧ (c = 46 ∨ c = 91) then 0
    else 1 + endP q r
theorem endP_cons (q : Bool) (c : UInt8) (r : List UInt8) : endP q (c :: r) = if c = 34 then 1 + endP (!q) r
    else if q = true ∧ c = 92 then (match r with | [] => 1 | _ :: u => 2 + endP q u)
    else if q = false ∧ (c = 46 ∨ c = 91) then 0
    else 1 + endP q r := by rw [endP.eq_def]
theorem endP_le : ∀ (f : Nat) (q : Bool) (l : List UInt8), l.length ≤ f → endP q l ≤ l.length
  | _, _, [], _ => by rw [endP.eq_def]; exact Nat.zero_le _
  | 0, _, _ :: _, h => by simp at h
  | f + 1, q, c :: r, h => by
    simp only [List.length_cons] at h ⊢
    rw [endP_cons]
    split
    · have := endP_le f (!q) r (by omega); omega
    · split
      · cases r with
        | nil => simp
        | cons x u => simp only [List.length_cons] at h ⊢; have := endP_le f q u (by omega); omega
      · split
        · omega
        · have := endP_le f q r (by omega); omega
/-- What follows a step. -/
def sepU (u : List UInt8) : Prop := u = [] ∨ ∃ c r, u = c :: r ∧ (c = 46 ∨ c = 91)
theorem endP_sep {u : List UInt8} (h : sepU u) : endP false u = 0 := by
  rcases h with rfl | ⟨c, r, rfl, h⟩
  · rw [endP.eq_def]
  · rw [endP_cons, if_neg (by rcases h with rfl | rfl <;> decide), if_neg (by simp), if_pos ⟨rfl, h⟩]
theorem endP_plain : ∀ (l u : List UInt8), (∀ c ∈ l, ¬ c = 34 ∧ ¬ c = 46 ∧ ¬ c = 91) → endP false (l ++ u) = l.length + endP false u
  | [], _, _ => by simp
  | c :: r, u, h => by
    have hc := h c (by simp)
    rw [List.cons_append, endP_cons, if_neg hc.1, if_neg (by simp), if_neg (by simp [hc.2.1, hc.2.2]), endP_plain r u fun x hx => h x (by simp [hx])]
    simp only [List.length_cons]; omega
theorem endP_quoted : ∀ (l u : List UInt8), endP true (l.flatMap escB ++ 34 :: u) = (l.flatMap escB).length + 1 + endP false u
  | [], u => by
    rw [List.flatMap_nil, List.nil_append, endP_cons, if_pos rfl]
    simp
  | c :: r, u => by
    have ih := endP_quoted r u
    rw [List.flatMap_cons, List.append_assoc, List.length_append]
    by_cases h : c = 34 ∨ c = 92
    · rw [show escB c = [92, c] by simp [escB, h]]
      rw [List.cons_append, List.cons_append, List.nil_append, endP_cons, if_neg (by decide), if_pos ⟨rfl, rfl⟩]
      simp only [List.length_cons, List.length_nil]
      rw [ih]; omega
    · rw [show escB c = [c] by simp [escB, h]]
      rw [List.cons_append, List.nil_append, endP_cons, if_neg (fun e => h (.inl e)), if_neg (fun e => h (.inr e.2)), if_neg (by simp), ih]
      simp only [List.length_cons, List.length_nil]; omega
/-- The step that a piece of text is read as. -/
def readStepP (l : List UInt8) : Option Stp :=
  if l.headD 0 = 46 then some (-1, ⟨l.tail.toArray⟩)
  else if Lib.hasSuffix l.tail [93] = true then
    match parseP (Lib.trimSuffix l.tail [93]) with
    | none => none
    | some v => if v.kind = 3 then some (-1, v.text) else if v.kind = 2 then some (v.int, ⟨#[]⟩) else none
  else none
/-- The steps of a text, read one after another. -/
def readPathP : Nat → List UInt8 → Option (List Stp)
  | 0, _ => none
  | f + 1, l => if l = [] then some [] else
    match readStepP (l.take (1 + endP false l.tail)) with
    | none => none
    | some s => (readPathP f (l.drop (1 + endP false l.tail))).map (s :: ·)
theorem suf_has (u : List UInt8) : Lib.hasSuffix (u ++ [93]) [93] = true := by
  unfold Lib.hasSuffix
  rw [List.isSuffixOf_iff_suffix]
  exact ⟨u, rfl⟩
theorem suf_trim (u : List UInt8) : Lib.trimSuffix (u ++ [93]) [93] = u := by
  unfold Lib.trimSuffix
  rw [if_pos (suf_has u)]
  simp
theorem dec_digit : ∀ (m : Nat), ∀ c ∈ Lib.decDigits m, digB c = true := by
  intro m
  induction m using Nat.strongRecOn with
  | ind m ih =>
    rw [Lib.decDigits]
    by_cases h : m < 10
    · rw [dif_pos h]; intro c hc; rw [List.mem_singleton.1 hc]; exact (dig_val m h).1
    · rw [dif_neg h]; intro c hc
      rcases List.mem_append.1 hc with h1 | h1
      · exact ih (m / 10) (by omega) c h1
      · rw [List.mem_singleton.1 h1]; exact (dig_val (m % 10) (by omega)).1
theorem dig_ne {c : UInt8} (h : digB c = true) : ¬ c = 34 ∧ ¬ c = 46 ∧ ¬ c = 91 := by
  refine ⟨?_, ?_, ?_⟩ <;> (rintro rfl; revert h; decide)
theorem itoa_dig {i : Int} (h0 : 0 ≤ i) : ∀ c ∈ Lib.itoa i, digB c = true := by
  unfold Lib.itoa
  rw [if_neg (by omega)]
  exact dec_digit _
theorem word_ne {c : UInt8} (h : wordcB c = true) : ¬ c = 34 ∧ ¬ c = 46 ∧ ¬ c = 91 := by
  refine ⟨?_, ?_, ?_⟩ <;> (rintro rfl; revert h; decide)
theorem wordB_all {l : List UInt8} (h : wordB l = true) : ∀ c ∈ l, wordcB c = true := by
  unfold wordB at h
  simp only [Bool.and_eq_true, List.all_eq_true] at h
  exact h.2
theorem step_end {s : Stp} (hs : stepB s = true) {u : List UInt8} (hu : sepU u) : 1 + endP false (stepT s ++ u).tail = (stepT s).length ∧ ∃ c r, stepT s = c :: r ∧ (c = 46 ∨ c = 91) := by
  obtain ⟨i, t⟩ := s
  unfold stepT
  simp only
  by_cases h0 : 0 ≤ i
  · rw [if_pos h0]
    refine ⟨?_, _, _, rfl, .inr rfl⟩
    rw [List.cons_append, List.tail_cons, endP_plain (Lib.itoa i ++ [93]) u, endP_sep hu]
    · simp only [List.length_cons]; omega
    · intro c hc
      rcases List.mem_append.1 hc with h | h
      · exact dig_ne (itoa_dig h0 c h)
      · rw [List.mem_singleton.1 h]; decide
  · rw [if_neg h0]
    by_cases hw : wordB t.data.toList = true
    · rw [if_pos hw]
      refine ⟨?_, _, _, rfl, .inl rfl⟩
      rw [List.cons_append, List.tail_cons, endP_plain _ u fun c hc => word_ne (wordB_all hw c hc), endP_sep hu]
      simp only [List.length_cons]; omega
    · rw [if_neg hw]
      refine ⟨?_, _, _, rfl, .inr rfl⟩
      unfold quoteB
      rw [List.cons_append, List.tail_cons]
      rw [show ((34 :: (t.data.toList.flatMap escB ++ [34])) ++ [93]) ++ u = 34 :: (t.data.toList.flatMap escB ++ 34 :: ([93] ++ u)) by simp]
      rw [endP_cons, if_pos rfl, Bool.not_false, endP_quoted, endP_plain [93] u (by decide), endP_sep hu]
      simp; omega
theorem leaf2_valid {i : Int} (h0 : 0 ≤ i) (h9 : i ≤ 99) : (leaf 2 i ⟨#[]⟩).valid = true := by
  simp [leaf, V.valid, V.fits, V.ok, V.okL, V.sound, V.nodes, V.nodesL, V.depth, V.depthL]
  omega
theorem step_read {s : Stp} (hs : stepB s = true) : readStepP (stepT s) = some s := by
  obtain ⟨i, t⟩ := s
  unfold stepT readStepP
  simp only
  by_cases h0 : 0 ≤ i
  · have h9 := step_index hs h0
    have hi : ¬ i = -1 := by omega
    have ht : t = ⟨#[]⟩ := by
      simp [stepB, hi] at hs
      exact hs.2
    subst ht
    rw [if_pos h0]
    have hp := parse_back (leaf2_valid h0 h9)
    rw [show (leaf 2 i ⟨#[]⟩).write = Lib.itoa i from by simp [leaf, V.write]] at hp
    rw [List.headD_cons, if_neg (by decide), List.tail_cons, if_pos (suf_has _), suf_trim, hp]
    simp [leaf, V.kind, V.int]
  · rw [if_neg h0]
    obtain ⟨rfl, htx⟩ := step_text hs h0
    by_cases hw : wordB t.data.toList = true
    · rw [if_pos hw, List.headD_cons, if_pos rfl, List.tail_cons]
    · rw [if_neg hw, List.headD_cons, if_neg (by decide), List.tail_cons, if_pos (suf_has _), suf_trim]
      have hp := parse_back (x := leaf 3 0 t) (by rw [text_valid3]; exact htx)
      rw [show (leaf 3 0 t).write = quoteB t.data.toList from by simp [leaf, V.write]] at hp
      rw [hp]
      simp [leaf, V.kind, V.text]
theorem sep_flat {p : List Stp} (h : ∀ s ∈ p, stepB s = true) : sepU (p.flatMap stepT) := by
  cases p with
  | nil => exact .inl rfl
  | cons s r =>
    obtain ⟨_, c, q, h1, h2⟩ := step_end (h s (by simp)) (.inl rfl)
    rw [List.flatMap_cons, h1]
    exact .inr ⟨c, _, rfl, h2⟩
/-- Reading undoes writing. -/
theorem path_read : ∀ (p : List Stp) (f : Nat), (∀ s ∈ p, stepB s = true) → p.length < f → readPathP f (p.flatMap stepT) = some p
  | [], 0, _, h => by simp at h
  | [], f + 1, _, _ => by rw [readPathP]; simp
  | s :: r, 0, _, h => by simp at h
  | s :: r, f + 1, h, hf => by
    have hr : ∀ s ∈ r, stepB s = true := fun x hx => h x (by simp [hx])
    obtain ⟨h1, c, q, h2, _⟩ := step_end (h s (by simp)) (sep_flat hr)
    rw [readPathP, List.flatMap_cons, h1, List.take_left, List.drop_left, step_read (h s (by simp)), if_neg (by rw [h2]; simp), path_read r f hr (by simpa using hf)]
    rfl
end Go.Proofs.YthlmnhelmhnpfaaGreatDoor

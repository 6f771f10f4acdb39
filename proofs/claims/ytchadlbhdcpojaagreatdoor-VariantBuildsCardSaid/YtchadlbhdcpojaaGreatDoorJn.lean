/- The text of a path, walked. -/
import Derived.Test.YtchadlbhdcpojaaGreatDoorVa
import Derived.Test.YtchadlbhdcpojaaGreatDoorVl
import Derived.Test.YtchadlbhdcpojaaGreatDoorJb
import Derived.Deep.RegionHeld3
import Derived.Deep.DrawnRows
import Derived.Test.YtchadlbhdcpojaaGreatDoorXc
import Derived.Test.YtchadlbhdcpojaaGreatDoorRk
import Derived.Test.YtchadlbhdcpojaaGreatDoorXd
namespace Go.Proofs.YtchadlbhdcpojaaGreatDoor
open Go.RowKit
/-- The text of a step, of a path. -/
def stepT (s : Stp) : List UInt8 := if 0 ≤ s.1 then 91 :: (Lib.itoa s.1 ++ [93]) else if wordB s.2.data.toList = true then 46 :: s.2.data.toList else 91 :: (quoteB s.2.data.toList ++ [93])
def pathT (p : List Stp) : List UInt8 := 36 :: p.flatMap stepT
theorem ct_c (u : List UInt8) (c : UInt8) : (⟨u.toArray⟩ ++ ⟨#[c]⟩ : ByteArray) = ⟨(u ++ [c]).toArray⟩ := ByteArray.mk_append_mk u [c]
theorem ct_l (u v : List UInt8) : (⟨u.toArray⟩ ++ ⟨v.toArray⟩ : ByteArray) = ⟨(u ++ v).toArray⟩ := ByteArray.mk_append_mk u v
theorem ct_h (c : UInt8) (v : List UInt8) : (⟨#[c]⟩ ++ ⟨v.toArray⟩ : ByteArray) = ⟨(c :: v).toArray⟩ := ByteArray.mk_append_mk [c] v
theorem ct_b (c : UInt8) (t : ByteArray) : (⟨#[c]⟩ ++ t : ByteArray) = ⟨(c :: t.data.toList).toArray⟩ := by
  obtain ⟨⟨l⟩⟩ := t
  exact ByteArray.mk_append_mk [c] l
theorem step_index {i : Int} {t : ByteArray} (h : stepB (i, t) = true) (h0 : 0 ≤ i) : i ≤ 99 := by
  have hi : ¬ i = -1 := by omega
  simp [stepB, hi] at h
  exact h.1.2
theorem step_text {i : Int} {t : ByteArray} (h : stepB (i, t) = true) (h0 : ¬ 0 ≤ i) : i = -1 ∧ textB t.data.toList = true := by
  by_cases hi : i = -1
  · subst hi; exact ⟨rfl, by simpa [stepB] using h⟩
  · simp [stepB, hi] at h; omega
theorem text_size {t : ByteArray} (h : textB t.data.toList = true) : t.size ≤ 100 := by
  unfold textB at h
  rw [Bool.and_eq_true, decide_eq_true_eq] at h
  have : t.data.toList.length = t.size := by simp
  omega
theorem esc2_len (l : List UInt8) : (l.flatMap escB).length ≤ 2 * l.length := by
  induction l with
  | nil => simp
  | cons c r ih => rw [List.flatMap_cons, List.length_append]; have : (escB c).length ≤ 2 := by unfold escB; split <;> simp
                   simp only [List.length_cons]; omega
set_option maxRecDepth 100000 in
set_option maxHeartbeats 4000000 in
theorem stepText_any (s : Stp) (w : World) (hs : stepB s = true) (hsz : s.2.size ≤ maxLen) (hp : Pow w) :
    Calls Tryz.prog 28 #[stepV s] w fun e w' => e = .returned (.string ⟨(stepT s).toArray⟩) ∧ Below w.heap.size w w' := by
  obtain ⟨i, t⟩ := s
  unfold stepV
  simp only at hsz ⊢
  have hb0 := below_al (Below.refl _ w) (.cells #[.int .i64 i, .string t] 34)
  have HB0 := Lib.hid hb0
  have HP := Lib.hid (hp.on hb0)
  by_cases h0 : 0 ≤ i
  · have h9 := step_index hs h0
    have HR := Lib.hid (show stepT (i, t) = 91 :: (Lib.itoa i ++ [93]) by simp [stepT, h0])
    obtain ⟨u, hu⟩ : ∃ u, u = Lib.itoa i := ⟨_, rfl⟩
    have hul : u.length ≤ 21 := by rw [hu]; exact Lib.itoa_length_le i (by omega) (by omega)
    have HI := Lib.hid fun W (hW : Pow W) => show Calls Tryz.prog 43 #[.int .i64 i] W fun e w' => e = .returned (.string ⟨u.toArray⟩) ∧ Below W.heap.size W w' by
      rw [hu]; exact itoa_any i (by omega) (by omega) W hW
    rw [← hu] at HR
    clear hs hu hp hb0
    go_enter Tryz.func28, Tryz.ntmps28
    go_wp2_with fail
    refine (HI.out _ HP.out).mono ?_
    rintro e w1 ⟨rfl, h1⟩
    have HB1 := Lib.hid (below_on HB0.out h1)
    clear h1
    go_wp2_with fail
    go_ret
    exact ⟨by rw [HR.out]; show Ending.returned (.string (⟨#[91]⟩ ++ ⟨u.toArray⟩ ++ ⟨#[93]⟩)) = _; rw [ct_h, ct_c]; rfl, HB1.out⟩
  · obtain ⟨rfl, ht⟩ := step_text hs h0
    have htl := text_size ht
    have HT := Lib.hid ht
    have HSZ := Lib.hid hsz
    clear hs ht h0 hp hsz
    cases hw : wordB t.data.toList
    · have HR := Lib.hid (show stepT (-1, t) = 91 :: (quoteB t.data.toList ++ [93]) by simp [stepT, hw])
      have HW := Lib.hid fun W => show Calls Tryz.prog 44 #[.string t] W fun e w' => e = .returned (.bool false) ∧ w' = W by
        rw [← hw]; exact word_any t W HSZ.out
      obtain ⟨u, hu⟩ : ∃ u, u = quoteB t.data.toList := ⟨_, rfl⟩
      have hul : u.length ≤ 202 := by
        rw [hu]
        have := esc2_len t.data.toList
        have h2 : t.data.toList.length = t.size := by simp
        simp only [quoteB, List.length_cons, List.length_append, List.length_nil]
        omega
      have HX := Lib.hid fun W (hW : Pow W) => show Calls Tryz.prog 45 #[aggOf (leaf 3 0 t) none 0 none 0] W fun e w' => e = .returned (.tuple #[.string ⟨u.toArray⟩, .int .i64 0]) ∧ Below W.heap.size W w' by
        have := text_valid (leaf 3 0 t) W none none 0 0 (leaf_lies W _ 3 0 HSZ.out) hW (by rw [text_valid3]; exact HT.out)
        rwa [show (leaf 3 0 t).write = u by rw [hu]; simp [leaf, V.write]] at this
      rw [← hu] at HR
      clear hu hw hb0
      go_enter Tryz.func28, Tryz.ntmps28
      go_wp2_with fail
      refine (HW.out _).mono ?_
      rintro e w1 ⟨rfl, rfl⟩
      go_wp2_with fail
      refine (text_agg t _).mono ?_
      rintro e w2 ⟨rfl, h2⟩
      have HP2 := Lib.hid (HP.out.on h2)
      have HB2 := Lib.hid (below_on HB0.out h2)
      clear h2
      go_wp2_with fail
      refine (HX.out _ HP2.out).mono ?_
      rintro e w3 ⟨rfl, h3⟩
      have HB3 := Lib.hid (below_on HB2.out h3)
      clear h3
      go_wp2_with fail
      go_ret
      exact ⟨by rw [HR.out]; show Ending.returned (.string (⟨#[91]⟩ ++ ⟨u.toArray⟩ ++ ⟨#[93]⟩)) = _; rw [ct_h, ct_c]; rfl, HB3.out⟩
    · have HR := Lib.hid (show stepT (-1, t) = 46 :: t.data.toList by simp [stepT, hw])
      have HW := Lib.hid fun W => show Calls Tryz.prog 44 #[.string t] W fun e w' => e = .returned (.bool true) ∧ w' = W by
        rw [← hw]; exact word_any t W HSZ.out
      clear hw hb0
      go_enter Tryz.func28, Tryz.ntmps28
      go_wp2_with fail
      refine (HW.out _).mono ?_
      rintro e w1 ⟨rfl, rfl⟩
      go_wp2_with fail
      go_ret
      exact ⟨by rw [HR.out]; show Ending.returned (.string (⟨#[46]⟩ ++ t)) = _; rw [ct_b], HB0.out⟩
theorem stepT_len {s : Stp} (hs : stepB s = true) : (stepT s).length ≤ 210 := by
  obtain ⟨i, t⟩ := s
  unfold stepT
  by_cases h0 : 0 ≤ i
  · have h9 := step_index hs h0
    have := Lib.itoa_length_le i (by omega) (by omega)
    simp [h0]; omega
  · obtain ⟨rfl, ht⟩ := step_text hs h0
    have htl := text_size ht
    have h2 : t.data.toList.length = t.size := by simp
    have := esc2_len t.data.toList
    simp only [h0, if_false]
    split
    · simp only [List.length_cons]; omega
    · simp only [quoteB, List.length_cons, List.length_append, List.length_nil]; omega
theorem pathT_step {p : List Stp} {j : Nat} {s : Stp} {u : List UInt8} (h : p[j]? = some s) (hu : u = 36 :: (p.take j).flatMap stepT) : u ++ stepT s = 36 :: (p.take (j + 1)).flatMap stepT := by
  subst hu
  rw [List.take_add_one, h]
  simp
theorem path_valid {p : List Stp} (h : pathB p = true) : p.length ≤ 6 ∧ ∀ s ∈ p, stepB s = true := by
  unfold pathB at h
  rw [Bool.and_eq_true, decide_eq_true_eq, List.all_eq_true] at h
  exact h
set_option maxRecDepth 100000 in
set_option maxHeartbeats 4000000 in
theorem pathText_any (p : List Stp) (w : World) (A : Option Addr) (c : Nat) (hv : pathB p = true) (h : PLies w w.heap.size A c p) (hp : Pow w) :
    Calls Tryz.prog 14 #[.slice A p.length c] w fun e w' => e = .returned (.tuple #[.string ⟨(pathT p).toArray⟩, .int .i64 0]) ∧ Below w.heap.size w w' := by
  obtain ⟨n, hn⟩ : ∃ n, n = p.length := ⟨_, rfl⟩
  have HN := Lib.hid hn
  obtain ⟨hp6, hst⟩ := path_valid hv
  have hn6 : n ≤ 6 := by omega
  have HST := Lib.hid hst
  have HPL := Lib.hid fun W (hW : Below w.heap.size w W) => h.on hW
  have HP := Lib.hid fun W (hW : Below w.heap.size w W) => hp.on hW
  have HV := Lib.hid (show Calls Tryz.prog 16 #[.slice A n c] w fun e w' => e = .returned (.bool true) ∧ Below w.heap.size w w' by
    rw [hn, ← hv]; exact pathValid_any p w A c h)
  rw [← hn]
  clear h hn hv hp hp6 hst
  go_enter Tryz.func14, Tryz.ntmps14
  go_wp2_with fail
  refine (HV.out).mono ?_
  rintro e w1 ⟨rfl, h1⟩
  have HB1 := Lib.hid h1
  clear h1
  go_wp2_with fail
  go_loopw [4, 12] (fun sv iv wr => ∃ (j : Nat) (u : List UInt8), sv = .string ⟨u.toArray⟩ ∧ iv = .int .i64 j ∧ j ≤ n ∧ u.length ≤ 1 + 210 * j ∧ Hid (Below w.heap.size w wr ∧ u = 36 :: (p.take j).flatMap stepT)) (fun _ iv _ => n - (intOf iv).toNat)
  case atStart => exact ⟨0, [36], rfl, rfl, Nat.zero_le _, by simp, Lib.hid ⟨HB1.out, by simp⟩⟩
  case round =>
    obtain ⟨j, u, rfl, rfl, hj, hul, hI⟩ := hrel
    by_cases hlt : j < n
    · obtain ⟨s, hs⟩ : ∃ s, p[j]? = some s := ⟨_, List.getElem?_eq_getElem (by rw [← HN.out]; exact hlt)⟩
      obtain ⟨b, o, rfl, hbB, e0, e1, hsz⟩ := (HPL.out _ hI.out.1).at_ hs
      have hsv := HST.out s (List.mem_of_getElem? hs)
      have HX := Lib.hid (pathT_step hs hI.out.2)
      have hsl := stepT_len hsv
      have hjn : (j : Int) < n := by omega
      obtain ⟨v, hv⟩ : ∃ v, v = stepT s := ⟨_, rfl⟩
      have HC := Lib.hid fun W (hW : Below w.heap.size w W) => show Calls Tryz.prog 28 #[.agg #[.int .i64 s.1, .string s.2]] W fun e w' => e = .returned (.string ⟨v.toArray⟩) ∧ Below W.heap.size W w' by
        rw [hv]; exact stepText_any s W hsv hsz (HP.out W hW)
      rw [← hv] at HX hsl
      clear hs hsv hv
      go_wp2_with fail
      refine (HC.out _ (below_al hI.out.1 _)).mono ?_
      rintro e w2 ⟨rfl, h2⟩
      have HB2 := Lib.hid (below_on (below_al hI.out.1 (.cells #[.int .i64 s.1, .string s.2] 34)) h2)
      clear h2 e0 e1 hsz
      go_wp2_with fail
      go_roundw
      case rel => exact ⟨j + 1, u ++ v, by rw [ct_l], by go_num, by omega, by rw [List.length_append]; omega, Lib.hid ⟨HB2.out, HX.out⟩⟩
      case measure => simp [intOf]; omega
    · have hjn : ¬ ((j : Int) < n) := by omega
      have HT := Lib.hid (show u = pathT p by
        have := hI.out.2
        rw [List.take_of_length_le (by have := HN.out; omega)] at this
        exact this)
      go_wp2_with fail
      go_ret2
      exact ⟨by rw [← HT.out]; rfl, hI.out.1⟩
open Go.RowKit
theorem append_none (ty : TypeId) (W : World) : (Builtin.append_ #[25, 25] ty #[.slice none 0 0, .slice none 0 0]).run Tryz.prog W = .ok (.slice none 0 0) W := by
  obtain ⟨i0, hi, hz0, hz1, hz2⟩ := info_parts (P := Tryz.prog) (e := 9) (z := (.string ⟨#[]⟩)) (size := 1) (bytes := 16) (by kernel_rfl)
  exact run_append_nothing (P := Tryz.prog) W 25 25 ty 9 i0 Tryz.underlying25 hi none 0 0 (Nat.le_refl _) _ (Src.ofNil W Tryz.underlying25 0)
/-- Where the copying of a value without items stands. -/
structure CL (w : World) (k i : Int) (t : ByteArray) (W : World) : Prop where
  old : Below w.heap.size w W
  bv : BlockIs W w.heap.size 27 #[.int .i64 k, .int .i64 i, .string t, .slice none 0 0, .slice none 0 0]
  br : BlockIs W (w.heap.size + 1) 27 zeroF
theorem CL.start (w : World) (k i : Int) (t : ByteArray) : CL w k i t ((w.alloc (.cells #[.int .i64 k, .int .i64 i, .string t, .slice none 0 0, .slice none 0 0] 27)).alloc (.cells zeroF 27)) :=
  ⟨below_al (below_al (Below.refl _ w) _) _, (BlockIs.new w _ _).alloc _, BlockIs.newAt _ _ _ (by simp)⟩
theorem CL.ends {w W : World} {k i : Int} {t : ByteArray} {u0 u1 u2 u3 u4 : Value} (h : CL w k i t W) : Below w.heap.size w (put5 W (w.heap.size + 1) 0 u0 u1 u2 u3 u4) :=
  ((((h.old.setCell (by simp) _).setCell (by simp) _).setCell (by simp) _).setCell (by simp) _).setCell (by simp) _
set_option maxRecDepth 100000 in
set_option maxHeartbeats 4000000 in
/-- A value without items, copied. -/
theorem copied_leaf (k i : Int) (t : ByteArray) (w : World) :
    Calls Tryz.prog 19 #[.agg #[.int .i64 k, .int .i64 i, .string t, .slice none 0 0, .slice none 0 0]] w fun e w' => e = .returned (.agg #[.int .i64 k, .int .i64 i, .string t, .slice none 0 0, .slice none 0 0]) ∧ Below w.heap.size w w' := by
  have HRUN := Lib.hid (fun W => append_none 25 W)
  have HC := Lib.hid (CL.start w k i t)
  go_enter Tryz.func19, Tryz.ntmps19
  go_wp2_with (at_builtin; refine Lib.wpList_append_run _ rfl _ _ _ _ rfl _ _ rfl rfl _ _ (HRUN.out _) ?_)
  go_loopw [15] (fun iv wr => iv = .int .i64 0 ∧ Hid (CL w k i t wr)) (fun iv _ => 0)
  case atStart => exact ⟨rfl, HC⟩
  case round =>
    obtain ⟨rfl, hI⟩ := hrel
    obtain ⟨b0, b1, b2, b3, b4⟩ := five_of hI.out.bv
    obtain ⟨z0, z1, z2, z3, z4⟩ := five_of (show BlockIs wr (w.heap.size + 1) 27 #[.int .i64 0, .int .i64 0, .string ⟨#[]⟩, .slice none 0 0, .slice none 0 0] from hI.out.br)
    have x0 := hI.out.br.frozen 0
    have x1 := hI.out.br.frozen 1
    have x2 := hI.out.br.frozen 2
    have x3 := hI.out.br.frozen 3
    have x4 := hI.out.br.frozen 4
    have zl := hI.out.br.lt
    go_wp2_with fail
    refine bodyPost_ret (v := .agg #[.int .i64 k, .int .i64 i, .string t, .slice none 0 0, .slice none 0 0]) (by simp [results, Tryz.results19, go_sem, z0, z1, z2, z3, z4]) rfl ?_
    exact ⟨rfl, hI.out.ends⟩
/-- The boxes of Put: its value, what is put, what is answered. -/
structure PB (w : World) (c0 c1 : Array Value) (W : World) : Prop where
  old : Below w.heap.size w W
  bv : BlockIs W w.heap.size 27 c0
  bx : BlockIs W (w.heap.size + 1) 27 c1
  br : BlockIs W (w.heap.size + 2) 27 zeroF
section
variable {w W W' : World} {c0 c1 : Array Value} {g : Nat} {u0 u1 u2 u3 u4 : Value}
theorem PB.start (w : World) (c0 c1 : Array Value) : PB w c0 c1 (((w.alloc (.cells c0 27)).alloc (.cells c1 27)).alloc (.cells zeroF 27)) :=
  ⟨below_al (below_al (below_al (Below.refl _ w) _) _) _, ((BlockIs.new w _ _).alloc _).alloc _, (BlockIs.newAt _ _ _ (by simp)).alloc _, BlockIs.newAt _ _ _ (by simp)⟩
theorem PB.below (h : PB w c0 c1 W) (hb : Below W.heap.size W W') : PB w c0 c1 W' :=
  ⟨below_on h.old hb, h.bv.below hb h.bv.lt, h.bx.below hb h.bx.lt, h.br.below hb h.br.lt⟩
theorem PB.al (h : PB w c0 c1 W) (o : Obj) : PB w c0 c1 (W.alloc o) := h.below (below_al (Below.refl _ W) o)
theorem PB.grown (h : PB w c0 c1 W) (hw : W.grownBy W' (some g)) (hg : w.heap.size + 3 ≤ g) : PB w c0 c1 W' :=
  ⟨h.old.grown hw h.old.size (fun j hj => by cases hj; omega), h.bv.grown hw (by simp; omega), h.bx.grown hw (by simp; omega), h.br.grown hw (by simp; omega)⟩
theorem PB.ends (h : PB w c0 c1 W) : Below w.heap.size w (put5 W (w.heap.size + 2) 0 u0 u1 u2 u3 u4) :=
  ((((h.old.setCell (by simp) _).setCell (by simp) _).setCell (by simp) _).setCell (by simp) _).setCell (by simp) _
theorem PB.fresh (h : PB w c0 c1 W) : w.heap.size + 3 ≤ W.heap.size := by have := h.br.lt; omega
end
theorem PLies.low_on {w W : World} {A : Option Addr} {c : Nat} {p : List Stp} (h : PLies w w.heap.size A c p) (hb : Below w.heap.size w W) : PLies W w.heap.size A c p := h.low fun b hlt => hb.block b hlt
/-- What Put leaves where it can't. -/
def PutErr (r : Int) (w : World) (e : Ending) (w' : World) : Prop := e = .returned (.tuple #[aggOf (leaf 0 0 ⟨#[]⟩) none 0 none 0, .int .i64 r]) ∧ Below w.heap.size w w'
theorem PutErr.mk {w W : World} {c0 c1 : Array Value} {u0 u1 u2 u3 u4 : Value} (r : Int) (h : PB w c0 c1 W) : PutErr r w (.returned (.tuple #[aggOf (leaf 0 0 ⟨#[]⟩) none 0 none 0, .int .i64 r])) (put5 W (w.heap.size + 2) 0 u0 u1 u2 u3 u4) := ⟨rfl, h.ends⟩
set_option maxRecDepth 100000 in
set_option maxHeartbeats 8000000 in
theorem put_err (r : Int) (hr : ¬ r = 0) (k0 i0 k1 i1 : Int) (t0 t1 : ByteArray) (p : List Stp) (w : World) (Ap : Option Addr) (cp : Nat) (ht0 : t0.size ≤ maxLen) (ht1 : t1.size ≤ maxLen)
    (hv : (leaf k0 i0 t0).valid = true) (hx : (leaf k1 i1 t1).valid = true) (hpb : pathB p = true) (hp : PLies w w.heap.size Ap cp p)
    (hput : ∀ (W : World) (g : Nat), Five W g (.int .i64 k0) (.int .i64 i0) (.string t0) (.slice none 0 0) (.slice none 0 0) → PLies W w.heap.size Ap cp p → w.heap.size ≤ W.heap.size →
      Calls Tryz.prog 18 #[.pointer (some ⟨g, 0, none⟩), .slice Ap p.length cp, .agg #[.int .i64 k1, .int .i64 i1, .string t1, .slice none 0 0, .slice none 0 0]] W fun e w' => e = .returned (.int .i64 r) ∧ Below W.heap.size W w') :
    Calls Tryz.prog 9 #[.agg #[.int .i64 k0, .int .i64 i0, .string t0, .slice none 0 0, .slice none 0 0], .slice Ap p.length cp, .agg #[.int .i64 k1, .int .i64 i1, .string t1, .slice none 0 0, .slice none 0 0]] w (PutErr r w) := by
  have hr' : (r == 0) = false := by simpa using hr
  have hr2 : (r != 0) = true := by simpa using hr
  have HB0 := Lib.hid (PB.start w #[.int .i64 k0, .int .i64 i0, .string t0, .slice none 0 0, .slice none 0 0] #[.int .i64 k1, .int .i64 i1, .string t1, .slice none 0 0, .slice none 0 0])
  obtain ⟨n, hn⟩ : ∃ n, n = p.length := ⟨_, rfl⟩
  have HPV := Lib.hid fun W (hW : Below w.heap.size w W) => show Calls Tryz.prog 16 #[.slice Ap n cp] W fun e w' => e = .returned (.bool true) ∧ Below W.heap.size W w' from by
    have := pathValid_any p W Ap cp (hp.on hW)
    rw [hpb, ← hn] at this
    exact this
  have HV := Lib.hid fun W => valid_yes (leaf k0 i0 t0) W none none 0 0 (leaf_lies W _ k0 i0 ht0) hv
  have HX := Lib.hid fun W => valid_yes (leaf k1 i1 t1) W none none 0 0 (leaf_lies W _ k1 i1 ht1) hx
  have HPUT := Lib.hid fun W g (hF : Five W g (.int .i64 k0) (.int .i64 i0) (.string t0) (.slice none 0 0) (.slice none 0 0)) (hW : Below w.heap.size w W) => hput W g hF (hp.low_on hW) hW.size
  rw [← hn] at HPUT
  rw [← hn]
  clear hn hp hput hv hx hr hpb
  go_enter Tryz.func9, Tryz.ntmps9
  go_wp2_with fail
  refine (HV.out _).mono ?_
  rintro e w1 ⟨rfl, h1⟩
  have HB1 := Lib.hid (HB0.out.below h1)
  clear h1
  obtain ⟨b0, b1, b2, b3, b4⟩ := five_of HB1.out.bv
  obtain ⟨x0, x1, x2, x3, x4⟩ := five_of HB1.out.bx
  go_wp2_with fail
  refine (HPV.out _ HB1.out.old).mono ?_
  rintro e w2 ⟨rfl, h2⟩
  have HB2 := Lib.hid (HB1.out.below h2)
  clear h2 b0 b1 b2 b3 b4 x0 x1 x2 x3 x4
  obtain ⟨b0, b1, b2, b3, b4⟩ := five_of HB2.out.bv
  obtain ⟨x0, x1, x2, x3, x4⟩ := five_of HB2.out.bx
  go_wp2_with fail
  refine (HX.out _).mono ?_
  rintro e w3 ⟨rfl, h3⟩
  have HB3 := Lib.hid (HB2.out.below h3)
  clear h3 b0 b1 b2 b3 b4 x0 x1 x2 x3 x4
  obtain ⟨b0, b1, b2, b3, b4⟩ := five_of HB3.out.bv
  go_wp2_with fail
  refine (copied_leaf k0 i0 t0 _).mono ?_
  rintro e w4 ⟨rfl, h4⟩
  have HB4 := Lib.hid (HB3.out.below h4)
  clear h4 b0 b1 b2 b3 b4
  have HM := Lib.hid (BlockIs.new w4 27 #[.int .i64 k0, .int .i64 i0, .string t0, .slice none 0 0, .slice none 0 0])
  have HB5 := Lib.hid (HB4.out.al (.cells #[.int .i64 k0, .int .i64 i0, .string t0, .slice none 0 0, .slice none 0 0] 27))
  obtain ⟨x0, x1, x2, x3, x4⟩ := five_of HB4.out.bx
  have xl := HB4.out.bx.lt
  go_wp2_with fail
  refine (copied_leaf k1 i1 t1 _).mono ?_
  rintro e w6 ⟨rfl, h6⟩
  have HB6 := Lib.hid (HB5.out.below h6)
  have HF6 := Lib.hid (Five.of (HM.out.below h6 HM.out.lt) rfl)
  clear h6 x0 x1 x2 x3 x4 xl
  go_wp2_with fail
  refine (HPUT.out _ _ HF6.out HB6.out.old).mono ?_
  rintro e w7 ⟨rfl, h7⟩
  have HB7 := Lib.hid (HB6.out.below h7)
  clear h7
  obtain ⟨z0, z1, z2, z3, z4⟩ := five_of (show BlockIs w7 (w.heap.size + 2) 27 #[.int .i64 0, .int .i64 0, .string ⟨#[]⟩, .slice none 0 0, .slice none 0 0] from HB7.out.br)
  have y0 := HB7.out.br.frozen 0
  have y1 := HB7.out.br.frozen 1
  have y2 := HB7.out.br.frozen 2
  have y3 := HB7.out.br.frozen 3
  have y4 := HB7.out.br.frozen 4
  have zl := HB7.out.br.lt
  go_wp2_with fail
  refine bodyPost_ret (v := .tuple #[aggOf (leaf 0 0 ⟨#[]⟩) none 0 none 0, .int .i64 r]) (by simp [results, Tryz.results9, go_sem, aggOf, leaf, V.kind, V.int, V.text, V.items, V.keys, z0, z1, z2, z3, z4]) rfl ?_
  exact PutErr.mk r HB7.out
set_option maxRecDepth 100000 in
set_option maxHeartbeats 8000000 in
/-- A key in what is no object. -/
theorem put_type (n : Int) (k : ByteArray) (k1 i1 : Int) (t1 : ByteArray) (N : Nat) (W : World) (g : Nat) (A : Option Addr) (cp : Nat) (hN : N ≤ W.heap.size) (h : Five W g (.int .i64 2) (.int .i64 n) (.string ⟨#[]⟩) (.slice none 0 0) (.slice none 0 0)) (hp : PLies W N A cp [(-1, k)]) :
    Calls Tryz.prog 18 #[.pointer (some ⟨g, 0, none⟩), .slice A 1 cp, .agg #[.int .i64 k1, .int .i64 i1, .string t1, .slice none 0 0, .slice none 0 0]] W fun e w' => e = .returned (.int .i64 8) ∧ Below W.heap.size W w' := by
  obtain ⟨b, o, rfl, hb, e0, e1, hks⟩ := hp.at_ (k := 0) rfl
  have HB1 := Lib.hid (below_al (Below.refl _ W) (.cells #[.int .i64 k1, .int .i64 i1, .string t1, .slice none 0 0, .slice none 0 0] 27))
  have HF1 := Lib.hid (h.below HB1.out)
  simp only [Nat.zero_mul, Nat.add_zero] at e0 e1
  have hbW : b < W.heap.size := by omega
  clear hks h hp
  go_enter Tryz.func18, Tryz.ntmps18
  go_wp2_with fail
  refine (holder_key k _).mono ?_
  rintro e w2 ⟨rfl, h2⟩
  have HB2 := Lib.hid (below_on HB1.out h2)
  obtain ⟨c0, c1, c2, c3, c4, f0, f1, f2, f3, f4, gl⟩ := HF1.out.below h2
  clear h2 e0 e1
  go_wp2_with fail
  go_ret
  exact ⟨rfl, HB2.out⟩
set_option maxRecDepth 100000 in
set_option maxHeartbeats 8000000 in
/-- An index beyond the end. -/
theorem put_arg (k1 i1 : Int) (t1 : ByteArray) (N : Nat) (W : World) (g : Nat) (A : Option Addr) (cp : Nat) (hN : N ≤ W.heap.size) (h : Five W g (.int .i64 4) (.int .i64 0) (.string ⟨#[]⟩) (.slice none 0 0) (.slice none 0 0)) (hp : PLies W N A cp [(1, ⟨#[]⟩)]) :
    Calls Tryz.prog 18 #[.pointer (some ⟨g, 0, none⟩), .slice A 1 cp, .agg #[.int .i64 k1, .int .i64 i1, .string t1, .slice none 0 0, .slice none 0 0]] W fun e w' => e = .returned (.int .i64 3) ∧ Below W.heap.size W w' := by
  obtain ⟨b, o, rfl, hb, e0, e1, hks⟩ := hp.at_ (k := 0) rfl
  have HB1 := Lib.hid (below_al (Below.refl _ W) (.cells #[.int .i64 k1, .int .i64 i1, .string t1, .slice none 0 0, .slice none 0 0] 27))
  have HF1 := Lib.hid (h.below HB1.out)
  simp only [Nat.zero_mul, Nat.add_zero] at e0 e1
  have hbW : b < W.heap.size := by omega
  have HE := Lib.hid (And.intro ((bcell HB1.out b o hbW).trans e0) ((bcell HB1.out b (o + 1) hbW).trans e1))
  clear hks h hp
  go_enter Tryz.func18, Tryz.ntmps18
  go_wp2_with fail
  refine (holder_index 1 (by decide) ⟨#[]⟩ _).mono ?_
  rintro e w2 ⟨rfl, h2⟩
  have HB2 := Lib.hid (below_on HB1.out h2)
  have g0 := (bcell h2 b o (by simp; omega)).trans HE.out.1
  obtain ⟨c0, c1, c2, c3, c4, f0, f1, f2, f3, f4, gl⟩ := HF1.out.below h2
  clear h2 e0 e1
  go_wp2_with fail
  go_quiet (fail)
  go_wp2_with fail
  go_ret
  exact ⟨rfl, below_drewN HB2.out _⟩
/-- What Put leaves where it lays a value. -/
def PutPost (y : V) (w : World) (e : Ending) (w' : World) : Prop := ∃ A c K d, e = .returned (.tuple #[aggOf y A c K d, .int .i64 0]) ∧ Lies w' w'.heap.size y A c K d ∧ Below w.heap.size w w'
theorem PutPost.mk {y : V} {w W W1 : World} {c0 c1 : Array Value} {A K : Option Addr} {c d : Nat} {u0 u1 u2 u3 u4 : Value} (h : PB w c0 c1 W) (hl : LiesIn (Fresh W1 W) W y A c K d) (hs : w.heap.size + 2 < W1.heap.size) :
    PutPost y w (.returned (.tuple #[aggOf y A c K d, .int .i64 0])) (put5 W (w.heap.size + 2) 0 u0 u1 u2 u3 u4) := ⟨A, c, K, d, rfl, liesPutNew hl hs, h.ends⟩
set_option maxRecDepth 100000 in
set_option maxHeartbeats 16000000 in
/-- Put at a path of keys, into null. -/
theorem put_ok (k1 i1 : Int) (t1 : ByteArray) (ks : List ByteArray) (y : V) (hy : y = nestV ks (leaf k1 i1 t1)) (w : World) (Ap : Option Addr) (cp : Nat) (ht1 : t1.size ≤ maxLen)
    (hx : (leaf k1 i1 t1).valid = true) (hpb : pathB (keysP ks) = true) (hyv : y.valid = true) (hp : PLies w w.heap.size Ap cp (keysP ks)) :
    Calls Tryz.prog 9 #[.agg #[.int .i64 0, .int .i64 0, .string ⟨#[]⟩, .slice none 0 0, .slice none 0 0], .slice Ap ks.length cp, .agg #[.int .i64 k1, .int .i64 i1, .string t1, .slice none 0 0, .slice none 0 0]] w (PutPost y w) := by
  have HB0 := Lib.hid (PB.start w #[.int .i64 0, .int .i64 0, .string ⟨#[]⟩, .slice none 0 0, .slice none 0 0] #[.int .i64 k1, .int .i64 i1, .string t1, .slice none 0 0, .slice none 0 0])
  obtain ⟨n, hn⟩ : ∃ n, n = ks.length := ⟨_, rfl⟩
  have hn' : n = (keysP ks).length := by rw [hn]; simp [keysP]
  have HPV := Lib.hid fun W (hW : Below w.heap.size w W) => show Calls Tryz.prog 16 #[.slice Ap n cp] W fun e w' => e = .returned (.bool true) ∧ Below W.heap.size W w' from by
    have := pathValid_any (keysP ks) W Ap cp (hp.on hW)
    rw [hpb, ← hn'] at this
    exact this
  have HV := Lib.hid fun W => valid_yes (leaf 0 0 ⟨#[]⟩) W none none 0 0 (leaf_lies W _ 0 0 (by decide)) (show (leaf 0 0 ⟨#[]⟩).valid = true by decide +kernel)
  have HX := Lib.hid fun W => valid_yes (leaf k1 i1 t1) W none none 0 0 (leaf_lies W _ k1 i1 ht1) hx
  have HPUT := Lib.hid fun W g (hF : Five W g (.int .i64 0) (.int .i64 0) (.string ⟨#[]⟩) (.slice none 0 0) (.slice none 0 0)) (hW : Below w.heap.size w W) (hg : w.heap.size ≤ g) => put_nest k1 i1 t1 ht1 w.heap.size ks W g Ap cp hg hF (hp.low_on hW)
  rw [← hn, ← hy] at HPUT
  rw [← hn]
  have HY := Lib.hid fun W A c K d (hl : Lies W W.heap.size y A c K d) => valid_yes y W A K c d hl hyv
  clear hn hn' hp hx hpb hyv hy
  go_enter Tryz.func9, Tryz.ntmps9
  go_wp2_with fail
  refine (HV.out _).mono ?_
  rintro e w1 ⟨rfl, h1⟩
  have HB1 := Lib.hid (HB0.out.below h1)
  clear h1
  obtain ⟨b0, b1, b2, b3, b4⟩ := five_of HB1.out.bv
  obtain ⟨x0, x1, x2, x3, x4⟩ := five_of HB1.out.bx
  go_wp2_with fail
  refine (HPV.out _ HB1.out.old).mono ?_
  rintro e w2 ⟨rfl, h2⟩
  have HB2 := Lib.hid (HB1.out.below h2)
  clear h2 b0 b1 b2 b3 b4 x0 x1 x2 x3 x4
  obtain ⟨b0, b1, b2, b3, b4⟩ := five_of HB2.out.bv
  obtain ⟨x0, x1, x2, x3, x4⟩ := five_of HB2.out.bx
  go_wp2_with fail
  refine (HX.out _).mono ?_
  rintro e w3 ⟨rfl, h3⟩
  have HB3 := Lib.hid (HB2.out.below h3)
  clear h3 b0 b1 b2 b3 b4 x0 x1 x2 x3 x4
  obtain ⟨b0, b1, b2, b3, b4⟩ := five_of HB3.out.bv
  go_wp2_with fail
  refine (copied_leaf 0 0 ⟨#[]⟩ _).mono ?_
  rintro e w4 ⟨rfl, h4⟩
  have HB4 := Lib.hid (HB3.out.below h4)
  clear h4 b0 b1 b2 b3 b4
  have HM := Lib.hid (BlockIs.new w4 27 #[.int .i64 0, .int .i64 0, .string ⟨#[]⟩, .slice none 0 0, .slice none 0 0])
  have HB5 := Lib.hid (HB4.out.al (.cells #[.int .i64 0, .int .i64 0, .string ⟨#[]⟩, .slice none 0 0, .slice none 0 0] 27))
  obtain ⟨x0, x1, x2, x3, x4⟩ := five_of HB4.out.bx
  have xl := HB4.out.bx.lt
  go_wp2_with fail
  refine (copied_leaf k1 i1 t1 _).mono ?_
  rintro e w6 ⟨rfl, h6⟩
  have HB6 := Lib.hid (HB5.out.below h6)
  have HF6 := Lib.hid (Five.of (HM.out.below h6 HM.out.lt) rfl)
  have HG6 := Lib.hid (show w.heap.size + 3 ≤ w4.heap.size from HB4.out.fresh)
  clear h6 x0 x1 x2 x3 x4 xl
  go_wp2_with fail
  refine (HPUT.out _ _ HF6.out HB6.out.old (by have := HG6.out; omega)).mono ?_
  rintro e w7 ⟨rfl, h7, A7, c7, K7, d7, hf7, hl7⟩
  have HB7 := Lib.hid (HB6.out.grown h7 HG6.out)
  have HL7 := Lib.hid hl7
  have HF7 := Lib.hid hf7
  have HZ7 := Lib.hid (show w.heap.size + 2 < w6.heap.size from HB6.out.fresh)
  obtain ⟨m0, m1, m2, m3, m4, -, -, -, -, -, ml⟩ := hf7
  clear h7 hl7
  go_wp2_with fail
  refine (HY.out _ A7 c7 K7 d7 (LiesIn.lies (fun b h => h.2) y HL7.out)).mono ?_
  rintro e w8 ⟨rfl, h8⟩
  have HB8 := Lib.hid (HB7.out.below h8)
  have HL8 := Lib.hid (show LiesIn (Fresh w6 w8) w8 y A7 c7 K7 d7 from LiesIn.keep (fun b o hb => bcell h8 b o hb.2) (fun b hb => ⟨hb.1, by have := h8.size; have := hb.2; omega⟩) y HL7.out)
  have hf8 := HF7.out.below h8
  clear h8 m0 m1 m2 m3 m4 ml
  obtain ⟨m0, m1, m2, m3, m4, -, -, -, -, -, ml⟩ := hf8
  obtain ⟨z0, z1, z2, z3, z4⟩ := five_of (show BlockIs w8 (w.heap.size + 2) 27 #[.int .i64 0, .int .i64 0, .string ⟨#[]⟩, .slice none 0 0, .slice none 0 0] from HB8.out.br)
  have y0 := HB8.out.br.frozen 0
  have y1 := HB8.out.br.frozen 1
  have y2 := HB8.out.br.frozen 2
  have y3 := HB8.out.br.frozen 3
  have y4 := HB8.out.br.frozen 4
  have zl := HB8.out.br.lt
  go_wp2_with fail
  refine bodyPost_ret (v := .tuple #[aggOf y A7 c7 K7 d7, .int .i64 0]) (by simp [results, Tryz.results9, go_sem, aggOf, z0, z1, z2, z3, z4]) rfl ?_
  exact PutPost.mk HB8.out HL8.out HZ7.out
open Go.RowKit
set_option maxHeartbeats 1000000 in
theorem key_any (k : ByteArray) (w : World) : Calls Tryz.prog 8 #[.string k] w fun e w' => e = .returned (.agg #[.int .i64 (-1), .string k]) ∧ Below w.heap.size w w' := by
  go_enter Tryz.func8, Tryz.ntmps8
  go_wp2_with fail
  exact bodyPost_ret (v := .agg #[.int .i64 (-1), .string k]) (by simp [results, Tryz.results8, go_sem]) rfl ⟨rfl, (Below.refl _ _).alloc (Nat.le_refl _) _⟩
/-- A block stays what it is. -/
theorem bi_on {w w' : World} {b : Nat} {t : TypeId} {cs : Array Value} (h : BlockIs w b t cs) (hb : Below w.heap.size w w') : BlockIs w' b t cs := h.below hb h.lt
theorem bi_al {w : World} {b : Nat} {t : TypeId} {cs : Array Value} (h : BlockIs w b t cs) (o : Obj) : BlockIs (w.alloc o) b t cs := h.alloc o
theorem bi_drew {w : World} {b : Nat} {t : TypeId} {cs : Array Value} (h : BlockIs w b t cs) : BlockIs w.drew b t cs := bi_on h (Below.refl _ _).drew
theorem plies1 {w : World} {b : Nat} {t : TypeId} {i : Int} {k : ByteArray} (h : BlockIs w b t #[.int .i64 i, .string k]) (hk : k.size ≤ maxLen) : PLies w w.heap.size (some ⟨b, 0, none⟩) 1 [(i, k)] :=
  ⟨Nat.le_refl _, by simp [maxLen], .inr ⟨b, 0, rfl, h.lt, h.cell 0, h.cell 1, hk, trivial⟩⟩
theorem plies2 {w : World} {b : Nat} {t : TypeId} {i j : Int} {k l : ByteArray} (h : BlockIs w b t #[.int .i64 i, .string k, .int .i64 j, .string l]) (hk : k.size ≤ maxLen) (hl : l.size ≤ maxLen) : PLies w w.heap.size (some ⟨b, 0, none⟩) 2 [(i, k), (j, l)] :=
  ⟨Nat.le_refl _, by simp [maxLen], .inr ⟨b, 0, rfl, h.lt, h.cell 0, h.cell 1, hk, h.cell 2, h.cell 3, hl, trivial⟩⟩
/-- The value of the example. -/
def exN : V := .mk 5 0 ⟨#[]⟩ [.mk 5 0 ⟨#[]⟩ [leaf 2 1 ⟨#[]⟩] [⟨#[121]⟩]] [⟨#[120]⟩]
def pN : List Stp := [(-1, ⟨#[120]⟩), (-1, ⟨#[121]⟩)]
theorem exN_get : getV exN pN = (leaf 2 1 ⟨#[]⟩, true, 0) := by kernel_rfl
theorem exN_get0 : getV exN [(0, ⟨#[]⟩)] = (leaf 0 0 ⟨#[]⟩, false, 0) := by kernel_rfl
theorem exN_put (W : World) (A : Option Addr) (h : PLies W W.heap.size A 2 pN) :
    Calls Tryz.prog 9 #[.agg #[.int .i64 0, .int .i64 0, .string ⟨#[]⟩, .slice none 0 0, .slice none 0 0], .slice A 2 2, .agg #[.int .i64 2, .int .i64 1, .string ⟨#[]⟩, .slice none 0 0, .slice none 0 0]] W fun e w' => ∃ A' c K d, e = .returned (.tuple #[.agg #[.int .i64 5, .int .i64 0, .string ⟨#[]⟩, .slice A' 1 c, .slice K 1 d], .int .i64 0]) ∧ Lies w' w'.heap.size exN A' c K d ∧ Below W.heap.size W w' :=
  put_ok 2 1 ⟨#[]⟩ [⟨#[120]⟩, ⟨#[121]⟩] exN rfl W A 2 sz0 (by decide +kernel) (by decide +kernel) (by decide +kernel) h
theorem exN_getp (W : World) (A K : Option Addr) (c d : Nat) (Ap : Option Addr) (h : Lies W W.heap.size exN A c K d) (hp : PLies W W.heap.size Ap 2 pN) :
    Calls Tryz.prog 12 #[.agg #[.int .i64 5, .int .i64 0, .string ⟨#[]⟩, .slice A 1 c, .slice K 1 d], .slice Ap 2 2] W fun e w' => ∃ A' c' K' d', e = .returned (.tuple #[.agg #[.int .i64 2, .int .i64 1, .string ⟨#[]⟩, .slice A' 0 c', .slice K' 0 d'], .bool true, .int .i64 0]) ∧ Lies w' w'.heap.size (leaf 2 1 ⟨#[]⟩) A' c' K' d' ∧ Below W.heap.size W w' :=
  (show Calls Tryz.prog 12 #[.agg #[.int .i64 5, .int .i64 0, .string ⟨#[]⟩, .slice A 1 c, .slice K 1 d], .slice Ap 2 2] W (GetPost exN pN W) from get_any exN pN W A K c d Ap 2 h hp).mono fun e w' he => by
    unfold GetPost at he
    rw [exN_get] at he
    exact he
theorem exN_getn (W : World) (A K : Option Addr) (c d : Nat) (Ap : Option Addr) (h : Lies W W.heap.size exN A c K d) (hp : PLies W W.heap.size Ap 1 [(0, ⟨#[]⟩)]) :
    Calls Tryz.prog 12 #[.agg #[.int .i64 5, .int .i64 0, .string ⟨#[]⟩, .slice A 1 c, .slice K 1 d], .slice Ap 1 1] W fun e w' => ∃ A' c' K' d', e = .returned (.tuple #[.agg #[.int .i64 0, .int .i64 0, .string ⟨#[]⟩, .slice A' 0 c', .slice K' 0 d'], .bool false, .int .i64 0]) ∧ Below W.heap.size W w' :=
  (show Calls Tryz.prog 12 #[.agg #[.int .i64 5, .int .i64 0, .string ⟨#[]⟩, .slice A 1 c, .slice K 1 d], .slice Ap 1 1] W (GetPost exN [(0, ⟨#[]⟩)] W) from get_any exN [(0, ⟨#[]⟩)] W A K c d Ap 1 h hp).mono fun e w' he => by
    unfold GetPost at he
    rw [exN_get0] at he
    obtain ⟨A', c', K', d', h1, -, h3⟩ := he
    exact ⟨A', c', K', d', h1, h3⟩
theorem exN_arg (W : World) (A : Option Addr) (h : PLies W W.heap.size A 1 [(1, ⟨#[]⟩)]) :
    Calls Tryz.prog 9 #[.agg #[.int .i64 4, .int .i64 0, .string ⟨#[]⟩, .slice none 0 0, .slice none 0 0], .slice A 1 1, .agg #[.int .i64 2, .int .i64 1, .string ⟨#[]⟩, .slice none 0 0, .slice none 0 0]] W fun e w' => e = .returned (.tuple #[.agg #[.int .i64 0, .int .i64 0, .string ⟨#[]⟩, .slice none 0 0, .slice none 0 0], .int .i64 3]) ∧ Below W.heap.size W w' :=
  put_err 3 (by decide) 4 0 2 1 ⟨#[]⟩ ⟨#[]⟩ [(1, ⟨#[]⟩)] W A 1 sz0 sz0 (by decide +kernel) (by decide +kernel) (by decide +kernel) h fun W' g hF hp hs => put_arg 2 1 ⟨#[]⟩ W.heap.size W' g A 1 hs hF hp
theorem exN_type (W : World) (A : Option Addr) (h : PLies W W.heap.size A 1 [(-1, ⟨#[97]⟩)]) :
    Calls Tryz.prog 9 #[.agg #[.int .i64 2, .int .i64 3, .string ⟨#[]⟩, .slice none 0 0, .slice none 0 0], .slice A 1 1, .agg #[.int .i64 2, .int .i64 1, .string ⟨#[]⟩, .slice none 0 0, .slice none 0 0]] W fun e w' => e = .returned (.tuple #[.agg #[.int .i64 0, .int .i64 0, .string ⟨#[]⟩, .slice none 0 0, .slice none 0 0], .int .i64 8]) ∧ Below W.heap.size W w' :=
  put_err 8 (by decide) 2 3 2 1 ⟨#[]⟩ ⟨#[]⟩ [(-1, ⟨#[97]⟩)] W A 1 sz0 sz0 (by decide +kernel) (by decide +kernel) (by decide +kernel) h fun W' g hF hp hs => put_type 3 ⟨#[97]⟩ 2 1 ⟨#[]⟩ W.heap.size W' g A 1 hs hF hp
/-- A step appended to a path. -/
theorem append_step (ty : TypeId) (W : World) (b b' : Nat) (t : TypeId) (i j l : Int) (k m o : ByteArray) (h : BlockIs W b t #[.int .i64 i, .string k, .int .i64 j, .string m]) (h' : BlockIs W b' t #[.int .i64 l, .string o]) (hk : k.size ≤ maxLen) (hm : m.size ≤ maxLen) (ho : o.size ≤ maxLen) :
    ∃ A c W', (Builtin.append_ #[36, 36] ty #[.slice (some ⟨b, 0, none⟩) 2 2, .slice (some ⟨b', 0, none⟩) 1 1]).run Tryz.prog W = .ok (.slice A 3 c) W' ∧ PLies W' W'.heap.size A c [(i, k), (j, m), (l, o)] ∧ Below W.heap.size W W' := by
  obtain ⟨i0, hi, hz0, hz1, hz2⟩ := info_parts (P := Tryz.prog) (e := 34) (z := (.agg #[.int .i64 0, .string ⟨#[]⟩])) (size := 2) (bytes := 24) (by kernel_rfl)
  have hrun := run_append_grow (P := Tryz.prog) (w := W) 36 ty 34 i0 _ Tryz.underlying36 hi hz0 ⟨b, 0, none⟩ 2 2 [.int .i64 i, .string k, .int .i64 j, .string m] (by rw [hz1]; rfl) (fun n v hn => by
    rw [Addr.add_lit, Nat.zero_add]
    refine (h.cell n).trans ?_
    rw [List.getElem?_toArray]; exact hn) ⟨b', 0, none⟩ 1 1 [.int .i64 l, .string o] (by rw [hz1]; rfl) (fun n v hn => by
    rw [Addr.add_lit, Nat.zero_add]
    refine (h'.cell n).trans ?_
    rw [List.getElem?_toArray]; exact hn) (by decide) (by decide) (by rw [hz2]; decide)
  have hge := grownCap_ge W 3 2 34
  have hle := grownCap_le_maxLen W 3 2 34 (by unfold maxLen; omega)
  have hc : ∀ n v, [Value.int .i64 i, .string k, .int .i64 j, .string m, .int .i64 l, .string o][n]? = some v → ∀ zs : Array Value, (W.drew.alloc (.cells ([Value.int .i64 i, .string k, .int .i64 j, .string m].toArray ++ [Value.int .i64 l, .string o].toArray ++ zs) 34)).cell? ⟨W.heap.size, n, none⟩ = some v := by
    intro n v hn zs
    refine (World.cell?_alloc_new W.drew _ _ n).trans ?_
    have hlt := (List.getElem?_eq_some_iff.1 hn).1
    rw [Array.getElem?_append_left (by simpa using hlt)]
    simpa using hn
  exact ⟨_, _, _, hrun, ⟨hge, hle, .inr ⟨W.heap.size, 0, rfl, by simp, hc 0 _ rfl _, hc 1 _ rfl _, hk, hc 2 _ rfl _, hc 3 _ rfl _, hm, hc 4 _ rfl _, hc 5 _ rfl _, ho, trivial⟩⟩, (Below.refl _ W).drew.alloc (Nat.le_refl _) _⟩
def pT3 : List Stp := [(-1, ⟨#[120]⟩), (-1, ⟨#[121]⟩), (-1, ⟨#[65]⟩)]
theorem exN_text (W : World) (A : Option Addr) (c : Nat) (h : PLies W W.heap.size A c pT3) (hp : Pow W) :
    Calls Tryz.prog 14 #[.slice A 3 c] W fun e w' => e = .returned (.tuple #[.string ⟨#[36, 46, 120, 46, 121, 91, 34, 65, 34, 93]⟩, .int .i64 0]) ∧ Below W.heap.size W w' :=
  (pathText_any pT3 W A c (by decide +kernel) h hp).mono fun e w' he => by
    rw [show pathT pT3 = [36, 46, 120, 46, 121, 91, 34, 65, 34, 93] by decide +kernel] at he
    exact he
theorem lies_exN {W : World} {xb j2 yb j1 : Nat} (hj2 : BlockIs W j2 27 #[.int .i64 5, .int .i64 0, .string ⟨#[]⟩, .slice (some ⟨j1, 0, none⟩) 1 1, .slice (some ⟨yb, 0, none⟩) 1 1]) (hx : BlockIs W xb 9 #[.string ⟨#[120]⟩]) (hy : BlockIs W yb 9 #[.string ⟨#[121]⟩]) (hj1 : BlockIs W j1 27 #[.int .i64 2, .int .i64 1, .string ⟨#[]⟩, .slice none 0 0, .slice none 0 0]) :
    Lies W W.heap.size exN (some ⟨j2, 0, none⟩) 1 (some ⟨xb, 0, none⟩) 1 := by
  have h1 : Lies W W.heap.size (.mk 5 0 ⟨#[]⟩ [leaf 2 1 ⟨#[]⟩] [⟨#[121]⟩]) (some ⟨j1, 0, none⟩) 1 (some ⟨yb, 0, none⟩) 1 :=
    ⟨sz0, by simp, by simp [maxLen], ⟨by simp, by simp [maxLen], .inr ⟨yb, 0, rfl, hy.lt, hy.cell 0, by decide, trivial⟩⟩, .inr ⟨j1, 0, rfl, hj1.lt, ⟨none, 0, none, 0, hj1.cell 0, hj1.cell 1, hj1.cell 2, hj1.cell 3, hj1.cell 4, leaf_lies W _ 2 1 sz0⟩, trivial⟩⟩
  exact ⟨sz0, by simp, by simp [maxLen], ⟨by simp, by simp [maxLen], .inr ⟨xb, 0, rfl, hx.lt, hx.cell 0, by decide, trivial⟩⟩, .inr ⟨j2, 0, rfl, hj2.lt, ⟨some ⟨j1, 0, none⟩, 1, some ⟨yb, 0, none⟩, 1, hj2.cell 0, hj2.cell 1, hj2.cell 2, hj2.cell 3, hj2.cell 4, h1⟩, trivial⟩⟩
theorem same_exN (W : World) (A K A' K' : Option Addr) (c d c' d' : Nat) (h : Lies W W.heap.size exN A c K d) (h' : Lies W W.heap.size exN A' c' K' d') :
    Calls Tryz.prog 7 #[.agg #[.int .i64 5, .int .i64 0, .string ⟨#[]⟩, .slice A 1 c, .slice K 1 d], .agg #[.int .i64 5, .int .i64 0, .string ⟨#[]⟩, .slice A' 1 c', .slice K' 1 d']] W fun e w' => e = .returned (.bool true) ∧ Below W.heap.size W w' :=
  (show Calls Tryz.prog 7 #[.agg #[.int .i64 5, .int .i64 0, .string ⟨#[]⟩, .slice A 1 c, .slice K 1 d], .agg #[.int .i64 5, .int .i64 0, .string ⟨#[]⟩, .slice A' 1 c', .slice K' 1 d']] W (SamePost (exN = exN) W) from same_any exN.nodes exN exN W A K c d A' K' c' d' (Nat.le_refl _) h h').mono fun e w' he => by
    obtain ⟨b, he, hb, hw⟩ := he
    rw [hb.2 rfl] at he
    exact ⟨he, hw⟩
theorem same_leafN (W : World) (A K : Option Addr) (c d : Nat) (h : Lies W W.heap.size (leaf 2 1 ⟨#[]⟩) A c K d) :
    Calls Tryz.prog 7 #[.agg #[.int .i64 2, .int .i64 1, .string ⟨#[]⟩, .slice A 0 c, .slice K 0 d], .agg #[.int .i64 2, .int .i64 1, .string ⟨#[]⟩, .slice none 0 0, .slice none 0 0]] W fun e w' => e = .returned (.bool true) ∧ Below W.heap.size W w' :=
  (show Calls Tryz.prog 7 #[.agg #[.int .i64 2, .int .i64 1, .string ⟨#[]⟩, .slice A 0 c, .slice K 0 d], .agg #[.int .i64 2, .int .i64 1, .string ⟨#[]⟩, .slice none 0 0, .slice none 0 0]] W (SamePost (leaf 2 1 ⟨#[]⟩ = leaf 2 1 ⟨#[]⟩) W) from same_any (leaf 2 1 ⟨#[]⟩).nodes (leaf 2 1 ⟨#[]⟩) (leaf 2 1 ⟨#[]⟩) W A K c d none none 0 0 (Nat.le_refl _) h (leaf_lies W _ 2 1 sz0)).mono fun e w' he => by
    obtain ⟨b, he, hb, hw⟩ := he
    rw [hb.2 rfl] at he
    exact ⟨he, hw⟩
/-- How many bytes there are before the next step, outside of quotes. -/
def endP : Bool → List UInt8 → Nat
  | _, [] => 0
  | q, c :: r =>
    if c = 34 then 1 + endP (!q) r
    else if q = true ∧ c = 92 then (match r with | [] => 1 | _ :: u => 2 + endP q u)
    else if q = false ∧ (c = 46 ∨ c = 91) then 0
    else 1 + endP q r
theorem endP_cons (q : Bool) (c : UInt8) (r : List UInt8) : endP q (c :: r) = if c = 34 then 1 + endP (!q) r
    else if q = true ∧ c = 92 then (match r with | [] => 1 | _ :: u => 2 + endP q u)
    else if q = false ∧ (c = 46 ∨ c = 91) then 0
    else 1 + endP q r := by rw [endP.eq_def]
open Go.RowKit
theorem endP_nil {q : Bool} : endP q [] = 0 := by rw [endP.eq_def]
theorem endP_on {q : Bool} {c : UInt8} {r : List UInt8} (h : ¬ c = 34) (h2 : q = true → ¬ c = 92) (h3 : q = false → ¬ (c = 46 ∨ c = 91)) : endP q (c :: r) = 1 + endP q r := by
  rw [endP_cons, if_neg h, if_neg (fun e => h2 e.1 e.2), if_neg (fun e => h3 e.1 e.2)]
/-- Where the look for the step's end stands. -/
def EndAt (s : ByteArray) (q : Bool) (k : Nat) : Prop := min k s.size + endP q (sfx s k) = 1 + endP false (sfx s 1)
theorem EndAt.over {s : ByteArray} {q : Bool} {k : Nat} (h : EndAt s q k) (hk : ¬ k < s.size) : 1 + endP false (sfx s 1) = s.size := by
  unfold EndAt at h
  rw [sfx_nil hk, endP_nil] at h
  omega
theorem EndAt.next {s : ByteArray} {q : Bool} {k : Nat} (h : EndAt s q k) (hk : k < s.size) (hc : ¬ s[k] = 34) (h2 : q = true → ¬ s[k] = 92) (h3 : q = false → ¬ (s[k] = 46 ∨ s[k] = 91)) : EndAt s q (k + 1) := by
  unfold EndAt at h ⊢
  rw [sfx_cons hk, endP_on hc h2 h3] at h
  omega
open Go.RowKit
set_option maxHeartbeats 1000000 in
theorem stepOf_any (k : ByteArray) (w : World) : Calls Tryz.prog 84 #[.string k] w fun e w' => e = .returned (.agg #[.int .i64 (-1), .string k]) ∧ Below w.heap.size w w' := by
  go_enter Tryz.func84, Tryz.ntmps84
  go_wp2_with fail
  exact bodyPost_ret (v := .agg #[.int .i64 (-1), .string k]) (by simp [results, Tryz.results84, go_sem]) rfl ⟨rfl, (Below.refl _ _).alloc (Nat.le_refl _) _⟩
/-- What the reading of a step leaves. -/
def StepPost (r : Option Stp) (w : World) (e : Ending) (w' : World) : Prop :=
  Below w.heap.size w w' ∧ match r with
    | none => e = .returned (.tuple #[.agg #[.int .i64 0, .string ⟨#[]⟩], .bool false])
    | some s => e = .returned (.tuple #[.agg #[.int .i64 s.1, .string s.2], .bool true]) ∧ s.2.size ≤ 1000000
theorem StepPost.no {r : Option Stp} {w w' : World} (h : r = none) (hb : Below w.heap.size w w') : StepPost r w (.returned (.tuple #[.agg #[.int .i64 0, .string ⟨#[]⟩], .bool false])) w' := by
  subst h; exact ⟨hb, rfl⟩
/-- The box of the step that is answered. -/
structure SB (w W : World) : Prop where
  old : Below w.heap.size w W
  br : BlockIs W w.heap.size 34 #[.int .i64 0, .string ⟨#[]⟩]
section
variable {w W W' : World}
theorem SB.start (w : World) : SB w (w.alloc (.cells #[.int .i64 0, .string ⟨#[]⟩] 34)) := ⟨below_al (Below.refl _ w) _, BlockIs.new w _ _⟩
theorem SB.on (h : SB w W) (hb : Below W.heap.size W W') : SB w W' := ⟨below_on h.old hb, h.br.below hb h.br.lt⟩
theorem SB.al (h : SB w W) (o : Obj) : SB w (W.alloc o) := h.on (below_al (Below.refl _ W) o)
theorem SB.ends (h : SB w W) (u0 u1 : Value) : Below w.heap.size w ((W.setCell ⟨w.heap.size, 0, none⟩ u0).setCell ⟨w.heap.size, 1, none⟩ u1) := (h.old.setCell (by simp) _).setCell (by simp) _
theorem SB.put (h : SB w W) (u0 u1 : Value) : BlockIs ((W.setCell ⟨w.heap.size, 0, none⟩ u0).setCell ⟨w.heap.size, 1, none⟩ u1) w.heap.size 34 #[u0, u1] := by
  have := (h.br.set_ 0 u0).set_ 1 u1
  simpa using this
theorem SB.cells (h : SB w W) (u0 u1 : Value) (o : Obj) : (((W.setCell ⟨w.heap.size, 0, none⟩ u0).setCell ⟨w.heap.size, 1, none⟩ u1).alloc o).cell? ⟨w.heap.size, 0, none⟩ = some u0 ∧ (((W.setCell ⟨w.heap.size, 0, none⟩ u0).setCell ⟨w.heap.size, 1, none⟩ u1).alloc o).cell? ⟨w.heap.size, 1, none⟩ = some u1 :=
  ⟨((h.put u0 u1).alloc o).cell 0, ((h.put u0 u1).alloc o).cell 1⟩
theorem SB.two (h : SB w W) : W.cell? ⟨w.heap.size, 0, none⟩ = some (.int .i64 0) ∧ W.cell? ⟨w.heap.size, 1, none⟩ = some (.string ⟨#[]⟩) ∧ W.frozen? ⟨w.heap.size, 0, none⟩ = false ∧ W.frozen? ⟨w.heap.size, 1, none⟩ = false ∧ w.heap.size < W.heap.size :=
  ⟨h.br.cell 0, h.br.cell 1, h.br.frozen 0, h.br.frozen 1, h.br.lt⟩
end
open Go.RowKit
/-- The kind that a step selects in; the order of steps, of paths. -/
def holdI (i : Int) : Int := if i < 0 then 5 else 4
def cmpStepP (a b : Stp) : Int := if cmpI (holdI a.1) (holdI b.1) = 0 then (if cmpI a.1 b.1 = 0 then cmpS a.2 b.2 else cmpI a.1 b.1) else cmpI (holdI a.1) (holdI b.1)
def cmpPathP : List Stp → List Stp → Int
  | [], [] => 0
  | [], _ :: _ => -1
  | _ :: _, [] => 1
  | a :: p, b :: q => if cmpStepP a b = 0 then cmpPathP p q else cmpStepP a b
theorem cmpI_zero {a b : Int} : cmpI a b = 0 ↔ a = b := by
  unfold cmpI; split
  · constructor <;> intro h <;> omega
  · split
    · constructor <;> intro h <;> omega
    · constructor <;> intro h <;> omega
theorem cmpS_zero {a b : ByteArray} : cmpS a b = 0 ↔ a = b := by
  unfold cmpS; split
  · rename_i h
    constructor
    · intro e; cases e
    · rintro rfl; rw [ltB_irrefl] at h; cases h
  · by_cases h : (a.toList == b.toList) = true
    · rw [if_pos h]; exact ⟨fun _ => eqT h, fun _ => rfl⟩
    · rw [if_neg h]
      constructor
      · intro e; cases e
      · rintro rfl; simp at h
theorem cmpStepP_zero {a b : Stp} : cmpStepP a b = 0 ↔ a = b := by
  obtain ⟨i, t⟩ := a
  obtain ⟨j, u⟩ := b
  unfold cmpStepP
  simp only
  split
  · split
    · rename_i h1 h2
      rw [cmpS_zero]
      have := cmpI_zero.1 h2
      subst this
      constructor
      · rintro rfl; rfl
      · intro e; exact (Prod.mk.inj e).2
    · rename_i h1 h2
      constructor
      · intro e; exact absurd e h2
      · intro e; exact absurd (cmpI_zero.2 (Prod.mk.inj e).1) h2
  · rename_i h1
    constructor
    · intro e; exact absurd e h1
    · intro e; rw [(Prod.mk.inj e).1] at h1; exact absurd (cmpI_zero.2 rfl) h1
theorem cmpPathP_zero : ∀ {p q : List Stp}, cmpPathP p q = 0 ↔ p = q
  | [], [] => by simp [cmpPathP]
  | [], _ :: _ => by simp [cmpPathP]
  | _ :: _, [] => by simp [cmpPathP]
  | a :: p, b :: q => by
    rw [cmpPathP]
    split
    · rename_i h
      rw [cmpPathP_zero, cmpStepP_zero.1 h]
      simp
    · rename_i h
      constructor
      · intro e; exact absurd e h
      · intro e; exact absurd (cmpStepP_zero.2 (List.cons.inj e).1) h
set_option maxHeartbeats 1000000 in
theorem holdI_any (i : Int) (t : ByteArray) (w : World) : Calls Tryz.prog 31 #[.agg #[.int .i64 i, .string t]] w fun e w' => e = .returned (.int .i64 (holdI i)) ∧ Below w.heap.size w w' := by
  have HB := Lib.hid (below_al (Below.refl _ w) (.cells #[.int .i64 i, .string t] 34))
  by_cases h : i < 0
  all_goals
    have HH := Lib.hid (show holdI i = if i < 0 then 5 else 4 from rfl)
    go_enter Tryz.func31, Tryz.ntmps31
    go_wp2_with fail
    go_ret
    exact ⟨by rw [HH.out]; simp [h], HB.out⟩
/-- The cells of two boxes of steps. -/
theorem keep2 {w w' : World} {g h : Nat} {a0 a1 b0 b1 : Value} (hb : Below w.heap.size w w') (hg : g < w.heap.size) (hh : h < w.heap.size)
    (hS : w.cell? ⟨g, 0, none⟩ = some a0 ∧ w.cell? ⟨g, 1, none⟩ = some a1 ∧ w.cell? ⟨h, 0, none⟩ = some b0 ∧ w.cell? ⟨h, 1, none⟩ = some b1) :
    w'.cell? ⟨g, 0, none⟩ = some a0 ∧ w'.cell? ⟨g, 1, none⟩ = some a1 ∧ w'.cell? ⟨h, 0, none⟩ = some b0 ∧ w'.cell? ⟨h, 1, none⟩ = some b1 :=
  ⟨(bcell hb _ _ hg).trans hS.1, (bcell hb _ _ hg).trans hS.2.1, (bcell hb _ _ hh).trans hS.2.2.1, (bcell hb _ _ hh).trans hS.2.2.2⟩
set_option maxRecDepth 100000 in
set_option maxHeartbeats 4000000 in
theorem orderSteps_any (a b : Stp) (w : World) : Calls Tryz.prog 53 #[.agg #[.int .i64 a.1, .string a.2], .agg #[.int .i64 b.1, .string b.2]] w fun e w' => e = .returned (.int .i64 (cmpStepP a b)) ∧ Below w.heap.size w w' := by
  obtain ⟨i, t⟩ := a
  obtain ⟨j, u⟩ := b
  simp only
  obtain ⟨W, hW⟩ : ∃ W, W = (w.alloc (.cells #[.int .i64 i, .string t] 34)).alloc (.cells #[.int .i64 j, .string u] 34) := ⟨_, rfl⟩
  have HW := Lib.hid hW
  have HB := Lib.hid (show Below w.heap.size w W by rw [hW]; exact below_al (below_al (Below.refl _ w) _) _)
  have HX := Lib.hid (show BlockIs W w.heap.size 34 #[.int .i64 i, .string t] by rw [hW]; exact (BlockIs.new w _ _).alloc _)
  have HY := Lib.hid (show BlockIs W (w.heap.size + 1) 34 #[.int .i64 j, .string u] by rw [hW]; exact BlockIs.newAt _ _ _ (by simp))
  have HS := Lib.hid (show cmpStepP (i, t) (j, u) = if cmpI (holdI i) (holdI j) = 0 then (if cmpI i j = 0 then cmpS t u else cmpI i j) else cmpI (holdI i) (holdI j) from rfl)
  have hwl : w.heap.size + 1 < W.heap.size := HY.out.lt
  obtain ⟨a0, ha0⟩ : ∃ n, n = holdI i := ⟨_, rfl⟩
  obtain ⟨b0, hb0⟩ : ∃ n, n = holdI j := ⟨_, rfl⟩
  have HHA := Lib.hid fun W => holdI_any i t W
  have HHB := Lib.hid fun W => holdI_any j u W
  rw [← ha0] at HHA HS
  rw [← hb0] at HHB HS
  obtain ⟨c1, hc1⟩ : ∃ n, n = cmpI a0 b0 := ⟨_, rfl⟩
  have HC := Lib.hid fun W => (cmpInt_any a0 b0 W).mono (R' := fun e w' => e = .returned (.int .i64 (cmpI a0 b0)) ∧ W = w') fun _ _ h => ⟨h.1, h.2.symm⟩
  rw [← hc1] at HC HS
  obtain ⟨c2, hc2⟩ : ∃ n, n = cmpI i j := ⟨_, rfl⟩
  have HC2 := Lib.hid fun W => (cmpInt_any i j W).mono (R' := fun e w' => e = .returned (.int .i64 (cmpI i j)) ∧ W = w') fun _ _ h => ⟨h.1, h.2.symm⟩
  rw [← hc2] at HC2 HS
  have HC3 := Lib.hid fun W => (cmpStr_any t u W).mono (R' := fun e w' => e = .returned (.int .i64 (cmpS t u)) ∧ W = w') fun _ _ h => ⟨h.1, h.2.symm⟩
  clear hW ha0 hb0 hc1 hc2
  go_enter Tryz.func53, Tryz.ntmps53
  go_upto_region 1 with (fail)
  rw [← HW.out]
  have x0 : W.cell? ⟨w.heap.size, 0, none⟩ = some (.int .i64 i) := HX.out.cell 0
  have x1 : W.cell? ⟨w.heap.size, 1, none⟩ = some (.string t) := HX.out.cell 1
  have y0 : W.cell? ⟨w.heap.size + 1, 0, none⟩ = some (.int .i64 j) := HY.out.cell 0
  have y1 : W.cell? ⟨w.heap.size + 1, 1, none⟩ = some (.string u) := HY.out.cell 1
  have tok1 : True := trivial
  go_region_held3 (fun w' => w'.cell? ⟨w.heap.size, 0, none⟩ = some (.int .i64 i) ∧ w'.cell? ⟨w.heap.size, 1, none⟩ = some (.string t) ∧ w'.cell? ⟨w.heap.size + 1, 0, none⟩ = some (.int .i64 j) ∧ w'.cell? ⟨w.heap.size + 1, 1, none⟩ = some (.string u))
    (first
      | go_keep
      | (with_reducible exact keep2 h2 (by simp at *; omega) (by simp at *; omega) (by assumption))
      | (with_reducible exact keep2 h1 (by simp at *; omega) (by simp at *; omega) (by assumption)))
    ((first
      | (go_at_call 31; have _t := tok1; refine (HHA.out _).mono ?_; rintro e w1 ⟨rfl, h1⟩; clear tok1 _t; have s1 := h1.size; try simp at s1)
      | (go_at_call 31; refine (HHB.out _).mono ?_; rintro e w2 ⟨rfl, h2⟩; have s2 := h2.size; try simp at s2)
      | (go_at_call 69; refine (HC.out _).mono ?_; rintro e w3 ⟨rfl, rfl⟩)))
  have HB2 := Lib.hid (below_on (below_on HB.out.drew h1) h2)
  have HX2 := Lib.hid (bi_on (bi_on (bi_drew HX.out) h1) h2)
  have HY2 := Lib.hid (bi_on (bi_on (bi_drew HY.out) h1) h2)
  clear x0 x1 y0 y1 h1 h2
  have x0 := HX2.out.cell 0
  have x1 := HX2.out.cell 1
  have y0 := HY2.out.cell 0
  have y1 := HY2.out.cell 1
  by_cases h1 : c1 = 0
  · have k1 : (c1 != 0) = false := by simp [h1]
    by_cases h2 : c2 = 0
    · have k2 : (c2 != 0) = false := by simp [h2]
      have HE := Lib.hid (HS.out.trans (by rw [if_pos h1, if_pos h2]))
      clear h1 h2
      go_wp2_with fail
      refine (HC2.out _).mono ?_
      rintro e w3 ⟨rfl, rfl⟩
      go_wp2_with fail
      refine (HC3.out _).mono ?_
      rintro e w3 ⟨rfl, rfl⟩
      go_wp2_with fail
      go_ret
      exact ⟨by rw [HE.out]; rfl, HB2.out⟩
    · have k2 : (c2 != 0) = true := by simp [h2]
      have HE := Lib.hid (HS.out.trans (by rw [if_pos h1, if_neg h2]))
      clear h1 h2
      go_wp2_with fail
      refine (HC2.out _).mono ?_
      rintro e w3 ⟨rfl, rfl⟩
      go_wp2_with fail
      go_ret
      exact ⟨by rw [HE.out]; rfl, HB2.out⟩
  · have k1 : (c1 != 0) = true := by simp [h1]
    have HE := Lib.hid (HS.out.trans (by rw [if_neg h1]))
    clear h1
    go_wp2_with fail
    go_ret
    exact ⟨by rw [HE.out]; rfl, HB2.out⟩
open Go.RowKit
theorem cmpPath_step {p q : List Stp} {j : Nat} {a b : Stp} (ha : p[j]? = some a) (hb : q[j]? = some b) : cmpPathP (p.drop j) (q.drop j) = if cmpStepP a b = 0 then cmpPathP (p.drop (j + 1)) (q.drop (j + 1)) else cmpStepP a b := by
  rw [drop_at ha, drop_at hb, cmpPathP]
theorem cmpPath_end {p q : List Stp} {j n m : Nat} (hn : n = p.length) (hm : m = q.length) (h1 : j ≤ n) (h2 : j ≤ m) (h : ¬ (j < n ∧ j < m)) : cmpPathP (p.drop j) (q.drop j) = cmpI n m := by
  by_cases h3 : n ≤ j
  · rw [List.drop_eq_nil_of_le (by omega : p.length ≤ j)]
    by_cases h4 : m ≤ j
    · rw [List.drop_eq_nil_of_le (by omega : q.length ≤ j), cmpPathP, (cmpI_zero).2 (by omega)]
    · obtain ⟨b, hb⟩ : ∃ b, q[j]? = some b := ⟨_, List.getElem?_eq_getElem (by omega)⟩
      rw [drop_at hb, cmpPathP]
      unfold cmpI
      rw [if_pos (by omega)]
  · have h4 : m ≤ j := by omega
    obtain ⟨a, ha⟩ : ∃ a, p[j]? = some a := ⟨_, List.getElem?_eq_getElem (by omega)⟩
    rw [List.drop_eq_nil_of_le (by omega : q.length ≤ j), drop_at ha, cmpPathP]
    unfold cmpI
    rw [if_neg (by omega), if_pos (by omega)]
set_option maxRecDepth 100000 in
set_option maxHeartbeats 4000000 in
theorem orderLists_any (p q : List Stp) (w : World) (A A' : Option Addr) (c c' : Nat) (hp : PLies w w.heap.size A c p) (hq : PLies w w.heap.size A' c' q) :
    Calls Tryz.prog 52 #[.slice A p.length c, .slice A' q.length c', .func (.func 53) #[] #[]] w fun e w' => e = .returned (.int .i64 (cmpPathP p q)) ∧ Below w.heap.size w w' := by
  obtain ⟨n, hn⟩ : ∃ n, n = p.length := ⟨_, rfl⟩
  obtain ⟨m, hm⟩ : ∃ m, m = q.length := ⟨_, rfl⟩
  have HN := Lib.hid hn
  have HM := Lib.hid hm
  have HP := Lib.hid fun W (hW : Below w.heap.size w W) => hp.on hW
  have HQ := Lib.hid fun W (hW : Below w.heap.size w W) => hq.on hW
  have hnl : n ≤ maxLen := by have := hp.1; have := hp.2.1; omega
  have hml : m ≤ maxLen := by have := hq.1; have := hq.2.1; omega
  unfold maxLen at hnl hml
  obtain ⟨R, hR⟩ : ∃ R, R = cmpPathP p q := ⟨_, rfl⟩
  have HR0 := Lib.hid (show cmpPathP (p.drop 0) (q.drop 0) = R by rw [hR]; rfl)
  rw [← hn, ← hm, ← hR]
  clear hp hq hn hm hR
  go_enter Tryz.func52, Tryz.ntmps52
  go_wp2_with fail
  go_loopw [14] (fun iv wr => ∃ j : Nat, iv = .int .i64 j ∧ j ≤ n ∧ j ≤ m ∧ Hid (Below w.heap.size w wr ∧ cmpPathP (p.drop j) (q.drop j) = R)) (fun iv _ => n - (intOf iv).toNat)
  case atStart => exact ⟨0, rfl, Nat.zero_le _, Nat.zero_le _, Lib.hid ⟨Below.refl _ w, HR0.out⟩⟩
  case round =>
    obtain ⟨j, rfl, hj1, hj2, hI⟩ := hrel
    clear HR0
    by_cases hlt : j < n ∧ j < m
    · obtain ⟨hl1, hl2⟩ := hlt
      obtain ⟨a, ha⟩ : ∃ a, p[j]? = some a := ⟨_, List.getElem?_eq_getElem (by rw [← HN.out]; exact hl1)⟩
      obtain ⟨b, hb⟩ : ∃ b, q[j]? = some b := ⟨_, List.getElem?_eq_getElem (by rw [← HM.out]; exact hl2)⟩
      have HST := Lib.hid (cmpPath_step ha hb)
      obtain ⟨ba, oa, rfl, hbA, a0, a1, -⟩ := (HP.out _ hI.out.1).at_ ha
      obtain ⟨bb, ob, rfl, hbB, b0, b1, -⟩ := (HQ.out _ hI.out.1).at_ hb
      have hjn : (j : Int) < min (n : Int) (m : Int) := by omega
      have hji : (j : Int) < n := by omega
      have hji2 : (j : Int) < m := by omega
      have hj0 : 0 ≤ (j : Int) := by omega
      obtain ⟨r, hr⟩ : ∃ r, r = cmpStepP a b := ⟨_, rfl⟩
      have HC := Lib.hid fun W => orderSteps_any a b W
      rw [← hr] at HC HST
      obtain ⟨i, t⟩ := a
      obtain ⟨i', t'⟩ := b
      clear ha hb hr
      simp only at HC a0 a1 b0 b1
      go_wp2_with fail
      go_region_held3 (fun w' => w'.cell? ⟨ba, oa + j * 2, none⟩ = some (.int .i64 i) ∧ w'.cell? ⟨ba, oa + j * 2 + 1, none⟩ = some (.string t) ∧ w'.cell? ⟨bb, ob + j * 2, none⟩ = some (.int .i64 i') ∧ w'.cell? ⟨bb, ob + j * 2 + 1, none⟩ = some (.string t'))
        (first
          | go_keep
          | (refine ⟨?_, ?_, ?_, ?_⟩ <;> rw [bcell h1 _ _ (by simpa using (by assumption))] <;> simp [*]))
        ((first
          | (go_at_call 53; refine (HC.out _).mono ?_; rintro e w1 ⟨rfl, h1⟩)))
      have HB1 := Lib.hid (below_on hI.out.1.drew h1)
      clear h1 a0 a1 b0 b1
      by_cases h0 : r = 0
      · have k0 : (r != 0) = false := by simp [h0]
        have HN1 := Lib.hid (show cmpPathP (p.drop (j + 1)) (q.drop (j + 1)) = R by have := HST.out; rw [if_pos h0] at this; rw [← this]; exact hI.out.2)
        clear h0
        go_wp2_with fail
        go_roundw
        case rel => exact ⟨j + 1, by go_num, by omega, by omega, Lib.hid ⟨HB1.out, HN1.out⟩⟩
        case measure => simp [intOf]; omega
      · have k0 : (r != 0) = true := by simp [h0]
        have HN1 := Lib.hid (show R = r by have := HST.out; rw [if_neg h0] at this; rw [← this]; exact hI.out.2.symm)
        clear h0
        go_wp2_with fail
        go_ret
        exact ⟨by rw [HN1.out]; rfl, HB1.out⟩
    · have hjn : ¬ ((j : Int) < min (n : Int) (m : Int)) := by omega
      have HE := Lib.hid (show R = cmpI n m by rw [← hI.out.2]; exact cmpPath_end HN.out HM.out hj1 hj2 hlt)
      have HC := Lib.hid fun W => (cmpInt_any n m W).mono (R' := fun e w' => e = .returned (.int .i64 (cmpI n m)) ∧ W = w') fun _ _ h => ⟨h.1, h.2.symm⟩
      clear hlt
      go_wp2_with fail
      refine (HC.out _).mono ?_
      rintro e w3 ⟨rfl, rfl⟩
      go_wp2_with fail
      go_ret
      exact ⟨by rw [HE.out]; rfl, hI.out.1⟩
/-- What Order answers. -/
def OrdPost (p q : List Stp) (w : World) (e : Ending) (w' : World) : Prop := e = .returned (if (pathB p && pathB q) = true then .tuple #[.int .i64 (cmpPathP p q), .int .i64 0] else .tuple #[.int .i64 0, .int .i64 1]) ∧ Below w.heap.size w w'
theorem OrdPost.no {p q : List Stp} {w w' : World} (h : (pathB p && pathB q) = false) (hb : Below w.heap.size w w') : OrdPost p q w (.returned (.tuple #[.int .i64 0, .int .i64 1])) w' := ⟨by rw [if_neg (by rw [h]; simp)], hb⟩
theorem pathValid_is (p : List Stp) (w : World) (A : Option Addr) (c : Nat) (h : PLies w w.heap.size A c p) {r : Bool} (hr : pathB p = r) :
    Calls Tryz.prog 16 #[.slice A p.length c] w fun e w' => e = .returned (.bool r) ∧ Below w.heap.size w w' := by
  subst hr; exact pathValid_any p w A c h
open Go.RowKit
/-- What stands before the last line of the examples. -/
structure AW (w : World) (p : Nat) (W : World) : Prop where
  old : Below w.heap.size w W
  path : BlockIs W p 34 #[.int .i64 (-1), .string ⟨#[120]⟩, .int .i64 (-1), .string ⟨#[121]⟩]
structure AV (w : World) (p g : Nat) (A : Option Addr) (c : Nat) (K : Option Addr) (d : Nat) (W : World) : Prop where
  aw : AW w p W
  bv : BlockIs W g 27 #[.int .i64 5, .int .i64 0, .string ⟨#[]⟩, .slice A 1 c, .slice K 1 d]
  lies : Lies W W.heap.size exN A c K d
structure AX (w : World) (p g : Nat) (A : Option Addr) (c : Nat) (K : Option Addr) (d : Nat) (h : Nat) (A' : Option Addr) (c' : Nat) (K' : Option Addr) (d' : Nat) (W : World) : Prop where
  av : AV w p g A c K d W
  bx : BlockIs W h 27 #[.int .i64 2, .int .i64 1, .string ⟨#[]⟩, .slice A' 0 c', .slice K' 0 d']
  lies : Lies W W.heap.size (leaf 2 1 ⟨#[]⟩) A' c' K' d'
section
variable {w W W' : World} {p g h : Nat} {A K A' K' : Option Addr} {c d c' d' : Nat}
theorem AW.on (h : AW w p W) (hb : Below W.heap.size W W') : AW w p W' := ⟨below_on h.old hb, bi_on h.path hb⟩
theorem AV.on (h : AV w p g A c K d W) (hb : Below W.heap.size W W') : AV w p g A c K d W' := ⟨h.aw.on hb, bi_on h.bv hb, lies_on h.lies hb⟩
theorem AX.on (h' : AX w p g A c K d h A' c' K' d' W) (hb : Below W.heap.size W W') : AX w p g A c K d h A' c' K' d' W' := ⟨h'.av.on hb, bi_on h'.bx hb, lies_on h'.lies hb⟩
theorem AW.al (h : AW w p W) (o : Obj) : AW w p (W.alloc o) := h.on (below_al (Below.refl _ W) o)
theorem AV.al (h : AV w p g A c K d W) (o : Obj) : AV w p g A c K d (W.alloc o) := h.on (below_al (Below.refl _ W) o)
theorem AX.al (h' : AX w p g A c K d h A' c' K' d' W) (o : Obj) : AX w p g A c K d h A' c' K' d' (W.alloc o) := h'.on (below_al (Below.refl _ W) o)
theorem AX.drew (h' : AX w p g A c K d h A' c' K' d' W) : AX w p g A c K d h A' c' K' d' W.drew := h'.on (Below.refl _ W).drew
theorem AW.plies (h : AW w p W) : PLies W W.heap.size (some ⟨p, 0, none⟩) 2 pN := plies2 h.path (by decide) (by decide)
end
/-- A region walked in two parts: where the orders of its first part meet. -/
theorem anyH_cut {P : Program} {md : Region.Mode} {ops : Array Oper} {Q : Exit → Act → World → Prop} {S : World → Prop} {fuel : Nat} {listed : Array Bool} {a0 : Act} {w0 : World} (fuel0 : Nat) (listed0 : Array Bool) (C : Act → Act → World → Prop)
    (tail : ∀ a w, C a0 a w → S w → wpAnyH P md ops Q S fuel0 listed0 a w) (main : Hid (∀ a w, C a0 a w → S w → wpAnyH P md ops Q S fuel0 listed0 a w) → wpAnyH P md ops Q S fuel listed a0 w0) : wpAnyH P md ops Q S fuel listed a0 w0 := main (Lib.hid tail)
/-- The cells of the two boxes. -/
theorem sn_on {B w w' : World} {g h : Nat} {A K A' K' : Option Addr} {c d c' d' : Nat} (hg : g < B.heap.size) (hh : h < B.heap.size) (hb : Below w.heap.size w w')
    (hS : Hid (Below B.heap.size B w) ∧ w.cell? ⟨g, 0, none⟩ = some (.int .i64 5) ∧ w.cell? ⟨g, 1, none⟩ = some (.int .i64 0) ∧ w.cell? ⟨g, 2, none⟩ = some (.string ⟨#[]⟩) ∧ w.cell? ⟨g, 3, none⟩ = some (.slice A 1 c) ∧ w.cell? ⟨g, 4, none⟩ = some (.slice K 1 d)
      ∧ w.cell? ⟨h, 0, none⟩ = some (.int .i64 2) ∧ w.cell? ⟨h, 1, none⟩ = some (.int .i64 1) ∧ w.cell? ⟨h, 2, none⟩ = some (.string ⟨#[]⟩) ∧ w.cell? ⟨h, 3, none⟩ = some (.slice A' 0 c') ∧ w.cell? ⟨h, 4, none⟩ = some (.slice K' 0 d')) :
    Hid (Below B.heap.size B w') ∧ w'.cell? ⟨g, 0, none⟩ = some (.int .i64 5) ∧ w'.cell? ⟨g, 1, none⟩ = some (.int .i64 0) ∧ w'.cell? ⟨g, 2, none⟩ = some (.string ⟨#[]⟩) ∧ w'.cell? ⟨g, 3, none⟩ = some (.slice A 1 c) ∧ w'.cell? ⟨g, 4, none⟩ = some (.slice K 1 d)
      ∧ w'.cell? ⟨h, 0, none⟩ = some (.int .i64 2) ∧ w'.cell? ⟨h, 1, none⟩ = some (.int .i64 1) ∧ w'.cell? ⟨h, 2, none⟩ = some (.string ⟨#[]⟩) ∧ w'.cell? ⟨h, 3, none⟩ = some (.slice A' 0 c') ∧ w'.cell? ⟨h, 4, none⟩ = some (.slice K' 0 d') := by
  obtain ⟨hB, a0, a1, a2, a3, a4, b0, b1, b2, b3, b4⟩ := hS
  have hs := hB.out.size
  have hg' : g < w.heap.size := by omega
  have hh' : h < w.heap.size := by omega
  exact ⟨Lib.hid (below_on hB.out hb), (bcell hb _ _ hg').trans a0, (bcell hb _ _ hg').trans a1, (bcell hb _ _ hg').trans a2, (bcell hb _ _ hg').trans a3, (bcell hb _ _ hg').trans a4, (bcell hb _ _ hh').trans b0, (bcell hb _ _ hh').trans b1, (bcell hb _ _ hh').trans b2, (bcell hb _ _ hh').trans b3, (bcell hb _ _ hh').trans b4⟩
attribute [local go_sem ↓] Go.wp_at_zero Go.wp_at_succ
set_option maxRecDepth 100000 in
set_option maxHeartbeats 4000000 in
theorem awake2_any (w : World) (hp : Pow w) : Calls Tryz.prog 4 #[] w fun e w' => e = .returned (.bool true) ∧ Below w.heap.size w w' := by
  have HP := Lib.hid fun W (hW : Below w.heap.size w W) => hp.on hW
  clear hp
  go_enter Tryz.func4, Tryz.ntmps4
  go_wp2_with fail
  refine (key_any ⟨#[120]⟩ _).mono ?_
  rintro e w1 ⟨rfl, h1⟩
  have F1 := Lib.hid h1
  clear h1
  go_wp2_with fail
  refine (key_any ⟨#[121]⟩ _).mono ?_
  rintro e w2 ⟨rfl, h2⟩
  have F2 := Lib.hid (below_on F1.out h2)
  clear h2
  have FP := Lib.hid (show AW w w2.heap.size (w2.alloc (.cells #[.int .i64 (-1), .string ⟨#[120]⟩, .int .i64 (-1), .string ⟨#[121]⟩] 34)) from ⟨below_al F2.out _, BlockIs.new w2 _ _⟩)
  go_wp2_with fail
  refine (refNull_any _).mono ?_
  rintro e w3 ⟨rfl, h3⟩
  have F3 := Lib.hid (FP.out.on h3)
  clear h3
  go_wp2_with fail
  refine (refInt_any 1 _).mono ?_
  rintro e w4 ⟨rfl, h4⟩
  have F4 := Lib.hid (F3.out.on h4)
  clear h4
  unfold numV
  go_wp2_with fail
  refine (exN_put _ _ F4.out.plies).mono ?_
  rintro e w5 ⟨A, c, K, d, rfl, hl5, h5⟩
  have F5 := Lib.hid (show AV w w2.heap.size w5.heap.size A c K d (w5.alloc (.cells #[.int .i64 5, .int .i64 0, .string ⟨#[]⟩, .slice A 1 c, .slice K 1 d] 27)) from ⟨(F4.out.on h5).al _, BlockIs.new w5 _ _, lies_alloc hl5 _⟩)
  clear h5 hl5
  go_wp2_with fail
  refine (exN_getp _ A K c d _ F5.out.lies F5.out.aw.plies).mono ?_
  rintro e w6 ⟨A', c', K', d', rfl, hl6, h6⟩
  have F6 := Lib.hid (show AX w w2.heap.size w5.heap.size A c K d w6.heap.size A' c' K' d' (w6.alloc (.cells #[.int .i64 2, .int .i64 1, .string ⟨#[]⟩, .slice A' 0 c', .slice K' 0 d'] 27)) from ⟨(F5.out.on h6).al _, BlockIs.new w6 _ _, lies_alloc hl6 _⟩)
  obtain ⟨v0, v1, v2, v3, v4⟩ := five_of (F5.out.on h6).bv
  have vl := (F5.out.on h6).bv.lt
  clear h6 hl6
  have HQ6 := Lib.hid (show BlockIs ((w6.alloc (.cells #[.int .i64 2, .int .i64 1, .string ⟨#[]⟩, .slice A' 0 c', .slice K' 0 d'] 27)).alloc (.cells #[.int .i64 0, .string ⟨#[]⟩] 34)) (w6.heap.size + 1) 34 #[.int .i64 0, .string ⟨#[]⟩] from BlockIs.newAt _ _ _ (by simp))
  have HL6 := Lib.hid (F6.out.al (.cells #[.int .i64 0, .string ⟨#[]⟩] 34)).av.lies
  go_wp2_with fail
  refine (exN_getn _ A K c d _ HL6.out (plies1 HQ6.out (by decide))).mono ?_
  rintro e w7 ⟨A7, c7, K7, d7, rfl, h7⟩
  have F7 := Lib.hid (((F6.out.al (.cells #[.int .i64 0, .string ⟨#[]⟩] 34)).on h7).al (.cells #[.int .i64 0, .int .i64 0, .string ⟨#[]⟩, .slice A7 0 c7, .slice K7 0 d7] 27))
  clear h7 v0 v1 v2 v3 v4 vl
  go_wp2_with fail
  refine (refList_any _ _ _ _).mono ?_
  rintro e w8 ⟨rfl, h8⟩
  have F8 := Lib.hid (F7.out.on h8)
  clear h8
  have HQ8 := Lib.hid (BlockIs.new w8 34 #[.int .i64 1, .string ⟨#[]⟩])
  go_wp2_with fail
  refine (refInt_any 1 _).mono ?_
  rintro e w9 ⟨rfl, h9⟩
  have F9 := Lib.hid ((F8.out.al (.cells #[.int .i64 1, .string ⟨#[]⟩] 34)).on h9)
  have HQ9 := Lib.hid (bi_on HQ8.out h9)
  clear h9
  unfold numV
  go_wp2_with fail
  refine (exN_arg _ _ (plies1 HQ9.out (by decide))).mono ?_
  rintro e w10 ⟨rfl, h10⟩
  have F10 := Lib.hid ((F9.out.on h10).al (.cells #[.int .i64 0, .int .i64 0, .string ⟨#[]⟩, .slice none 0 0, .slice none 0 0] 27))
  clear h10
  go_wp2_with fail
  refine (refInt_any 3 _).mono ?_
  rintro e w11 ⟨rfl, h11⟩
  have F11 := Lib.hid (F10.out.on h11)
  clear h11
  unfold numV
  go_wp2_with fail
  refine (key_any ⟨#[97]⟩ _).mono ?_
  rintro e w12 ⟨rfl, h12⟩
  have F12 := Lib.hid (F11.out.on h12)
  have HQ12 := Lib.hid (BlockIs.new w12 34 #[.int .i64 (-1), .string ⟨#[97]⟩])
  clear h12
  go_wp2_with fail
  refine (refInt_any 1 _).mono ?_
  rintro e w13 ⟨rfl, h13⟩
  have F13 := Lib.hid ((F12.out.al (.cells #[.int .i64 (-1), .string ⟨#[97]⟩] 34)).on h13)
  have HQ13 := Lib.hid (bi_on HQ12.out h13)
  clear h13
  unfold numV
  go_wp2_with fail
  refine (exN_type _ _ (plies1 HQ13.out (by decide))).mono ?_
  rintro e w14 ⟨rfl, h14⟩
  have F14 := Lib.hid ((F13.out.on h14).al (.cells #[.int .i64 0, .int .i64 0, .string ⟨#[]⟩, .slice none 0 0, .slice none 0 0] 27))
  clear h14
  go_wp2_with fail
  refine (key_any ⟨#[65]⟩ _).mono ?_
  rintro e w15 ⟨rfl, h15⟩
  have F15 := Lib.hid (F14.out.on h15)
  clear h15
  obtain ⟨AT, cT, W16, hrun, hpl, hb16⟩ := append_step 36 (w15.alloc (.cells #[.int .i64 (-1), .string ⟨#[65]⟩] 34)) w2.heap.size w15.heap.size 34 (-1) (-1) (-1) ⟨#[120]⟩ ⟨#[121]⟩ ⟨#[65]⟩ (F15.out.al _).av.aw.path (BlockIs.new w15 _ _) (by decide) (by decide) (by decide)
  have HRUN := Lib.hid hrun
  have HPL := Lib.hid hpl
  have F16 := Lib.hid ((F15.out.al (.cells #[.int .i64 (-1), .string ⟨#[65]⟩] 34)).on hb16)
  clear hrun hpl hb16
  go_wp2_with (at_builtin; refine Lib.wpList_append_run _ rfl _ _ _ _ rfl _ _ rfl rfl _ _ HRUN.out ?_)
  refine (exN_text _ _ _ HPL.out (HP.out _ F16.out.av.aw.old)).mono ?_
  rintro e w17 ⟨rfl, h17⟩
  have F17 := Lib.hid (F16.out.on h17)
  clear h17
  go_wp2_with fail
  clear F1 F2 FP F3 F4 F5 F6 HQ6 HL6 F7 F8 HQ8 F9 HQ9 F10 F11 F12 HQ12 F13 HQ13 F14 F15 HRUN HPL F16 HP
  have gvl := F17.out.av.bv.lt
  have gxl := F17.out.bx.lt
  have FV := Lib.hid F17.out.av.lies
  have FX := Lib.hid F17.out.lies
  have FB := Lib.hid F17.out.av.aw.old
  obtain ⟨v0, v1, v2, v3, v4⟩ := five_of F17.out.av.bv
  obtain ⟨x0, x1, x2, x3, x4⟩ := five_of F17.out.bx
  clear F17
  refine wp_region_held_drew (S := (fun w' => Hid (Below w17.heap.size w17 w') ∧ w'.cell? ⟨w5.heap.size, 0, none⟩ = some (.int .i64 5) ∧ w'.cell? ⟨w5.heap.size, 1, none⟩ = some (.int .i64 0) ∧ w'.cell? ⟨w5.heap.size, 2, none⟩ = some (.string ⟨#[]⟩) ∧ w'.cell? ⟨w5.heap.size, 3, none⟩ = some (.slice A 1 c) ∧ w'.cell? ⟨w5.heap.size, 4, none⟩ = some (.slice K 1 d) ∧ w'.cell? ⟨w6.heap.size, 0, none⟩ = some (.int .i64 2) ∧ w'.cell? ⟨w6.heap.size, 1, none⟩ = some (.int .i64 1) ∧ w'.cell? ⟨w6.heap.size, 2, none⟩ = some (.string ⟨#[]⟩) ∧ w'.cell? ⟨w6.heap.size, 3, none⟩ = some (.slice A' 0 c') ∧ w'.cell? ⟨w6.heap.size, 4, none⟩ = some (.slice K' 0 d'))) (by kernel_rfl) (sn_on gvl gxl (Below.refl _ _).drew ⟨Lib.hid (Below.refl _ _), v0, v1, v2, v3, v4, x0, x1, x2, x3, x4⟩) (fun hH0 => ?_)
  clear v0 v1 v2 v3 v4 x0 x1 x2 x3 x4
  refine wpAnyH_take (i := 0) (oi := { dst := some 65, op := Go.Op.move (Go.Operand.tmp 3), type := 28, pos := "law.go:23", after := #[], guard := none }) (v := ?_) rfl (by kernel_rfl) (by kernel_rfl) (by kernel_rfl) (fun _ _ _ h => h) (Or.inl ⟨by rfl, ?_⟩) (by assumption) ?_
  rotate_left
  · (intro w hSw; (try dsimp only at hSw); go_simp; try with_reducible rfl)
  (try simp only [Act.put, List.setIfInBounds_toArray, List.set_cons_zero, List.set_cons_succ])
  refine wpAnyH_take (i := 1) (oi := { dst := some 66, op := Go.Op.binOp Go.BinOp.eql 28 (Go.Operand.tmp 65) (Go.Operand.const (Go.Value.int Go.IntKind.i64 0)) 28, type := 4, pos := "law.go:23", after := #[{ on := 0, ground := Go.Ground.data }], guard := none }) (v := ?_) rfl (by kernel_rfl) (by kernel_rfl) (by kernel_rfl) (fun _ _ _ h => h) (Or.inl ⟨by rfl, ?_⟩) (by assumption) ?_
  rotate_left
  · (intro w hSw; (try dsimp only at hSw); go_simp; try with_reducible rfl)
  (try simp only [Act.put, List.setIfInBounds_toArray, List.set_cons_zero, List.set_cons_succ])
  refine wpAnyH_take (i := 2) (oi := { dst := some 67, op := Go.Op.move (Go.Operand.tmp 66), type := 4, pos := "law.go:23", after := #[{ on := 1, ground := Go.Ground.data }], guard := none }) (v := ?_) rfl (by kernel_rfl) (by kernel_rfl) (by kernel_rfl) (fun _ _ _ h => h) (Or.inl ⟨by rfl, ?_⟩) (by assumption) ?_
  rotate_left
  · (intro w hSw; (try dsimp only at hSw); go_simp; try with_reducible rfl)
  (try simp only [Act.put, List.setIfInBounds_toArray, List.set_cons_zero, List.set_cons_succ])
  refine wpAnyH_take (i := 3) (oi := { dst := some 68, op := Go.Op.load 27 (Go.Operand.tmp 2), type := 27, pos := "law.go:23", after := #[{ on := 2, ground := Go.Ground.guard }], guard := some (2, true) }) (v := ?_) rfl (by kernel_rfl) (by kernel_rfl) (by kernel_rfl) (fun _ _ _ h => h) (Or.inl ⟨by rfl, ?_⟩) (by assumption) ?_
  rotate_left
  · (intro w hSw; (try dsimp only at hSw); go_simp; try with_reducible rfl)
  (try simp only [Act.put, List.setIfInBounds_toArray, List.set_cons_zero, List.set_cons_succ])
  refine anyH_cut 39 #[true, true, true, true, true, true, true, true, true, true, true, false, false, false, false, false, false, false, false, false, false, false, false, false, false, false, false, false, false, false, false, false, false, false, false, false, false, false, false, false, false, false, false, false, false, false, false, false, false, false] (fun a0 a w' => ∃ u4 u5 u6 u7 u8 u9 j2 xb, a = (((((((a0.put (some 69) u4).put (some 70) u5).put (some 71) u6).put (some 72) u7).put (some 73) u8).put (some 74) u9).put (some 75) (.agg #[.int .i64 5, .int .i64 0, .string ⟨#[]⟩, .slice (some ⟨j2, 0, none⟩) 1 1, .slice (some ⟨xb, 0, none⟩) 1 1])) ∧ Lies w' w'.heap.size exN (some ⟨j2, 0, none⟩) 1 (some ⟨xb, 0, none⟩) 1) ?_ (fun TAIL => ?_)
  · rintro a W ⟨u4, u5, u6, u7, u8, u9, j2, xb, rfl, hlo⟩ hH1
    clear hH0
    have HLO := Lib.hid hlo
    clear hlo
    (try simp only [Act.put, List.setIfInBounds_toArray, List.set_cons_zero, List.set_cons_succ])
    refine wpAnyH_ready (rs := [11]) (by kernel_rfl) (by simp) ?_
    refine AllReadyH.cons (o := { dst := some 76, op := Go.Op.call { callee := Go.Callee.value (Go.Operand.func 7), args := #[Go.Operand.tmp 68, Go.Operand.tmp 75], argTypes := #[27, 27] }, type := 4, pos := "law.go:23", after := #[{ on := 3, ground := Go.Ground.data }, { on := 10, ground := Go.Ground.data }, { on := 10, ground := Go.Ground.chain }, { on := 2, ground := Go.Ground.guard }], guard := some (2, true) }) rfl (fun K hK => ?_) AllReadyH.nil
    go_simp
    refine (same_exN _ _ _ _ _ _ _ _ _ (lies_on FV.out hH1.1.out) HLO.out).mono ?_
    rintro e wS1 ⟨rfl, hS1⟩
    (try go_wp2_with fail)
    refine hK.out _ _ (sn_on gvl gxl hS1 hH1) (fun hH2 => ?_)
    clear hK K hH1 hS1 HLO
    (try simp only [List.setIfInBounds_toArray, List.set_cons_zero, List.set_cons_succ])
    refine wpAnyH_take (i := 12) (oi := { dst := some 77, op := Go.Op.pick (Go.Operand.tmp 67) (Go.Operand.tmp 76) (Go.Operand.const (Go.Value.bool false)), type := 4, pos := "law.go:23", after := #[{ on := 2, ground := Go.Ground.data }, { on := 11, ground := Go.Ground.data }], guard := none }) (v := ?_) rfl (by kernel_rfl) (by kernel_rfl) (by kernel_rfl) (fun _ _ _ h => h) (Or.inl ⟨by rfl, ?_⟩) (by assumption) ?_
    rotate_left
    · (intro w hSw; (try dsimp only at hSw); go_simp; try with_reducible rfl)
    (try simp only [Act.put, List.setIfInBounds_toArray, List.set_cons_zero, List.set_cons_succ])
    refine wpAnyH_take (i := 13) (oi := { dst := some 78, op := Go.Op.move (Go.Operand.tmp 77), type := 4, pos := "law.go:23", after := #[{ on := 12, ground := Go.Ground.data }, { on := 11, ground := Go.Ground.chain }], guard := none }) (v := ?_) rfl (by kernel_rfl) (by kernel_rfl) (by kernel_rfl) (fun _ _ _ h => h) (Or.inl ⟨by rfl, ?_⟩) (by assumption) ?_
    rotate_left
    · (intro w hSw; (try dsimp only at hSw); go_simp; try with_reducible rfl)
    (try simp only [Act.put, List.setIfInBounds_toArray, List.set_cons_zero, List.set_cons_succ])
    refine wpAnyH_take (i := 14) (oi := { dst := some 79, op := Go.Op.move (Go.Operand.tmp 5), type := 4, pos := "law.go:23", after := #[{ on := 13, ground := Go.Ground.guard }], guard := some (13, true) }) (v := ?_) rfl (by kernel_rfl) (by kernel_rfl) (by kernel_rfl) (fun _ _ _ h => h) (Or.inl ⟨by rfl, ?_⟩) (by assumption) ?_
    rotate_left
    · (intro w hSw; (try dsimp only at hSw); go_simp; try with_reducible rfl)
    (try simp only [Act.put, List.setIfInBounds_toArray, List.set_cons_zero, List.set_cons_succ])
    refine wpAnyH_take (i := 15) (oi := { dst := some 80, op := Go.Op.pick (Go.Operand.tmp 78) (Go.Operand.tmp 79) (Go.Operand.const (Go.Value.bool false)), type := 4, pos := "law.go:23", after := #[{ on := 13, ground := Go.Ground.data }, { on := 14, ground := Go.Ground.data }], guard := none }) (v := ?_) rfl (by kernel_rfl) (by kernel_rfl) (by kernel_rfl) (fun _ _ _ h => h) (Or.inl ⟨by rfl, ?_⟩) (by assumption) ?_
    rotate_left
    · (intro w hSw; (try dsimp only at hSw); go_simp; try with_reducible rfl)
    (try simp only [Act.put, List.setIfInBounds_toArray, List.set_cons_zero, List.set_cons_succ])
    refine wpAnyH_take (i := 16) (oi := { dst := some 81, op := Go.Op.move (Go.Operand.tmp 80), type := 4, pos := "law.go:23", after := #[{ on := 15, ground := Go.Ground.data }, { on := 13, ground := Go.Ground.chain }], guard := none }) (v := ?_) rfl (by kernel_rfl) (by kernel_rfl) (by kernel_rfl) (fun _ _ _ h => h) (Or.inl ⟨by rfl, ?_⟩) (by assumption) ?_
    rotate_left
    · (intro w hSw; (try dsimp only at hSw); go_simp; try with_reducible rfl)
    (try simp only [Act.put, List.setIfInBounds_toArray, List.set_cons_zero, List.set_cons_succ])
    refine wpAnyH_take (i := 17) (oi := { dst := some 82, op := Go.Op.move (Go.Operand.tmp 6), type := 28, pos := "law.go:23", after := #[{ on := 16, ground := Go.Ground.guard }], guard := some (16, true) }) (v := ?_) rfl (by kernel_rfl) (by kernel_rfl) (by kernel_rfl) (fun _ _ _ h => h) (Or.inl ⟨by rfl, ?_⟩) (by assumption) ?_
    rotate_left
    · (intro w hSw; (try dsimp only at hSw); go_simp; try with_reducible rfl)
    (try simp only [Act.put, List.setIfInBounds_toArray, List.set_cons_zero, List.set_cons_succ])
    refine wpAnyH_take (i := 18) (oi := { dst := some 83, op := Go.Op.binOp Go.BinOp.eql 28 (Go.Operand.tmp 82) (Go.Operand.const (Go.Value.int Go.IntKind.i64 0)) 28, type := 4, pos := "law.go:23", after := #[{ on := 17, ground := Go.Ground.data }, { on := 16, ground := Go.Ground.guard }], guard := some (16, true) }) (v := ?_) rfl (by kernel_rfl) (by kernel_rfl) (by kernel_rfl) (fun _ _ _ h => h) (Or.inl ⟨by rfl, ?_⟩) (by assumption) ?_
    rotate_left
    · (intro w hSw; (try dsimp only at hSw); go_simp; try with_reducible rfl)
    (try simp only [Act.put, List.setIfInBounds_toArray, List.set_cons_zero, List.set_cons_succ])
    refine wpAnyH_take (i := 19) (oi := { dst := some 84, op := Go.Op.pick (Go.Operand.tmp 81) (Go.Operand.tmp 83) (Go.Operand.const (Go.Value.bool false)), type := 4, pos := "law.go:23", after := #[{ on := 16, ground := Go.Ground.data }, { on := 18, ground := Go.Ground.data }], guard := none }) (v := ?_) rfl (by kernel_rfl) (by kernel_rfl) (by kernel_rfl) (fun _ _ _ h => h) (Or.inl ⟨by rfl, ?_⟩) (by assumption) ?_
    rotate_left
    · (intro w hSw; (try dsimp only at hSw); go_simp; try with_reducible rfl)
    (try simp only [Act.put, List.setIfInBounds_toArray, List.set_cons_zero, List.set_cons_succ])
    refine wpAnyH_take (i := 20) (oi := { dst := some 85, op := Go.Op.move (Go.Operand.tmp 84), type := 4, pos := "law.go:23", after := #[{ on := 19, ground := Go.Ground.data }, { on := 16, ground := Go.Ground.chain }], guard := none }) (v := ?_) rfl (by kernel_rfl) (by kernel_rfl) (by kernel_rfl) (fun _ _ _ h => h) (Or.inl ⟨by rfl, ?_⟩) (by assumption) ?_
    rotate_left
    · (intro w hSw; (try dsimp only at hSw); go_simp; try with_reducible rfl)
    (try simp only [Act.put, List.setIfInBounds_toArray, List.set_cons_zero, List.set_cons_succ])
    refine wpAnyH_take (i := 21) (oi := { dst := some 86, op := Go.Op.load 27 (Go.Operand.tmp 4), type := 27, pos := "law.go:23", after := #[{ on := 20, ground := Go.Ground.guard }], guard := some (20, true) }) (v := ?_) rfl (by kernel_rfl) (by kernel_rfl) (by kernel_rfl) (fun _ _ _ h => h) (Or.inl ⟨by rfl, ?_⟩) (by assumption) ?_
    rotate_left
    · (intro w hSw; (try dsimp only at hSw); go_simp; try with_reducible rfl)
    (try simp only [Act.put, List.setIfInBounds_toArray, List.set_cons_zero, List.set_cons_succ])
    refine wpAnyH_ready (rs := [22]) (by kernel_rfl) (by simp) ?_
    refine AllReadyH.cons (o := { dst := some 87, op := Go.Op.call { callee := Go.Callee.value (Go.Operand.func 11), args := #[Go.Operand.const (Go.Value.int Go.IntKind.i64 1)], argTypes := #[3] }, type := 27, pos := "law.go:23", after := #[{ on := 20, ground := Go.Ground.chain }, { on := 20, ground := Go.Ground.guard }], guard := some (20, true) }) rfl (fun K hK => ?_) AllReadyH.nil
    go_simp
    refine (refInt_any 1 _).mono ?_
    rintro e wI2 ⟨rfl, hI2⟩
    unfold numV
    (try go_wp2_with fail)
    refine hK.out _ _ (sn_on gvl gxl hI2 hH2) (fun hH3 => ?_)
    clear hK K hH2 hI2
    (try simp only [List.setIfInBounds_toArray, List.set_cons_zero, List.set_cons_succ])
    refine wpAnyH_ready (rs := [23]) (by kernel_rfl) (by simp) ?_
    refine AllReadyH.cons (o := { dst := some 88, op := Go.Op.call { callee := Go.Callee.value (Go.Operand.func 7), args := #[Go.Operand.tmp 86, Go.Operand.tmp 87], argTypes := #[27, 27] }, type := 4, pos := "law.go:23", after := #[{ on := 21, ground := Go.Ground.data }, { on := 22, ground := Go.Ground.data }, { on := 22, ground := Go.Ground.chain }, { on := 20, ground := Go.Ground.guard }], guard := some (20, true) }) rfl (fun K hK => ?_) AllReadyH.nil
    go_simp
    refine (same_leafN _ _ _ _ _ (lies_on FX.out hH3.1.out)).mono ?_
    rintro e wS2 ⟨rfl, hS2⟩
    (try go_wp2_with fail)
    refine hK.out _ _ (sn_on gvl gxl hS2 hH3) (fun hH4 => ?_)
    clear hK K hH3 hS2
    (try simp only [List.setIfInBounds_toArray, List.set_cons_zero, List.set_cons_succ])
    refine wpAnyH_take (i := 24) (oi := { dst := some 89, op := Go.Op.pick (Go.Operand.tmp 85) (Go.Operand.tmp 88) (Go.Operand.const (Go.Value.bool false)), type := 4, pos := "law.go:23", after := #[{ on := 20, ground := Go.Ground.data }, { on := 23, ground := Go.Ground.data }], guard := none }) (v := ?_) rfl (by kernel_rfl) (by kernel_rfl) (by kernel_rfl) (fun _ _ _ h => h) (Or.inl ⟨by rfl, ?_⟩) (by assumption) ?_
    rotate_left
    · (intro w hSw; (try dsimp only at hSw); go_simp; try with_reducible rfl)
    (try simp only [Act.put, List.setIfInBounds_toArray, List.set_cons_zero, List.set_cons_succ])
    refine wpAnyH_take (i := 25) (oi := { dst := some 90, op := Go.Op.move (Go.Operand.tmp 89), type := 4, pos := "law.go:23", after := #[{ on := 24, ground := Go.Ground.data }, { on := 23, ground := Go.Ground.chain }], guard := none }) (v := ?_) rfl (by kernel_rfl) (by kernel_rfl) (by kernel_rfl) (fun _ _ _ h => h) (Or.inl ⟨by rfl, ?_⟩) (by assumption) ?_
    rotate_left
    · (intro w hSw; (try dsimp only at hSw); go_simp; try with_reducible rfl)
    (try simp only [Act.put, List.setIfInBounds_toArray, List.set_cons_zero, List.set_cons_succ])
    refine wpAnyH_take (i := 26) (oi := { dst := some 91, op := Go.Op.move (Go.Operand.tmp 8), type := 4, pos := "law.go:23", after := #[{ on := 25, ground := Go.Ground.guard }], guard := some (25, true) }) (v := ?_) rfl (by kernel_rfl) (by kernel_rfl) (by kernel_rfl) (fun _ _ _ h => h) (Or.inl ⟨by rfl, ?_⟩) (by assumption) ?_
    rotate_left
    · (intro w hSw; (try dsimp only at hSw); go_simp; try with_reducible rfl)
    (try simp only [Act.put, List.setIfInBounds_toArray, List.set_cons_zero, List.set_cons_succ])
    refine wpAnyH_take (i := 27) (oi := { dst := some 92, op := Go.Op.unOp Go.UnOp.not 4 (Go.Operand.tmp 91), type := 4, pos := "law.go:23", after := #[{ on := 26, ground := Go.Ground.data }, { on := 25, ground := Go.Ground.guard }], guard := some (25, true) }) (v := ?_) rfl (by kernel_rfl) (by kernel_rfl) (by kernel_rfl) (fun _ _ _ h => h) (Or.inl ⟨by rfl, ?_⟩) (by assumption) ?_
    rotate_left
    · (intro w hSw; (try dsimp only at hSw); go_simp; try with_reducible rfl)
    (try simp only [Act.put, List.setIfInBounds_toArray, List.set_cons_zero, List.set_cons_succ])
    refine wpAnyH_take (i := 28) (oi := { dst := some 93, op := Go.Op.pick (Go.Operand.tmp 90) (Go.Operand.tmp 92) (Go.Operand.const (Go.Value.bool false)), type := 4, pos := "law.go:23", after := #[{ on := 25, ground := Go.Ground.data }, { on := 27, ground := Go.Ground.data }], guard := none }) (v := ?_) rfl (by kernel_rfl) (by kernel_rfl) (by kernel_rfl) (fun _ _ _ h => h) (Or.inl ⟨by rfl, ?_⟩) (by assumption) ?_
    rotate_left
    · (intro w hSw; (try dsimp only at hSw); go_simp; try with_reducible rfl)
    (try simp only [Act.put, List.setIfInBounds_toArray, List.set_cons_zero, List.set_cons_succ])
    refine wpAnyH_take (i := 29) (oi := { dst := some 94, op := Go.Op.move (Go.Operand.tmp 93), type := 4, pos := "law.go:23", after := #[{ on := 28, ground := Go.Ground.data }, { on := 25, ground := Go.Ground.chain }], guard := none }) (v := ?_) rfl (by kernel_rfl) (by kernel_rfl) (by kernel_rfl) (fun _ _ _ h => h) (Or.inl ⟨by rfl, ?_⟩) (by assumption) ?_
    rotate_left
    · (intro w hSw; (try dsimp only at hSw); go_simp; try with_reducible rfl)
    (try simp only [Act.put, List.setIfInBounds_toArray, List.set_cons_zero, List.set_cons_succ])
    refine wpAnyH_take (i := 30) (oi := { dst := some 95, op := Go.Op.move (Go.Operand.tmp 9), type := 28, pos := "law.go:23", after := #[{ on := 29, ground := Go.Ground.guard }], guard := some (29, true) }) (v := ?_) rfl (by kernel_rfl) (by kernel_rfl) (by kernel_rfl) (fun _ _ _ h => h) (Or.inl ⟨by rfl, ?_⟩) (by assumption) ?_
    rotate_left
    · (intro w hSw; (try dsimp only at hSw); go_simp; try with_reducible rfl)
    (try simp only [Act.put, List.setIfInBounds_toArray, List.set_cons_zero, List.set_cons_succ])
    refine wpAnyH_take (i := 31) (oi := { dst := some 96, op := Go.Op.binOp Go.BinOp.eql 28 (Go.Operand.tmp 95) (Go.Operand.const (Go.Value.int Go.IntKind.i64 0)) 28, type := 4, pos := "law.go:23", after := #[{ on := 30, ground := Go.Ground.data }, { on := 29, ground := Go.Ground.guard }], guard := some (29, true) }) (v := ?_) rfl (by kernel_rfl) (by kernel_rfl) (by kernel_rfl) (fun _ _ _ h => h) (Or.inl ⟨by rfl, ?_⟩) (by assumption) ?_
    rotate_left
    · (intro w hSw; (try dsimp only at hSw); go_simp; try with_reducible rfl)
    (try simp only [Act.put, List.setIfInBounds_toArray, List.set_cons_zero, List.set_cons_succ])
    refine wpAnyH_take (i := 32) (oi := { dst := some 97, op := Go.Op.pick (Go.Operand.tmp 94) (Go.Operand.tmp 96) (Go.Operand.const (Go.Value.bool false)), type := 4, pos := "law.go:23", after := #[{ on := 29, ground := Go.Ground.data }, { on := 31, ground := Go.Ground.data }], guard := none }) (v := ?_) rfl (by kernel_rfl) (by kernel_rfl) (by kernel_rfl) (fun _ _ _ h => h) (Or.inl ⟨by rfl, ?_⟩) (by assumption) ?_
    rotate_left
    · (intro w hSw; (try dsimp only at hSw); go_simp; try with_reducible rfl)
    (try simp only [Act.put, List.setIfInBounds_toArray, List.set_cons_zero, List.set_cons_succ])
    refine wpAnyH_take (i := 33) (oi := { dst := some 98, op := Go.Op.move (Go.Operand.tmp 97), type := 4, pos := "law.go:23", after := #[{ on := 32, ground := Go.Ground.data }, { on := 29, ground := Go.Ground.chain }], guard := none }) (v := ?_) rfl (by kernel_rfl) (by kernel_rfl) (by kernel_rfl) (fun _ _ _ h => h) (Or.inl ⟨by rfl, ?_⟩) (by assumption) ?_
    rotate_left
    · (intro w hSw; (try dsimp only at hSw); go_simp; try with_reducible rfl)
    (try simp only [Act.put, List.setIfInBounds_toArray, List.set_cons_zero, List.set_cons_succ])
    refine wpAnyH_take (i := 34) (oi := { dst := some 99, op := Go.Op.move (Go.Operand.tmp 11), type := 28, pos := "law.go:23", after := #[{ on := 33, ground := Go.Ground.guard }], guard := some (33, true) }) (v := ?_) rfl (by kernel_rfl) (by kernel_rfl) (by kernel_rfl) (fun _ _ _ h => h) (Or.inl ⟨by rfl, ?_⟩) (by assumption) ?_
    rotate_left
    · (intro w hSw; (try dsimp only at hSw); go_simp; try with_reducible rfl)
    (try simp only [Act.put, List.setIfInBounds_toArray, List.set_cons_zero, List.set_cons_succ])
    refine wpAnyH_take (i := 35) (oi := { dst := some 100, op := Go.Op.binOp Go.BinOp.eql 28 (Go.Operand.tmp 99) (Go.Operand.const (Go.Value.int Go.IntKind.i64 3)) 28, type := 4, pos := "law.go:23", after := #[{ on := 34, ground := Go.Ground.data }, { on := 33, ground := Go.Ground.guard }], guard := some (33, true) }) (v := ?_) rfl (by kernel_rfl) (by kernel_rfl) (by kernel_rfl) (fun _ _ _ h => h) (Or.inl ⟨by rfl, ?_⟩) (by assumption) ?_
    rotate_left
    · (intro w hSw; (try dsimp only at hSw); go_simp; try with_reducible rfl)
    (try simp only [Act.put, List.setIfInBounds_toArray, List.set_cons_zero, List.set_cons_succ])
    refine wpAnyH_take (i := 36) (oi := { dst := some 101, op := Go.Op.pick (Go.Operand.tmp 98) (Go.Operand.tmp 100) (Go.Operand.const (Go.Value.bool false)), type := 4, pos := "law.go:23", after := #[{ on := 33, ground := Go.Ground.data }, { on := 35, ground := Go.Ground.data }], guard := none }) (v := ?_) rfl (by kernel_rfl) (by kernel_rfl) (by kernel_rfl) (fun _ _ _ h => h) (Or.inl ⟨by rfl, ?_⟩) (by assumption) ?_
    rotate_left
    · (intro w hSw; (try dsimp only at hSw); go_simp; try with_reducible rfl)
    (try simp only [Act.put, List.setIfInBounds_toArray, List.set_cons_zero, List.set_cons_succ])
    refine wpAnyH_take (i := 37) (oi := { dst := some 102, op := Go.Op.move (Go.Operand.tmp 101), type := 4, pos := "law.go:23", after := #[{ on := 36, ground := Go.Ground.data }, { on := 33, ground := Go.Ground.chain }], guard := none }) (v := ?_) rfl (by kernel_rfl) (by kernel_rfl) (by kernel_rfl) (fun _ _ _ h => h) (Or.inl ⟨by rfl, ?_⟩) (by assumption) ?_
    rotate_left
    · (intro w hSw; (try dsimp only at hSw); go_simp; try with_reducible rfl)
    (try simp only [Act.put, List.setIfInBounds_toArray, List.set_cons_zero, List.set_cons_succ])
    refine wpAnyH_take (i := 38) (oi := { dst := some 103, op := Go.Op.move (Go.Operand.tmp 13), type := 28, pos := "law.go:23", after := #[{ on := 37, ground := Go.Ground.guard }], guard := some (37, true) }) (v := ?_) rfl (by kernel_rfl) (by kernel_rfl) (by kernel_rfl) (fun _ _ _ h => h) (Or.inl ⟨by rfl, ?_⟩) (by assumption) ?_
    rotate_left
    · (intro w hSw; (try dsimp only at hSw); go_simp; try with_reducible rfl)
    (try simp only [Act.put, List.setIfInBounds_toArray, List.set_cons_zero, List.set_cons_succ])
    refine wpAnyH_take (i := 39) (oi := { dst := some 104, op := Go.Op.binOp Go.BinOp.eql 28 (Go.Operand.tmp 103) (Go.Operand.const (Go.Value.int Go.IntKind.i64 8)) 28, type := 4, pos := "law.go:23", after := #[{ on := 38, ground := Go.Ground.data }, { on := 37, ground := Go.Ground.guard }], guard := some (37, true) }) (v := ?_) rfl (by kernel_rfl) (by kernel_rfl) (by kernel_rfl) (fun _ _ _ h => h) (Or.inl ⟨by rfl, ?_⟩) (by assumption) ?_
    rotate_left
    · (intro w hSw; (try dsimp only at hSw); go_simp; try with_reducible rfl)
    (try simp only [Act.put, List.setIfInBounds_toArray, List.set_cons_zero, List.set_cons_succ])
    refine wpAnyH_take (i := 40) (oi := { dst := some 105, op := Go.Op.pick (Go.Operand.tmp 102) (Go.Operand.tmp 104) (Go.Operand.const (Go.Value.bool false)), type := 4, pos := "law.go:23", after := #[{ on := 37, ground := Go.Ground.data }, { on := 39, ground := Go.Ground.data }], guard := none }) (v := ?_) rfl (by kernel_rfl) (by kernel_rfl) (by kernel_rfl) (fun _ _ _ h => h) (Or.inl ⟨by rfl, ?_⟩) (by assumption) ?_
    rotate_left
    · (intro w hSw; (try dsimp only at hSw); go_simp; try with_reducible rfl)
    (try simp only [Act.put, List.setIfInBounds_toArray, List.set_cons_zero, List.set_cons_succ])
    refine wpAnyH_take (i := 41) (oi := { dst := some 106, op := Go.Op.move (Go.Operand.tmp 105), type := 4, pos := "law.go:23", after := #[{ on := 40, ground := Go.Ground.data }, { on := 37, ground := Go.Ground.chain }], guard := none }) (v := ?_) rfl (by kernel_rfl) (by kernel_rfl) (by kernel_rfl) (fun _ _ _ h => h) (Or.inl ⟨by rfl, ?_⟩) (by assumption) ?_
    rotate_left
    · (intro w hSw; (try dsimp only at hSw); go_simp; try with_reducible rfl)
    (try simp only [Act.put, List.setIfInBounds_toArray, List.set_cons_zero, List.set_cons_succ])
    refine wpAnyH_take (i := 42) (oi := { dst := some 107, op := Go.Op.move (Go.Operand.tmp 14), type := 9, pos := "law.go:23", after := #[{ on := 41, ground := Go.Ground.guard }], guard := some (41, true) }) (v := ?_) rfl (by kernel_rfl) (by kernel_rfl) (by kernel_rfl) (fun _ _ _ h => h) (Or.inl ⟨by rfl, ?_⟩) (by assumption) ?_
    rotate_left
    · (intro w hSw; (try dsimp only at hSw); go_simp; try with_reducible rfl)
    (try simp only [Act.put, List.setIfInBounds_toArray, List.set_cons_zero, List.set_cons_succ])
    refine wpAnyH_take (i := 43) (oi := { dst := some 108, op := Go.Op.binOp Go.BinOp.eql 9 (Go.Operand.tmp 107) (Go.Operand.const (Go.Value.string { data := #[36, 46, 120, 46, 121, 91, 34, 65, 34, 93] })) 9, type := 4, pos := "law.go:23", after := #[{ on := 42, ground := Go.Ground.data }, { on := 41, ground := Go.Ground.guard }], guard := some (41, true) }) (v := ?_) rfl (by kernel_rfl) (by kernel_rfl) (by kernel_rfl) (fun _ _ _ h => h) (Or.inl ⟨by rfl, ?_⟩) (by assumption) ?_
    rotate_left
    · (intro w hSw; (try dsimp only at hSw); go_simp; try with_reducible rfl)
    (try simp only [Act.put, List.setIfInBounds_toArray, List.set_cons_zero, List.set_cons_succ])
    refine wpAnyH_take (i := 44) (oi := { dst := some 109, op := Go.Op.pick (Go.Operand.tmp 106) (Go.Operand.tmp 108) (Go.Operand.const (Go.Value.bool false)), type := 4, pos := "law.go:23", after := #[{ on := 41, ground := Go.Ground.data }, { on := 43, ground := Go.Ground.data }], guard := none }) (v := ?_) rfl (by kernel_rfl) (by kernel_rfl) (by kernel_rfl) (fun _ _ _ h => h) (Or.inl ⟨by rfl, ?_⟩) (by assumption) ?_
    rotate_left
    · (intro w hSw; (try dsimp only at hSw); go_simp; try with_reducible rfl)
    (try simp only [Act.put, List.setIfInBounds_toArray, List.set_cons_zero, List.set_cons_succ])
    refine wpAnyH_take (i := 45) (oi := { dst := some 110, op := Go.Op.move (Go.Operand.tmp 109), type := 4, pos := "law.go:23", after := #[{ on := 44, ground := Go.Ground.data }, { on := 41, ground := Go.Ground.chain }], guard := none }) (v := ?_) rfl (by kernel_rfl) (by kernel_rfl) (by kernel_rfl) (fun _ _ _ h => h) (Or.inl ⟨by rfl, ?_⟩) (by assumption) ?_
    rotate_left
    · (intro w hSw; (try dsimp only at hSw); go_simp; try with_reducible rfl)
    (try simp only [Act.put, List.setIfInBounds_toArray, List.set_cons_zero, List.set_cons_succ])
    refine wpAnyH_take (i := 46) (oi := { dst := some 111, op := Go.Op.move (Go.Operand.tmp 15), type := 28, pos := "law.go:23", after := #[{ on := 45, ground := Go.Ground.guard }], guard := some (45, true) }) (v := ?_) rfl (by kernel_rfl) (by kernel_rfl) (by kernel_rfl) (fun _ _ _ h => h) (Or.inl ⟨by rfl, ?_⟩) (by assumption) ?_
    rotate_left
    · (intro w hSw; (try dsimp only at hSw); go_simp; try with_reducible rfl)
    (try simp only [Act.put, List.setIfInBounds_toArray, List.set_cons_zero, List.set_cons_succ])
    refine wpAnyH_take (i := 47) (oi := { dst := some 112, op := Go.Op.binOp Go.BinOp.eql 28 (Go.Operand.tmp 111) (Go.Operand.const (Go.Value.int Go.IntKind.i64 0)) 28, type := 4, pos := "law.go:23", after := #[{ on := 46, ground := Go.Ground.data }, { on := 45, ground := Go.Ground.guard }], guard := some (45, true) }) (v := ?_) rfl (by kernel_rfl) (by kernel_rfl) (by kernel_rfl) (fun _ _ _ h => h) (Or.inl ⟨by rfl, ?_⟩) (by assumption) ?_
    rotate_left
    · (intro w hSw; (try dsimp only at hSw); go_simp; try with_reducible rfl)
    (try simp only [Act.put, List.setIfInBounds_toArray, List.set_cons_zero, List.set_cons_succ])
    refine wpAnyH_take (i := 48) (oi := { dst := some 113, op := Go.Op.pick (Go.Operand.tmp 110) (Go.Operand.tmp 112) (Go.Operand.const (Go.Value.bool false)), type := 4, pos := "law.go:23", after := #[{ on := 45, ground := Go.Ground.data }, { on := 47, ground := Go.Ground.data }], guard := none }) (v := ?_) rfl (by kernel_rfl) (by kernel_rfl) (by kernel_rfl) (fun _ _ _ h => h) (Or.inl ⟨by rfl, ?_⟩) (by assumption) ?_
    rotate_left
    · (intro w hSw; (try dsimp only at hSw); go_simp; try with_reducible rfl)
    (try simp only [Act.put, List.setIfInBounds_toArray, List.set_cons_zero, List.set_cons_succ])
    refine wpAnyH_take (i := 49) (oi := { dst := some 0, op := Go.Op.assign (Go.Operand.tmp 113), type := 4, pos := "law.go:23", after := #[{ on := 48, ground := Go.Ground.data }, { on := 45, ground := Go.Ground.chain }, { on := 0, ground := Go.Ground.phase }, { on := 1, ground := Go.Ground.phase }, { on := 2, ground := Go.Ground.phase }, { on := 3, ground := Go.Ground.phase }, { on := 4, ground := Go.Ground.phase }, { on := 5, ground := Go.Ground.phase }, { on := 6, ground := Go.Ground.phase }, { on := 7, ground := Go.Ground.phase }, { on := 8, ground := Go.Ground.phase }, { on := 9, ground := Go.Ground.phase }, { on := 10, ground := Go.Ground.phase }, { on := 11, ground := Go.Ground.phase }, { on := 12, ground := Go.Ground.phase }, { on := 13, ground := Go.Ground.phase }, { on := 14, ground := Go.Ground.phase }, { on := 15, ground := Go.Ground.phase }, { on := 16, ground := Go.Ground.phase }, { on := 17, ground := Go.Ground.phase }, { on := 18, ground := Go.Ground.phase }, { on := 19, ground := Go.Ground.phase }, { on := 20, ground := Go.Ground.phase }, { on := 21, ground := Go.Ground.phase }, { on := 22, ground := Go.Ground.phase }, { on := 23, ground := Go.Ground.phase }, { on := 24, ground := Go.Ground.phase }, { on := 25, ground := Go.Ground.phase }, { on := 26, ground := Go.Ground.phase }, { on := 27, ground := Go.Ground.phase }, { on := 28, ground := Go.Ground.phase }, { on := 29, ground := Go.Ground.phase }, { on := 30, ground := Go.Ground.phase }, { on := 31, ground := Go.Ground.phase }, { on := 32, ground := Go.Ground.phase }, { on := 33, ground := Go.Ground.phase }, { on := 34, ground := Go.Ground.phase }, { on := 35, ground := Go.Ground.phase }, { on := 36, ground := Go.Ground.phase }, { on := 37, ground := Go.Ground.phase }, { on := 38, ground := Go.Ground.phase }, { on := 39, ground := Go.Ground.phase }, { on := 40, ground := Go.Ground.phase }, { on := 41, ground := Go.Ground.phase }, { on := 42, ground := Go.Ground.phase }, { on := 43, ground := Go.Ground.phase }, { on := 44, ground := Go.Ground.phase }, { on := 45, ground := Go.Ground.phase }, { on := 46, ground := Go.Ground.phase }, { on := 47, ground := Go.Ground.phase }, { on := 48, ground := Go.Ground.phase }], guard := none }) (v := ?_) rfl (by kernel_rfl) (by kernel_rfl) (by kernel_rfl) (fun _ _ _ h => h) (Or.inl ⟨by rfl, ?_⟩) (by assumption) ?_
    rotate_left
    · (intro w hSw; (try dsimp only at hSw); go_simp; try with_reducible rfl)
    (try simp only [Act.put, List.setIfInBounds_toArray, List.set_cons_zero, List.set_cons_succ])
    refine wpAnyH_done (by kernel_rfl) ?_ _
    have hB := below_on FB.out hH4.1.out
    clear hH4
    go_wp2_with fail
    go_ret
    exact ⟨rfl, hB⟩
  refine wpAnyH_ready (rs := [4, 5, 6]) (by kernel_rfl) (by simp) ?_
  refine AllReadyH.cons (o := { dst := some 69, op := Go.Op.buildSlice 25 1 #[(0, Go.Operand.const (Go.Value.string { data := #[120] }))], type := 25, pos := "law.go:23", after := #[{ on := 2, ground := Go.Ground.guard }], guard := some (2, true) }) rfl (fun K hK => ?_) ?_
  · go_simp
    refine hK.out _ _ (sn_on gvl gxl (below_al (Below.refl _ _) _) hH0) (fun hH1 => ?_)
    clear hK K
    (try simp only [Act.put, List.setIfInBounds_toArray, List.set_cons_zero, List.set_cons_succ])
    refine wpAnyH_ready (rs := [5, 6]) (by kernel_rfl) (by simp) ?_
    refine AllReadyH.cons (o := { dst := some 70, op := Go.Op.buildSlice 25 1 #[(0, Go.Operand.const (Go.Value.string { data := #[121] }))], type := 25, pos := "law.go:23", after := #[{ on := 2, ground := Go.Ground.guard }], guard := some (2, true) }) rfl (fun K hK => ?_) ?_
    · go_simp
      refine hK.out _ _ (sn_on gvl gxl (below_al (Below.refl _ _) _) hH1) (fun hH2 => ?_)
      clear hK K
      (try simp only [Act.put, List.setIfInBounds_toArray, List.set_cons_zero, List.set_cons_succ])
      refine wpAnyH_ready (rs := [6]) (by kernel_rfl) (by simp) ?_
      refine AllReadyH.cons (o := { dst := some 71, op := Go.Op.call { callee := Go.Callee.value (Go.Operand.func 11), args := #[Go.Operand.const (Go.Value.int Go.IntKind.i64 1)], argTypes := #[3] }, type := 27, pos := "law.go:23", after := #[{ on := 2, ground := Go.Ground.chain }, { on := 2, ground := Go.Ground.guard }], guard := some (2, true) }) rfl (fun K hK => ?_) AllReadyH.nil
      go_simp
      refine (refInt_any 1 _).mono ?_
      rintro e wI1 ⟨rfl, hI1⟩
      unfold numV
      (try go_wp2_with fail)
      refine hK.out _ _ (sn_on gvl gxl hI1 hH2) (fun hH3 => ?_)
      clear hK K
      (try simp only [Act.put, List.setIfInBounds_toArray, List.set_cons_zero, List.set_cons_succ])
      refine wpAnyH_ready (rs := [7]) (by kernel_rfl) (by simp) ?_
      refine AllReadyH.cons (o := { dst := some 72, op := Go.Op.buildSlice 24 1 #[(0, Go.Operand.tmp 71)], type := 24, pos := "law.go:23", after := #[{ on := 6, ground := Go.Ground.data }, { on := 2, ground := Go.Ground.guard }], guard := some (2, true) }) rfl (fun K hK => ?_) AllReadyH.nil
      go_simp
      refine hK.out _ _ (sn_on gvl gxl (below_al (Below.refl _ _) _) hH3) (fun hH4 => ?_)
      clear hK K
      (try simp only [Act.put, List.setIfInBounds_toArray, List.set_cons_zero, List.set_cons_succ])
      refine wpAnyH_ready (rs := [8]) (by kernel_rfl) (by simp) ?_
      refine AllReadyH.cons (o := { dst := some 73, op := Go.Op.call { callee := Go.Callee.value (Go.Operand.func 15), args := #[Go.Operand.tmp 70, Go.Operand.tmp 72], argTypes := #[25, 24] }, type := 27, pos := "law.go:23", after := #[{ on := 5, ground := Go.Ground.data }, { on := 7, ground := Go.Ground.data }, { on := 6, ground := Go.Ground.chain }, { on := 2, ground := Go.Ground.guard }], guard := some (2, true) }) rfl (fun K hK => ?_) AllReadyH.nil
      go_simp
      refine (refObject_any _ _ _ _ _ _ _).mono ?_
      rintro e wO1 ⟨rfl, hO1⟩
      (try go_wp2_with fail)
      refine hK.out _ _ (sn_on gvl gxl hO1 hH4) (fun hH5 => ?_)
      clear hK K
      (try simp only [Act.put, List.setIfInBounds_toArray, List.set_cons_zero, List.set_cons_succ])
      refine wpAnyH_ready (rs := [9]) (by kernel_rfl) (by simp) ?_
      refine AllReadyH.cons (o := { dst := some 74, op := Go.Op.buildSlice 24 1 #[(0, Go.Operand.tmp 73)], type := 24, pos := "law.go:23", after := #[{ on := 8, ground := Go.Ground.data }, { on := 2, ground := Go.Ground.guard }], guard := some (2, true) }) rfl (fun K hK => ?_) AllReadyH.nil
      go_simp
      refine hK.out _ _ (sn_on gvl gxl (below_al (Below.refl _ _) _) hH5) (fun hH6 => ?_)
      clear hK K
      (try simp only [Act.put, List.setIfInBounds_toArray, List.set_cons_zero, List.set_cons_succ])
      refine wpAnyH_ready (rs := [10]) (by kernel_rfl) (by simp) ?_
      refine AllReadyH.cons (o := { dst := some 75, op := Go.Op.call { callee := Go.Callee.value (Go.Operand.func 15), args := #[Go.Operand.tmp 69, Go.Operand.tmp 74], argTypes := #[25, 24] }, type := 27, pos := "law.go:23", after := #[{ on := 4, ground := Go.Ground.data }, { on := 9, ground := Go.Ground.data }, { on := 8, ground := Go.Ground.chain }, { on := 2, ground := Go.Ground.guard }], guard := some (2, true) }) rfl (fun K hK => ?_) AllReadyH.nil
      go_simp
      refine (refObject_any _ _ _ _ _ _ _).mono ?_
      rintro e wO2 ⟨rfl, hO2⟩
      (try go_wp2_with fail)
      refine hK.out _ _ (sn_on gvl gxl hO2 hH6) (fun hH7 => ?_)
      clear hK K
      (try simp only [Act.put, List.setIfInBounds_toArray, List.set_cons_zero, List.set_cons_succ])
      refine' TAIL.out _ _ ⟨_, _, _, _, _, _, _, _, ?_, ?_⟩ hH7
      rotate_left 8
      · (simp only [Act.put, List.setIfInBounds_toArray, List.set_cons_zero, List.set_cons_succ]) <;> rfl
      · exact lies_exN (by repeat (first | with_reducible exact BlockIs.new _ _ _ | with_reducible exact BlockIs.newAt _ _ _ (by simp) | with_reducible refine bi_on ?_ hO2 | with_reducible refine bi_on ?_ hO1 | with_reducible refine bi_on ?_ hI1 | with_reducible refine bi_al ?_ _ | with_reducible refine bi_drew ?_)) (by repeat (first | with_reducible exact BlockIs.new _ _ _ | with_reducible exact BlockIs.newAt _ _ _ (by simp) | with_reducible refine bi_on ?_ hO2 | with_reducible refine bi_on ?_ hO1 | with_reducible refine bi_on ?_ hI1 | with_reducible refine bi_al ?_ _ | with_reducible refine bi_drew ?_)) (by repeat (first | with_reducible exact BlockIs.new _ _ _ | with_reducible exact BlockIs.newAt _ _ _ (by simp) | with_reducible refine bi_on ?_ hO2 | with_reducible refine bi_on ?_ hO1 | with_reducible refine bi_on ?_ hI1 | with_reducible refine bi_al ?_ _ | with_reducible refine bi_drew ?_)) (by repeat (first | with_reducible exact BlockIs.new _ _ _ | with_reducible exact BlockIs.newAt _ _ _ (by simp) | with_reducible refine bi_on ?_ hO2 | with_reducible refine bi_on ?_ hO1 | with_reducible refine bi_on ?_ hI1 | with_reducible refine bi_al ?_ _ | with_reducible refine bi_drew ?_))
    refine AllReadyH.cons (o := { dst := some 71, op := Go.Op.call { callee := Go.Callee.value (Go.Operand.func 11), args := #[Go.Operand.const (Go.Value.int Go.IntKind.i64 1)], argTypes := #[3] }, type := 27, pos := "law.go:23", after := #[{ on := 2, ground := Go.Ground.chain }, { on := 2, ground := Go.Ground.guard }], guard := some (2, true) }) rfl (fun K hK => ?_) AllReadyH.nil
    go_simp
    refine (refInt_any 1 _).mono ?_
    rintro e wI1 ⟨rfl, hI1⟩
    unfold numV
    (try go_wp2_with fail)
    refine hK.out _ _ (sn_on gvl gxl hI1 hH1) (fun hH2 => ?_)
    clear hK K
    (try simp only [Act.put, List.setIfInBounds_toArray, List.set_cons_zero, List.set_cons_succ])
    refine wpAnyH_ready (rs := [5, 7]) (by kernel_rfl) (by simp) ?_
    refine AllReadyH.cons (o := { dst := some 70, op := Go.Op.buildSlice 25 1 #[(0, Go.Operand.const (Go.Value.string { data := #[121] }))], type := 25, pos := "law.go:23", after := #[{ on := 2, ground := Go.Ground.guard }], guard := some (2, true) }) rfl (fun K hK => ?_) ?_
    · go_simp
      refine hK.out _ _ (sn_on gvl gxl (below_al (Below.refl _ _) _) hH2) (fun hH3 => ?_)
      clear hK K
      (try simp only [Act.put, List.setIfInBounds_toArray, List.set_cons_zero, List.set_cons_succ])
      refine wpAnyH_ready (rs := [7]) (by kernel_rfl) (by simp) ?_
      refine AllReadyH.cons (o := { dst := some 72, op := Go.Op.buildSlice 24 1 #[(0, Go.Operand.tmp 71)], type := 24, pos := "law.go:23", after := #[{ on := 6, ground := Go.Ground.data }, { on := 2, ground := Go.Ground.guard }], guard := some (2, true) }) rfl (fun K hK => ?_) AllReadyH.nil
      go_simp
      refine hK.out _ _ (sn_on gvl gxl (below_al (Below.refl _ _) _) hH3) (fun hH4 => ?_)
      clear hK K
      (try simp only [Act.put, List.setIfInBounds_toArray, List.set_cons_zero, List.set_cons_succ])
      refine wpAnyH_ready (rs := [8]) (by kernel_rfl) (by simp) ?_
      refine AllReadyH.cons (o := { dst := some 73, op := Go.Op.call { callee := Go.Callee.value (Go.Operand.func 15), args := #[Go.Operand.tmp 70, Go.Operand.tmp 72], argTypes := #[25, 24] }, type := 27, pos := "law.go:23", after := #[{ on := 5, ground := Go.Ground.data }, { on := 7, ground := Go.Ground.data }, { on := 6, ground := Go.Ground.chain }, { on := 2, ground := Go.Ground.guard }], guard := some (2, true) }) rfl (fun K hK => ?_) AllReadyH.nil
      go_simp
      refine (refObject_any _ _ _ _ _ _ _).mono ?_
      rintro e wO1 ⟨rfl, hO1⟩
      (try go_wp2_with fail)
      refine hK.out _ _ (sn_on gvl gxl hO1 hH4) (fun hH5 => ?_)
      clear hK K
      (try simp only [Act.put, List.setIfInBounds_toArray, List.set_cons_zero, List.set_cons_succ])
      refine wpAnyH_ready (rs := [9]) (by kernel_rfl) (by simp) ?_
      refine AllReadyH.cons (o := { dst := some 74, op := Go.Op.buildSlice 24 1 #[(0, Go.Operand.tmp 73)], type := 24, pos := "law.go:23", after := #[{ on := 8, ground := Go.Ground.data }, { on := 2, ground := Go.Ground.guard }], guard := some (2, true) }) rfl (fun K hK => ?_) AllReadyH.nil
      go_simp
      refine hK.out _ _ (sn_on gvl gxl (below_al (Below.refl _ _) _) hH5) (fun hH6 => ?_)
      clear hK K
      (try simp only [Act.put, List.setIfInBounds_toArray, List.set_cons_zero, List.set_cons_succ])
      refine wpAnyH_ready (rs := [10]) (by kernel_rfl) (by simp) ?_
      refine AllReadyH.cons (o := { dst := some 75, op := Go.Op.call { callee := Go.Callee.value (Go.Operand.func 15), args := #[Go.Operand.tmp 69, Go.Operand.tmp 74], argTypes := #[25, 24] }, type := 27, pos := "law.go:23", after := #[{ on := 4, ground := Go.Ground.data }, { on := 9, ground := Go.Ground.data }, { on := 8, ground := Go.Ground.chain }, { on := 2, ground := Go.Ground.guard }], guard := some (2, true) }) rfl (fun K hK => ?_) AllReadyH.nil
      go_simp
      refine (refObject_any _ _ _ _ _ _ _).mono ?_
      rintro e wO2 ⟨rfl, hO2⟩
      (try go_wp2_with fail)
      refine hK.out _ _ (sn_on gvl gxl hO2 hH6) (fun hH7 => ?_)
      clear hK K
      (try simp only [Act.put, List.setIfInBounds_toArray, List.set_cons_zero, List.set_cons_succ])
      refine' TAIL.out _ _ ⟨_, _, _, _, _, _, _, _, ?_, ?_⟩ hH7
      rotate_left 8
      · (simp only [Act.put, List.setIfInBounds_toArray, List.set_cons_zero, List.set_cons_succ]) <;> rfl
      · exact lies_exN (by repeat (first | with_reducible exact BlockIs.new _ _ _ | with_reducible exact BlockIs.newAt _ _ _ (by simp) | with_reducible refine bi_on ?_ hO2 | with_reducible refine bi_on ?_ hO1 | with_reducible refine bi_on ?_ hI1 | with_reducible refine bi_al ?_ _ | with_reducible refine bi_drew ?_)) (by repeat (first | with_reducible exact BlockIs.new _ _ _ | with_reducible exact BlockIs.newAt _ _ _ (by simp) | with_reducible refine bi_on ?_ hO2 | with_reducible refine bi_on ?_ hO1 | with_reducible refine bi_on ?_ hI1 | with_reducible refine bi_al ?_ _ | with_reducible refine bi_drew ?_)) (by repeat (first | with_reducible exact BlockIs.new _ _ _ | with_reducible exact BlockIs.newAt _ _ _ (by simp) | with_reducible refine bi_on ?_ hO2 | with_reducible refine bi_on ?_ hO1 | with_reducible refine bi_on ?_ hI1 | with_reducible refine bi_al ?_ _ | with_reducible refine bi_drew ?_)) (by repeat (first | with_reducible exact BlockIs.new _ _ _ | with_reducible exact BlockIs.newAt _ _ _ (by simp) | with_reducible refine bi_on ?_ hO2 | with_reducible refine bi_on ?_ hO1 | with_reducible refine bi_on ?_ hI1 | with_reducible refine bi_al ?_ _ | with_reducible refine bi_drew ?_))
    refine AllReadyH.cons (o := { dst := some 72, op := Go.Op.buildSlice 24 1 #[(0, Go.Operand.tmp 71)], type := 24, pos := "law.go:23", after := #[{ on := 6, ground := Go.Ground.data }, { on := 2, ground := Go.Ground.guard }], guard := some (2, true) }) rfl (fun K hK => ?_) AllReadyH.nil
    go_simp
    refine hK.out _ _ (sn_on gvl gxl (below_al (Below.refl _ _) _) hH2) (fun hH3 => ?_)
    clear hK K
    (try simp only [Act.put, List.setIfInBounds_toArray, List.set_cons_zero, List.set_cons_succ])
    refine wpAnyH_ready (rs := [5]) (by kernel_rfl) (by simp) ?_
    refine AllReadyH.cons (o := { dst := some 70, op := Go.Op.buildSlice 25 1 #[(0, Go.Operand.const (Go.Value.string { data := #[121] }))], type := 25, pos := "law.go:23", after := #[{ on := 2, ground := Go.Ground.guard }], guard := some (2, true) }) rfl (fun K hK => ?_) AllReadyH.nil
    go_simp
    refine hK.out _ _ (sn_on gvl gxl (below_al (Below.refl _ _) _) hH3) (fun hH4 => ?_)
    clear hK K
    (try simp only [Act.put, List.setIfInBounds_toArray, List.set_cons_zero, List.set_cons_succ])
    refine wpAnyH_ready (rs := [8]) (by kernel_rfl) (by simp) ?_
    refine AllReadyH.cons (o := { dst := some 73, op := Go.Op.call { callee := Go.Callee.value (Go.Operand.func 15), args := #[Go.Operand.tmp 70, Go.Operand.tmp 72], argTypes := #[25, 24] }, type := 27, pos := "law.go:23", after := #[{ on := 5, ground := Go.Ground.data }, { on := 7, ground := Go.Ground.data }, { on := 6, ground := Go.Ground.chain }, { on := 2, ground := Go.Ground.guard }], guard := some (2, true) }) rfl (fun K hK => ?_) AllReadyH.nil
    go_simp
    refine (refObject_any _ _ _ _ _ _ _).mono ?_
    rintro e wO1 ⟨rfl, hO1⟩
    (try go_wp2_with fail)
    refine hK.out _ _ (sn_on gvl gxl hO1 hH4) (fun hH5 => ?_)
    clear hK K
    (try simp only [Act.put, List.setIfInBounds_toArray, List.set_cons_zero, List.set_cons_succ])
    refine wpAnyH_ready (rs := [9]) (by kernel_rfl) (by simp) ?_
    refine AllReadyH.cons (o := { dst := some 74, op := Go.Op.buildSlice 24 1 #[(0, Go.Operand.tmp 73)], type := 24, pos := "law.go:23", after := #[{ on := 8, ground := Go.Ground.data }, { on := 2, ground := Go.Ground.guard }], guard := some (2, true) }) rfl (fun K hK => ?_) AllReadyH.nil
    go_simp
    refine hK.out _ _ (sn_on gvl gxl (below_al (Below.refl _ _) _) hH5) (fun hH6 => ?_)
    clear hK K
    (try simp only [Act.put, List.setIfInBounds_toArray, List.set_cons_zero, List.set_cons_succ])
    refine wpAnyH_ready (rs := [10]) (by kernel_rfl) (by simp) ?_
    refine AllReadyH.cons (o := { dst := some 75, op := Go.Op.call { callee := Go.Callee.value (Go.Operand.func 15), args := #[Go.Operand.tmp 69, Go.Operand.tmp 74], argTypes := #[25, 24] }, type := 27, pos := "law.go:23", after := #[{ on := 4, ground := Go.Ground.data }, { on := 9, ground := Go.Ground.data }, { on := 8, ground := Go.Ground.chain }, { on := 2, ground := Go.Ground.guard }], guard := some (2, true) }) rfl (fun K hK => ?_) AllReadyH.nil
    go_simp
    refine (refObject_any _ _ _ _ _ _ _).mono ?_
    rintro e wO2 ⟨rfl, hO2⟩
    (try go_wp2_with fail)
    refine hK.out _ _ (sn_on gvl gxl hO2 hH6) (fun hH7 => ?_)
    clear hK K
    (try simp only [Act.put, List.setIfInBounds_toArray, List.set_cons_zero, List.set_cons_succ])
    refine' TAIL.out _ _ ⟨_, _, _, _, _, _, _, _, ?_, ?_⟩ hH7
    rotate_left 8
    · (simp only [Act.put, List.setIfInBounds_toArray, List.set_cons_zero, List.set_cons_succ]) <;> rfl
    · exact lies_exN (by repeat (first | with_reducible exact BlockIs.new _ _ _ | with_reducible exact BlockIs.newAt _ _ _ (by simp) | with_reducible refine bi_on ?_ hO2 | with_reducible refine bi_on ?_ hO1 | with_reducible refine bi_on ?_ hI1 | with_reducible refine bi_al ?_ _ | with_reducible refine bi_drew ?_)) (by repeat (first | with_reducible exact BlockIs.new _ _ _ | with_reducible exact BlockIs.newAt _ _ _ (by simp) | with_reducible refine bi_on ?_ hO2 | with_reducible refine bi_on ?_ hO1 | with_reducible refine bi_on ?_ hI1 | with_reducible refine bi_al ?_ _ | with_reducible refine bi_drew ?_)) (by repeat (first | with_reducible exact BlockIs.new _ _ _ | with_reducible exact BlockIs.newAt _ _ _ (by simp) | with_reducible refine bi_on ?_ hO2 | with_reducible refine bi_on ?_ hO1 | with_reducible refine bi_on ?_ hI1 | with_reducible refine bi_al ?_ _ | with_reducible refine bi_drew ?_)) (by repeat (first | with_reducible exact BlockIs.new _ _ _ | with_reducible exact BlockIs.newAt _ _ _ (by simp) | with_reducible refine bi_on ?_ hO2 | with_reducible refine bi_on ?_ hO1 | with_reducible refine bi_on ?_ hI1 | with_reducible refine bi_al ?_ _ | with_reducible refine bi_drew ?_))
  refine AllReadyH.cons (o := { dst := some 70, op := Go.Op.buildSlice 25 1 #[(0, Go.Operand.const (Go.Value.string { data := #[121] }))], type := 25, pos := "law.go:23", after := #[{ on := 2, ground := Go.Ground.guard }], guard := some (2, true) }) rfl (fun K hK => ?_) ?_
  · go_simp
    refine hK.out _ _ (sn_on gvl gxl (below_al (Below.refl _ _) _) hH0) (fun hH1 => ?_)
    clear hK K
    (try simp only [Act.put, List.setIfInBounds_toArray, List.set_cons_zero, List.set_cons_succ])
    refine wpAnyH_ready (rs := [4, 6]) (by kernel_rfl) (by simp) ?_
    refine AllReadyH.cons (o := { dst := some 69, op := Go.Op.buildSlice 25 1 #[(0, Go.Operand.const (Go.Value.string { data := #[120] }))], type := 25, pos := "law.go:23", after := #[{ on := 2, ground := Go.Ground.guard }], guard := some (2, true) }) rfl (fun K hK => ?_) ?_
    · go_simp
      refine hK.out _ _ (sn_on gvl gxl (below_al (Below.refl _ _) _) hH1) (fun hH2 => ?_)
      clear hK K
      (try simp only [Act.put, List.setIfInBounds_toArray, List.set_cons_zero, List.set_cons_succ])
      refine wpAnyH_ready (rs := [6]) (by kernel_rfl) (by simp) ?_
      refine AllReadyH.cons (o := { dst := some 71, op := Go.Op.call { callee := Go.Callee.value (Go.Operand.func 11), args := #[Go.Operand.const (Go.Value.int Go.IntKind.i64 1)], argTypes := #[3] }, type := 27, pos := "law.go:23", after := #[{ on := 2, ground := Go.Ground.chain }, { on := 2, ground := Go.Ground.guard }], guard := some (2, true) }) rfl (fun K hK => ?_) AllReadyH.nil
      go_simp
      refine (refInt_any 1 _).mono ?_
      rintro e wI1 ⟨rfl, hI1⟩
      unfold numV
      (try go_wp2_with fail)
      refine hK.out _ _ (sn_on gvl gxl hI1 hH2) (fun hH3 => ?_)
      clear hK K
      (try simp only [Act.put, List.setIfInBounds_toArray, List.set_cons_zero, List.set_cons_succ])
      refine wpAnyH_ready (rs := [7]) (by kernel_rfl) (by simp) ?_
      refine AllReadyH.cons (o := { dst := some 72, op := Go.Op.buildSlice 24 1 #[(0, Go.Operand.tmp 71)], type := 24, pos := "law.go:23", after := #[{ on := 6, ground := Go.Ground.data }, { on := 2, ground := Go.Ground.guard }], guard := some (2, true) }) rfl (fun K hK => ?_) AllReadyH.nil
      go_simp
      refine hK.out _ _ (sn_on gvl gxl (below_al (Below.refl _ _) _) hH3) (fun hH4 => ?_)
      clear hK K
      (try simp only [Act.put, List.setIfInBounds_toArray, List.set_cons_zero, List.set_cons_succ])
      refine wpAnyH_ready (rs := [8]) (by kernel_rfl) (by simp) ?_
      refine AllReadyH.cons (o := { dst := some 73, op := Go.Op.call { callee := Go.Callee.value (Go.Operand.func 15), args := #[Go.Operand.tmp 70, Go.Operand.tmp 72], argTypes := #[25, 24] }, type := 27, pos := "law.go:23", after := #[{ on := 5, ground := Go.Ground.data }, { on := 7, ground := Go.Ground.data }, { on := 6, ground := Go.Ground.chain }, { on := 2, ground := Go.Ground.guard }], guard := some (2, true) }) rfl (fun K hK => ?_) AllReadyH.nil
      go_simp
      refine (refObject_any _ _ _ _ _ _ _).mono ?_
      rintro e wO1 ⟨rfl, hO1⟩
      (try go_wp2_with fail)
      refine hK.out _ _ (sn_on gvl gxl hO1 hH4) (fun hH5 => ?_)
      clear hK K
      (try simp only [Act.put, List.setIfInBounds_toArray, List.set_cons_zero, List.set_cons_succ])
      refine wpAnyH_ready (rs := [9]) (by kernel_rfl) (by simp) ?_
      refine AllReadyH.cons (o := { dst := some 74, op := Go.Op.buildSlice 24 1 #[(0, Go.Operand.tmp 73)], type := 24, pos := "law.go:23", after := #[{ on := 8, ground := Go.Ground.data }, { on := 2, ground := Go.Ground.guard }], guard := some (2, true) }) rfl (fun K hK => ?_) AllReadyH.nil
      go_simp
      refine hK.out _ _ (sn_on gvl gxl (below_al (Below.refl _ _) _) hH5) (fun hH6 => ?_)
      clear hK K
      (try simp only [Act.put, List.setIfInBounds_toArray, List.set_cons_zero, List.set_cons_succ])
      refine wpAnyH_ready (rs := [10]) (by kernel_rfl) (by simp) ?_
      refine AllReadyH.cons (o := { dst := some 75, op := Go.Op.call { callee := Go.Callee.value (Go.Operand.func 15), args := #[Go.Operand.tmp 69, Go.Operand.tmp 74], argTypes := #[25, 24] }, type := 27, pos := "law.go:23", after := #[{ on := 4, ground := Go.Ground.data }, { on := 9, ground := Go.Ground.data }, { on := 8, ground := Go.Ground.chain }, { on := 2, ground := Go.Ground.guard }], guard := some (2, true) }) rfl (fun K hK => ?_) AllReadyH.nil
      go_simp
      refine (refObject_any _ _ _ _ _ _ _).mono ?_
      rintro e wO2 ⟨rfl, hO2⟩
      (try go_wp2_with fail)
      refine hK.out _ _ (sn_on gvl gxl hO2 hH6) (fun hH7 => ?_)
      clear hK K
      (try simp only [Act.put, List.setIfInBounds_toArray, List.set_cons_zero, List.set_cons_succ])
      refine' TAIL.out _ _ ⟨_, _, _, _, _, _, _, _, ?_, ?_⟩ hH7
      rotate_left 8
      · (simp only [Act.put, List.setIfInBounds_toArray, List.set_cons_zero, List.set_cons_succ]) <;> rfl
      · exact lies_exN (by repeat (first | with_reducible exact BlockIs.new _ _ _ | with_reducible exact BlockIs.newAt _ _ _ (by simp) | with_reducible refine bi_on ?_ hO2 | with_reducible refine bi_on ?_ hO1 | with_reducible refine bi_on ?_ hI1 | with_reducible refine bi_al ?_ _ | with_reducible refine bi_drew ?_)) (by repeat (first | with_reducible exact BlockIs.new _ _ _ | with_reducible exact BlockIs.newAt _ _ _ (by simp) | with_reducible refine bi_on ?_ hO2 | with_reducible refine bi_on ?_ hO1 | with_reducible refine bi_on ?_ hI1 | with_reducible refine bi_al ?_ _ | with_reducible refine bi_drew ?_)) (by repeat (first | with_reducible exact BlockIs.new _ _ _ | with_reducible exact BlockIs.newAt _ _ _ (by simp) | with_reducible refine bi_on ?_ hO2 | with_reducible refine bi_on ?_ hO1 | with_reducible refine bi_on ?_ hI1 | with_reducible refine bi_al ?_ _ | with_reducible refine bi_drew ?_)) (by repeat (first | with_reducible exact BlockIs.new _ _ _ | with_reducible exact BlockIs.newAt _ _ _ (by simp) | with_reducible refine bi_on ?_ hO2 | with_reducible refine bi_on ?_ hO1 | with_reducible refine bi_on ?_ hI1 | with_reducible refine bi_al ?_ _ | with_reducible refine bi_drew ?_))
    refine AllReadyH.cons (o := { dst := some 71, op := Go.Op.call { callee := Go.Callee.value (Go.Operand.func 11), args := #[Go.Operand.const (Go.Value.int Go.IntKind.i64 1)], argTypes := #[3] }, type := 27, pos := "law.go:23", after := #[{ on := 2, ground := Go.Ground.chain }, { on := 2, ground := Go.Ground.guard }], guard := some (2, true) }) rfl (fun K hK => ?_) AllReadyH.nil
    go_simp
    refine (refInt_any 1 _).mono ?_
    rintro e wI1 ⟨rfl, hI1⟩
    unfold numV
    (try go_wp2_with fail)
    refine hK.out _ _ (sn_on gvl gxl hI1 hH1) (fun hH2 => ?_)
    clear hK K
    (try simp only [Act.put, List.setIfInBounds_toArray, List.set_cons_zero, List.set_cons_succ])
    refine wpAnyH_ready (rs := [4, 7]) (by kernel_rfl) (by simp) ?_
    refine AllReadyH.cons (o := { dst := some 69, op := Go.Op.buildSlice 25 1 #[(0, Go.Operand.const (Go.Value.string { data := #[120] }))], type := 25, pos := "law.go:23", after := #[{ on := 2, ground := Go.Ground.guard }], guard := some (2, true) }) rfl (fun K hK => ?_) ?_
    · go_simp
      refine hK.out _ _ (sn_on gvl gxl (below_al (Below.refl _ _) _) hH2) (fun hH3 => ?_)
      clear hK K
      (try simp only [Act.put, List.setIfInBounds_toArray, List.set_cons_zero, List.set_cons_succ])
      refine wpAnyH_ready (rs := [7]) (by kernel_rfl) (by simp) ?_
      refine AllReadyH.cons (o := { dst := some 72, op := Go.Op.buildSlice 24 1 #[(0, Go.Operand.tmp 71)], type := 24, pos := "law.go:23", after := #[{ on := 6, ground := Go.Ground.data }, { on := 2, ground := Go.Ground.guard }], guard := some (2, true) }) rfl (fun K hK => ?_) AllReadyH.nil
      go_simp
      refine hK.out _ _ (sn_on gvl gxl (below_al (Below.refl _ _) _) hH3) (fun hH4 => ?_)
      clear hK K
      (try simp only [Act.put, List.setIfInBounds_toArray, List.set_cons_zero, List.set_cons_succ])
      refine wpAnyH_ready (rs := [8]) (by kernel_rfl) (by simp) ?_
      refine AllReadyH.cons (o := { dst := some 73, op := Go.Op.call { callee := Go.Callee.value (Go.Operand.func 15), args := #[Go.Operand.tmp 70, Go.Operand.tmp 72], argTypes := #[25, 24] }, type := 27, pos := "law.go:23", after := #[{ on := 5, ground := Go.Ground.data }, { on := 7, ground := Go.Ground.data }, { on := 6, ground := Go.Ground.chain }, { on := 2, ground := Go.Ground.guard }], guard := some (2, true) }) rfl (fun K hK => ?_) AllReadyH.nil
      go_simp
      refine (refObject_any _ _ _ _ _ _ _).mono ?_
      rintro e wO1 ⟨rfl, hO1⟩
      (try go_wp2_with fail)
      refine hK.out _ _ (sn_on gvl gxl hO1 hH4) (fun hH5 => ?_)
      clear hK K
      (try simp only [Act.put, List.setIfInBounds_toArray, List.set_cons_zero, List.set_cons_succ])
      refine wpAnyH_ready (rs := [9]) (by kernel_rfl) (by simp) ?_
      refine AllReadyH.cons (o := { dst := some 74, op := Go.Op.buildSlice 24 1 #[(0, Go.Operand.tmp 73)], type := 24, pos := "law.go:23", after := #[{ on := 8, ground := Go.Ground.data }, { on := 2, ground := Go.Ground.guard }], guard := some (2, true) }) rfl (fun K hK => ?_) AllReadyH.nil
      go_simp
      refine hK.out _ _ (sn_on gvl gxl (below_al (Below.refl _ _) _) hH5) (fun hH6 => ?_)
      clear hK K
      (try simp only [Act.put, List.setIfInBounds_toArray, List.set_cons_zero, List.set_cons_succ])
      refine wpAnyH_ready (rs := [10]) (by kernel_rfl) (by simp) ?_
      refine AllReadyH.cons (o := { dst := some 75, op := Go.Op.call { callee := Go.Callee.value (Go.Operand.func 15), args := #[Go.Operand.tmp 69, Go.Operand.tmp 74], argTypes := #[25, 24] }, type := 27, pos := "law.go:23", after := #[{ on := 4, ground := Go.Ground.data }, { on := 9, ground := Go.Ground.data }, { on := 8, ground := Go.Ground.chain }, { on := 2, ground := Go.Ground.guard }], guard := some (2, true) }) rfl (fun K hK => ?_) AllReadyH.nil
      go_simp
      refine (refObject_any _ _ _ _ _ _ _).mono ?_
      rintro e wO2 ⟨rfl, hO2⟩
      (try go_wp2_with fail)
      refine hK.out _ _ (sn_on gvl gxl hO2 hH6) (fun hH7 => ?_)
      clear hK K
      (try simp only [Act.put, List.setIfInBounds_toArray, List.set_cons_zero, List.set_cons_succ])
      refine' TAIL.out _ _ ⟨_, _, _, _, _, _, _, _, ?_, ?_⟩ hH7
      rotate_left 8
      · (simp only [Act.put, List.setIfInBounds_toArray, List.set_cons_zero, List.set_cons_succ]) <;> rfl
      · exact lies_exN (by repeat (first | with_reducible exact BlockIs.new _ _ _ | with_reducible exact BlockIs.newAt _ _ _ (by simp) | with_reducible refine bi_on ?_ hO2 | with_reducible refine bi_on ?_ hO1 | with_reducible refine bi_on ?_ hI1 | with_reducible refine bi_al ?_ _ | with_reducible refine bi_drew ?_)) (by repeat (first | with_reducible exact BlockIs.new _ _ _ | with_reducible exact BlockIs.newAt _ _ _ (by simp) | with_reducible refine bi_on ?_ hO2 | with_reducible refine bi_on ?_ hO1 | with_reducible refine bi_on ?_ hI1 | with_reducible refine bi_al ?_ _ | with_reducible refine bi_drew ?_)) (by repeat (first | with_reducible exact BlockIs.new _ _ _ | with_reducible exact BlockIs.newAt _ _ _ (by simp) | with_reducible refine bi_on ?_ hO2 | with_reducible refine bi_on ?_ hO1 | with_reducible refine bi_on ?_ hI1 | with_reducible refine bi_al ?_ _ | with_reducible refine bi_drew ?_)) (by repeat (first | with_reducible exact BlockIs.new _ _ _ | with_reducible exact BlockIs.newAt _ _ _ (by simp) | with_reducible refine bi_on ?_ hO2 | with_reducible refine bi_on ?_ hO1 | with_reducible refine bi_on ?_ hI1 | with_reducible refine bi_al ?_ _ | with_reducible refine bi_drew ?_))
    refine AllReadyH.cons (o := { dst := some 72, op := Go.Op.buildSlice 24 1 #[(0, Go.Operand.tmp 71)], type := 24, pos := "law.go:23", after := #[{ on := 6, ground := Go.Ground.data }, { on := 2, ground := Go.Ground.guard }], guard := some (2, true) }) rfl (fun K hK => ?_) AllReadyH.nil
    go_simp
    refine hK.out _ _ (sn_on gvl gxl (below_al (Below.refl _ _) _) hH2) (fun hH3 => ?_)
    clear hK K
    (try simp only [Act.put, List.setIfInBounds_toArray, List.set_cons_zero, List.set_cons_succ])
    refine wpAnyH_ready (rs := [4, 8]) (by kernel_rfl) (by simp) ?_
    refine AllReadyH.cons (o := { dst := some 69, op := Go.Op.buildSlice 25 1 #[(0, Go.Operand.const (Go.Value.string { data := #[120] }))], type := 25, pos := "law.go:23", after := #[{ on := 2, ground := Go.Ground.guard }], guard := some (2, true) }) rfl (fun K hK => ?_) ?_
    · go_simp
      refine hK.out _ _ (sn_on gvl gxl (below_al (Below.refl _ _) _) hH3) (fun hH4 => ?_)
      clear hK K
      (try simp only [Act.put, List.setIfInBounds_toArray, List.set_cons_zero, List.set_cons_succ])
      refine wpAnyH_ready (rs := [8]) (by kernel_rfl) (by simp) ?_
      refine AllReadyH.cons (o := { dst := some 73, op := Go.Op.call { callee := Go.Callee.value (Go.Operand.func 15), args := #[Go.Operand.tmp 70, Go.Operand.tmp 72], argTypes := #[25, 24] }, type := 27, pos := "law.go:23", after := #[{ on := 5, ground := Go.Ground.data }, { on := 7, ground := Go.Ground.data }, { on := 6, ground := Go.Ground.chain }, { on := 2, ground := Go.Ground.guard }], guard := some (2, true) }) rfl (fun K hK => ?_) AllReadyH.nil
      go_simp
      refine (refObject_any _ _ _ _ _ _ _).mono ?_
      rintro e wO1 ⟨rfl, hO1⟩
      (try go_wp2_with fail)
      refine hK.out _ _ (sn_on gvl gxl hO1 hH4) (fun hH5 => ?_)
      clear hK K
      (try simp only [Act.put, List.setIfInBounds_toArray, List.set_cons_zero, List.set_cons_succ])
      refine wpAnyH_ready (rs := [9]) (by kernel_rfl) (by simp) ?_
      refine AllReadyH.cons (o := { dst := some 74, op := Go.Op.buildSlice 24 1 #[(0, Go.Operand.tmp 73)], type := 24, pos := "law.go:23", after := #[{ on := 8, ground := Go.Ground.data }, { on := 2, ground := Go.Ground.guard }], guard := some (2, true) }) rfl (fun K hK => ?_) AllReadyH.nil
      go_simp
      refine hK.out _ _ (sn_on gvl gxl (below_al (Below.refl _ _) _) hH5) (fun hH6 => ?_)
      clear hK K
      (try simp only [Act.put, List.setIfInBounds_toArray, List.set_cons_zero, List.set_cons_succ])
      refine wpAnyH_ready (rs := [10]) (by kernel_rfl) (by simp) ?_
      refine AllReadyH.cons (o := { dst := some 75, op := Go.Op.call { callee := Go.Callee.value (Go.Operand.func 15), args := #[Go.Operand.tmp 69, Go.Operand.tmp 74], argTypes := #[25, 24] }, type := 27, pos := "law.go:23", after := #[{ on := 4, ground := Go.Ground.data }, { on := 9, ground := Go.Ground.data }, { on := 8, ground := Go.Ground.chain }, { on := 2, ground := Go.Ground.guard }], guard := some (2, true) }) rfl (fun K hK => ?_) AllReadyH.nil
      go_simp
      refine (refObject_any _ _ _ _ _ _ _).mono ?_
      rintro e wO2 ⟨rfl, hO2⟩
      (try go_wp2_with fail)
      refine hK.out _ _ (sn_on gvl gxl hO2 hH6) (fun hH7 => ?_)
      clear hK K
      (try simp only [Act.put, List.setIfInBounds_toArray, List.set_cons_zero, List.set_cons_succ])
      refine' TAIL.out _ _ ⟨_, _, _, _, _, _, _, _, ?_, ?_⟩ hH7
      rotate_left 8
      · (simp only [Act.put, List.setIfInBounds_toArray, List.set_cons_zero, List.set_cons_succ]) <;> rfl
      · exact lies_exN (by repeat (first | with_reducible exact BlockIs.new _ _ _ | with_reducible exact BlockIs.newAt _ _ _ (by simp) | with_reducible refine bi_on ?_ hO2 | with_reducible refine bi_on ?_ hO1 | with_reducible refine bi_on ?_ hI1 | with_reducible refine bi_al ?_ _ | with_reducible refine bi_drew ?_)) (by repeat (first | with_reducible exact BlockIs.new _ _ _ | with_reducible exact BlockIs.newAt _ _ _ (by simp) | with_reducible refine bi_on ?_ hO2 | with_reducible refine bi_on ?_ hO1 | with_reducible refine bi_on ?_ hI1 | with_reducible refine bi_al ?_ _ | with_reducible refine bi_drew ?_)) (by repeat (first | with_reducible exact BlockIs.new _ _ _ | with_reducible exact BlockIs.newAt _ _ _ (by simp) | with_reducible refine bi_on ?_ hO2 | with_reducible refine bi_on ?_ hO1 | with_reducible refine bi_on ?_ hI1 | with_reducible refine bi_al ?_ _ | with_reducible refine bi_drew ?_)) (by repeat (first | with_reducible exact BlockIs.new _ _ _ | with_reducible exact BlockIs.newAt _ _ _ (by simp) | with_reducible refine bi_on ?_ hO2 | with_reducible refine bi_on ?_ hO1 | with_reducible refine bi_on ?_ hI1 | with_reducible refine bi_al ?_ _ | with_reducible refine bi_drew ?_))
    refine AllReadyH.cons (o := { dst := some 73, op := Go.Op.call { callee := Go.Callee.value (Go.Operand.func 15), args := #[Go.Operand.tmp 70, Go.Operand.tmp 72], argTypes := #[25, 24] }, type := 27, pos := "law.go:23", after := #[{ on := 5, ground := Go.Ground.data }, { on := 7, ground := Go.Ground.data }, { on := 6, ground := Go.Ground.chain }, { on := 2, ground := Go.Ground.guard }], guard := some (2, true) }) rfl (fun K hK => ?_) AllReadyH.nil
    go_simp
    refine (refObject_any _ _ _ _ _ _ _).mono ?_
    rintro e wO1 ⟨rfl, hO1⟩
    (try go_wp2_with fail)
    refine hK.out _ _ (sn_on gvl gxl hO1 hH3) (fun hH4 => ?_)
    clear hK K
    (try simp only [Act.put, List.setIfInBounds_toArray, List.set_cons_zero, List.set_cons_succ])
    refine wpAnyH_ready (rs := [4, 9]) (by kernel_rfl) (by simp) ?_
    refine AllReadyH.cons (o := { dst := some 69, op := Go.Op.buildSlice 25 1 #[(0, Go.Operand.const (Go.Value.string { data := #[120] }))], type := 25, pos := "law.go:23", after := #[{ on := 2, ground := Go.Ground.guard }], guard := some (2, true) }) rfl (fun K hK => ?_) ?_
    · go_simp
      refine hK.out _ _ (sn_on gvl gxl (below_al (Below.refl _ _) _) hH4) (fun hH5 => ?_)
      clear hK K
      (try simp only [Act.put, List.setIfInBounds_toArray, List.set_cons_zero, List.set_cons_succ])
      refine wpAnyH_ready (rs := [9]) (by kernel_rfl) (by simp) ?_
      refine AllReadyH.cons (o := { dst := some 74, op := Go.Op.buildSlice 24 1 #[(0, Go.Operand.tmp 73)], type := 24, pos := "law.go:23", after := #[{ on := 8, ground := Go.Ground.data }, { on := 2, ground := Go.Ground.guard }], guard := some (2, true) }) rfl (fun K hK => ?_) AllReadyH.nil
      go_simp
      refine hK.out _ _ (sn_on gvl gxl (below_al (Below.refl _ _) _) hH5) (fun hH6 => ?_)
      clear hK K
      (try simp only [Act.put, List.setIfInBounds_toArray, List.set_cons_zero, List.set_cons_succ])
      refine wpAnyH_ready (rs := [10]) (by kernel_rfl) (by simp) ?_
      refine AllReadyH.cons (o := { dst := some 75, op := Go.Op.call { callee := Go.Callee.value (Go.Operand.func 15), args := #[Go.Operand.tmp 69, Go.Operand.tmp 74], argTypes := #[25, 24] }, type := 27, pos := "law.go:23", after := #[{ on := 4, ground := Go.Ground.data }, { on := 9, ground := Go.Ground.data }, { on := 8, ground := Go.Ground.chain }, { on := 2, ground := Go.Ground.guard }], guard := some (2, true) }) rfl (fun K hK => ?_) AllReadyH.nil
      go_simp
      refine (refObject_any _ _ _ _ _ _ _).mono ?_
      rintro e wO2 ⟨rfl, hO2⟩
      (try go_wp2_with fail)
      refine hK.out _ _ (sn_on gvl gxl hO2 hH6) (fun hH7 => ?_)
      clear hK K
      (try simp only [Act.put, List.setIfInBounds_toArray, List.set_cons_zero, List.set_cons_succ])
      refine' TAIL.out _ _ ⟨_, _, _, _, _, _, _, _, ?_, ?_⟩ hH7
      rotate_left 8
      · (simp only [Act.put, List.setIfInBounds_toArray, List.set_cons_zero, List.set_cons_succ]) <;> rfl
      · exact lies_exN (by repeat (first | with_reducible exact BlockIs.new _ _ _ | with_reducible exact BlockIs.newAt _ _ _ (by simp) | with_reducible refine bi_on ?_ hO2 | with_reducible refine bi_on ?_ hO1 | with_reducible refine bi_on ?_ hI1 | with_reducible refine bi_al ?_ _ | with_reducible refine bi_drew ?_)) (by repeat (first | with_reducible exact BlockIs.new _ _ _ | with_reducible exact BlockIs.newAt _ _ _ (by simp) | with_reducible refine bi_on ?_ hO2 | with_reducible refine bi_on ?_ hO1 | with_reducible refine bi_on ?_ hI1 | with_reducible refine bi_al ?_ _ | with_reducible refine bi_drew ?_)) (by repeat (first | with_reducible exact BlockIs.new _ _ _ | with_reducible exact BlockIs.newAt _ _ _ (by simp) | with_reducible refine bi_on ?_ hO2 | with_reducible refine bi_on ?_ hO1 | with_reducible refine bi_on ?_ hI1 | with_reducible refine bi_al ?_ _ | with_reducible refine bi_drew ?_)) (by repeat (first | with_reducible exact BlockIs.new _ _ _ | with_reducible exact BlockIs.newAt _ _ _ (by simp) | with_reducible refine bi_on ?_ hO2 | with_reducible refine bi_on ?_ hO1 | with_reducible refine bi_on ?_ hI1 | with_reducible refine bi_al ?_ _ | with_reducible refine bi_drew ?_))
    refine AllReadyH.cons (o := { dst := some 74, op := Go.Op.buildSlice 24 1 #[(0, Go.Operand.tmp 73)], type := 24, pos := "law.go:23", after := #[{ on := 8, ground := Go.Ground.data }, { on := 2, ground := Go.Ground.guard }], guard := some (2, true) }) rfl (fun K hK => ?_) AllReadyH.nil
    go_simp
    refine hK.out _ _ (sn_on gvl gxl (below_al (Below.refl _ _) _) hH4) (fun hH5 => ?_)
    clear hK K
    (try simp only [Act.put, List.setIfInBounds_toArray, List.set_cons_zero, List.set_cons_succ])
    refine wpAnyH_ready (rs := [4]) (by kernel_rfl) (by simp) ?_
    refine AllReadyH.cons (o := { dst := some 69, op := Go.Op.buildSlice 25 1 #[(0, Go.Operand.const (Go.Value.string { data := #[120] }))], type := 25, pos := "law.go:23", after := #[{ on := 2, ground := Go.Ground.guard }], guard := some (2, true) }) rfl (fun K hK => ?_) AllReadyH.nil
    go_simp
    refine hK.out _ _ (sn_on gvl gxl (below_al (Below.refl _ _) _) hH5) (fun hH6 => ?_)
    clear hK K
    (try simp only [Act.put, List.setIfInBounds_toArray, List.set_cons_zero, List.set_cons_succ])
    refine wpAnyH_ready (rs := [10]) (by kernel_rfl) (by simp) ?_
    refine AllReadyH.cons (o := { dst := some 75, op := Go.Op.call { callee := Go.Callee.value (Go.Operand.func 15), args := #[Go.Operand.tmp 69, Go.Operand.tmp 74], argTypes := #[25, 24] }, type := 27, pos := "law.go:23", after := #[{ on := 4, ground := Go.Ground.data }, { on := 9, ground := Go.Ground.data }, { on := 8, ground := Go.Ground.chain }, { on := 2, ground := Go.Ground.guard }], guard := some (2, true) }) rfl (fun K hK => ?_) AllReadyH.nil
    go_simp
    refine (refObject_any _ _ _ _ _ _ _).mono ?_
    rintro e wO2 ⟨rfl, hO2⟩
    (try go_wp2_with fail)
    refine hK.out _ _ (sn_on gvl gxl hO2 hH6) (fun hH7 => ?_)
    clear hK K
    (try simp only [Act.put, List.setIfInBounds_toArray, List.set_cons_zero, List.set_cons_succ])
    refine' TAIL.out _ _ ⟨_, _, _, _, _, _, _, _, ?_, ?_⟩ hH7
    rotate_left 8
    · (simp only [Act.put, List.setIfInBounds_toArray, List.set_cons_zero, List.set_cons_succ]) <;> rfl
    · exact lies_exN (by repeat (first | with_reducible exact BlockIs.new _ _ _ | with_reducible exact BlockIs.newAt _ _ _ (by simp) | with_reducible refine bi_on ?_ hO2 | with_reducible refine bi_on ?_ hO1 | with_reducible refine bi_on ?_ hI1 | with_reducible refine bi_al ?_ _ | with_reducible refine bi_drew ?_)) (by repeat (first | with_reducible exact BlockIs.new _ _ _ | with_reducible exact BlockIs.newAt _ _ _ (by simp) | with_reducible refine bi_on ?_ hO2 | with_reducible refine bi_on ?_ hO1 | with_reducible refine bi_on ?_ hI1 | with_reducible refine bi_al ?_ _ | with_reducible refine bi_drew ?_)) (by repeat (first | with_reducible exact BlockIs.new _ _ _ | with_reducible exact BlockIs.newAt _ _ _ (by simp) | with_reducible refine bi_on ?_ hO2 | with_reducible refine bi_on ?_ hO1 | with_reducible refine bi_on ?_ hI1 | with_reducible refine bi_al ?_ _ | with_reducible refine bi_drew ?_)) (by repeat (first | with_reducible exact BlockIs.new _ _ _ | with_reducible exact BlockIs.newAt _ _ _ (by simp) | with_reducible refine bi_on ?_ hO2 | with_reducible refine bi_on ?_ hO1 | with_reducible refine bi_on ?_ hI1 | with_reducible refine bi_al ?_ _ | with_reducible refine bi_drew ?_))
  refine AllReadyH.cons (o := { dst := some 71, op := Go.Op.call { callee := Go.Callee.value (Go.Operand.func 11), args := #[Go.Operand.const (Go.Value.int Go.IntKind.i64 1)], argTypes := #[3] }, type := 27, pos := "law.go:23", after := #[{ on := 2, ground := Go.Ground.chain }, { on := 2, ground := Go.Ground.guard }], guard := some (2, true) }) rfl (fun K hK => ?_) AllReadyH.nil
  go_simp
  refine (refInt_any 1 _).mono ?_
  rintro e wI1 ⟨rfl, hI1⟩
  unfold numV
  (try go_wp2_with fail)
  refine hK.out _ _ (sn_on gvl gxl hI1 hH0) (fun hH1 => ?_)
  clear hK K
  (try simp only [Act.put, List.setIfInBounds_toArray, List.set_cons_zero, List.set_cons_succ])
  refine wpAnyH_ready (rs := [4, 5, 7]) (by kernel_rfl) (by simp) ?_
  refine AllReadyH.cons (o := { dst := some 69, op := Go.Op.buildSlice 25 1 #[(0, Go.Operand.const (Go.Value.string { data := #[120] }))], type := 25, pos := "law.go:23", after := #[{ on := 2, ground := Go.Ground.guard }], guard := some (2, true) }) rfl (fun K hK => ?_) ?_
  · go_simp
    refine hK.out _ _ (sn_on gvl gxl (below_al (Below.refl _ _) _) hH1) (fun hH2 => ?_)
    clear hK K
    (try simp only [Act.put, List.setIfInBounds_toArray, List.set_cons_zero, List.set_cons_succ])
    refine wpAnyH_ready (rs := [5, 7]) (by kernel_rfl) (by simp) ?_
    refine AllReadyH.cons (o := { dst := some 70, op := Go.Op.buildSlice 25 1 #[(0, Go.Operand.const (Go.Value.string { data := #[121] }))], type := 25, pos := "law.go:23", after := #[{ on := 2, ground := Go.Ground.guard }], guard := some (2, true) }) rfl (fun K hK => ?_) ?_
    · go_simp
      refine hK.out _ _ (sn_on gvl gxl (below_al (Below.refl _ _) _) hH2) (fun hH3 => ?_)
      clear hK K
      (try simp only [Act.put, List.setIfInBounds_toArray, List.set_cons_zero, List.set_cons_succ])
      refine wpAnyH_ready (rs := [7]) (by kernel_rfl) (by simp) ?_
      refine AllReadyH.cons (o := { dst := some 72, op := Go.Op.buildSlice 24 1 #[(0, Go.Operand.tmp 71)], type := 24, pos := "law.go:23", after := #[{ on := 6, ground := Go.Ground.data }, { on := 2, ground := Go.Ground.guard }], guard := some (2, true) }) rfl (fun K hK => ?_) AllReadyH.nil
      go_simp
      refine hK.out _ _ (sn_on gvl gxl (below_al (Below.refl _ _) _) hH3) (fun hH4 => ?_)
      clear hK K
      (try simp only [Act.put, List.setIfInBounds_toArray, List.set_cons_zero, List.set_cons_succ])
      refine wpAnyH_ready (rs := [8]) (by kernel_rfl) (by simp) ?_
      refine AllReadyH.cons (o := { dst := some 73, op := Go.Op.call { callee := Go.Callee.value (Go.Operand.func 15), args := #[Go.Operand.tmp 70, Go.Operand.tmp 72], argTypes := #[25, 24] }, type := 27, pos := "law.go:23", after := #[{ on := 5, ground := Go.Ground.data }, { on := 7, ground := Go.Ground.data }, { on := 6, ground := Go.Ground.chain }, { on := 2, ground := Go.Ground.guard }], guard := some (2, true) }) rfl (fun K hK => ?_) AllReadyH.nil
      go_simp
      refine (refObject_any _ _ _ _ _ _ _).mono ?_
      rintro e wO1 ⟨rfl, hO1⟩
      (try go_wp2_with fail)
      refine hK.out _ _ (sn_on gvl gxl hO1 hH4) (fun hH5 => ?_)
      clear hK K
      (try simp only [Act.put, List.setIfInBounds_toArray, List.set_cons_zero, List.set_cons_succ])
      refine wpAnyH_ready (rs := [9]) (by kernel_rfl) (by simp) ?_
      refine AllReadyH.cons (o := { dst := some 74, op := Go.Op.buildSlice 24 1 #[(0, Go.Operand.tmp 73)], type := 24, pos := "law.go:23", after := #[{ on := 8, ground := Go.Ground.data }, { on := 2, ground := Go.Ground.guard }], guard := some (2, true) }) rfl (fun K hK => ?_) AllReadyH.nil
      go_simp
      refine hK.out _ _ (sn_on gvl gxl (below_al (Below.refl _ _) _) hH5) (fun hH6 => ?_)
      clear hK K
      (try simp only [Act.put, List.setIfInBounds_toArray, List.set_cons_zero, List.set_cons_succ])
      refine wpAnyH_ready (rs := [10]) (by kernel_rfl) (by simp) ?_
      refine AllReadyH.cons (o := { dst := some 75, op := Go.Op.call { callee := Go.Callee.value (Go.Operand.func 15), args := #[Go.Operand.tmp 69, Go.Operand.tmp 74], argTypes := #[25, 24] }, type := 27, pos := "law.go:23", after := #[{ on := 4, ground := Go.Ground.data }, { on := 9, ground := Go.Ground.data }, { on := 8, ground := Go.Ground.chain }, { on := 2, ground := Go.Ground.guard }], guard := some (2, true) }) rfl (fun K hK => ?_) AllReadyH.nil
      go_simp
      refine (refObject_any _ _ _ _ _ _ _).mono ?_
      rintro e wO2 ⟨rfl, hO2⟩
      (try go_wp2_with fail)
      refine hK.out _ _ (sn_on gvl gxl hO2 hH6) (fun hH7 => ?_)
      clear hK K
      (try simp only [Act.put, List.setIfInBounds_toArray, List.set_cons_zero, List.set_cons_succ])
      refine' TAIL.out _ _ ⟨_, _, _, _, _, _, _, _, ?_, ?_⟩ hH7
      rotate_left 8
      · (simp only [Act.put, List.setIfInBounds_toArray, List.set_cons_zero, List.set_cons_succ]) <;> rfl
      · exact lies_exN (by repeat (first | with_reducible exact BlockIs.new _ _ _ | with_reducible exact BlockIs.newAt _ _ _ (by simp) | with_reducible refine bi_on ?_ hO2 | with_reducible refine bi_on ?_ hO1 | with_reducible refine bi_on ?_ hI1 | with_reducible refine bi_al ?_ _ | with_reducible refine bi_drew ?_)) (by repeat (first | with_reducible exact BlockIs.new _ _ _ | with_reducible exact BlockIs.newAt _ _ _ (by simp) | with_reducible refine bi_on ?_ hO2 | with_reducible refine bi_on ?_ hO1 | with_reducible refine bi_on ?_ hI1 | with_reducible refine bi_al ?_ _ | with_reducible refine bi_drew ?_)) (by repeat (first | with_reducible exact BlockIs.new _ _ _ | with_reducible exact BlockIs.newAt _ _ _ (by simp) | with_reducible refine bi_on ?_ hO2 | with_reducible refine bi_on ?_ hO1 | with_reducible refine bi_on ?_ hI1 | with_reducible refine bi_al ?_ _ | with_reducible refine bi_drew ?_)) (by repeat (first | with_reducible exact BlockIs.new _ _ _ | with_reducible exact BlockIs.newAt _ _ _ (by simp) | with_reducible refine bi_on ?_ hO2 | with_reducible refine bi_on ?_ hO1 | with_reducible refine bi_on ?_ hI1 | with_reducible refine bi_al ?_ _ | with_reducible refine bi_drew ?_))
    refine AllReadyH.cons (o := { dst := some 72, op := Go.Op.buildSlice 24 1 #[(0, Go.Operand.tmp 71)], type := 24, pos := "law.go:23", after := #[{ on := 6, ground := Go.Ground.data }, { on := 2, ground := Go.Ground.guard }], guard := some (2, true) }) rfl (fun K hK => ?_) AllReadyH.nil
    go_simp
    refine hK.out _ _ (sn_on gvl gxl (below_al (Below.refl _ _) _) hH2) (fun hH3 => ?_)
    clear hK K
    (try simp only [Act.put, List.setIfInBounds_toArray, List.set_cons_zero, List.set_cons_succ])
    refine wpAnyH_ready (rs := [5]) (by kernel_rfl) (by simp) ?_
    refine AllReadyH.cons (o := { dst := some 70, op := Go.Op.buildSlice 25 1 #[(0, Go.Operand.const (Go.Value.string { data := #[121] }))], type := 25, pos := "law.go:23", after := #[{ on := 2, ground := Go.Ground.guard }], guard := some (2, true) }) rfl (fun K hK => ?_) AllReadyH.nil
    go_simp
    refine hK.out _ _ (sn_on gvl gxl (below_al (Below.refl _ _) _) hH3) (fun hH4 => ?_)
    clear hK K
    (try simp only [Act.put, List.setIfInBounds_toArray, List.set_cons_zero, List.set_cons_succ])
    refine wpAnyH_ready (rs := [8]) (by kernel_rfl) (by simp) ?_
    refine AllReadyH.cons (o := { dst := some 73, op := Go.Op.call { callee := Go.Callee.value (Go.Operand.func 15), args := #[Go.Operand.tmp 70, Go.Operand.tmp 72], argTypes := #[25, 24] }, type := 27, pos := "law.go:23", after := #[{ on := 5, ground := Go.Ground.data }, { on := 7, ground := Go.Ground.data }, { on := 6, ground := Go.Ground.chain }, { on := 2, ground := Go.Ground.guard }], guard := some (2, true) }) rfl (fun K hK => ?_) AllReadyH.nil
    go_simp
    refine (refObject_any _ _ _ _ _ _ _).mono ?_
    rintro e wO1 ⟨rfl, hO1⟩
    (try go_wp2_with fail)
    refine hK.out _ _ (sn_on gvl gxl hO1 hH4) (fun hH5 => ?_)
    clear hK K
    (try simp only [Act.put, List.setIfInBounds_toArray, List.set_cons_zero, List.set_cons_succ])
    refine wpAnyH_ready (rs := [9]) (by kernel_rfl) (by simp) ?_
    refine AllReadyH.cons (o := { dst := some 74, op := Go.Op.buildSlice 24 1 #[(0, Go.Operand.tmp 73)], type := 24, pos := "law.go:23", after := #[{ on := 8, ground := Go.Ground.data }, { on := 2, ground := Go.Ground.guard }], guard := some (2, true) }) rfl (fun K hK => ?_) AllReadyH.nil
    go_simp
    refine hK.out _ _ (sn_on gvl gxl (below_al (Below.refl _ _) _) hH5) (fun hH6 => ?_)
    clear hK K
    (try simp only [Act.put, List.setIfInBounds_toArray, List.set_cons_zero, List.set_cons_succ])
    refine wpAnyH_ready (rs := [10]) (by kernel_rfl) (by simp) ?_
    refine AllReadyH.cons (o := { dst := some 75, op := Go.Op.call { callee := Go.Callee.value (Go.Operand.func 15), args := #[Go.Operand.tmp 69, Go.Operand.tmp 74], argTypes := #[25, 24] }, type := 27, pos := "law.go:23", after := #[{ on := 4, ground := Go.Ground.data }, { on := 9, ground := Go.Ground.data }, { on := 8, ground := Go.Ground.chain }, { on := 2, ground := Go.Ground.guard }], guard := some (2, true) }) rfl (fun K hK => ?_) AllReadyH.nil
    go_simp
    refine (refObject_any _ _ _ _ _ _ _).mono ?_
    rintro e wO2 ⟨rfl, hO2⟩
    (try go_wp2_with fail)
    refine hK.out _ _ (sn_on gvl gxl hO2 hH6) (fun hH7 => ?_)
    clear hK K
    (try simp only [Act.put, List.setIfInBounds_toArray, List.set_cons_zero, List.set_cons_succ])
    refine' TAIL.out _ _ ⟨_, _, _, _, _, _, _, _, ?_, ?_⟩ hH7
    rotate_left 8
    · (simp only [Act.put, List.setIfInBounds_toArray, List.set_cons_zero, List.set_cons_succ]) <;> rfl
    · exact lies_exN (by repeat (first | with_reducible exact BlockIs.new _ _ _ | with_reducible exact BlockIs.newAt _ _ _ (by simp) | with_reducible refine bi_on ?_ hO2 | with_reducible refine bi_on ?_ hO1 | with_reducible refine bi_on ?_ hI1 | with_reducible refine bi_al ?_ _ | with_reducible refine bi_drew ?_)) (by repeat (first | with_reducible exact BlockIs.new _ _ _ | with_reducible exact BlockIs.newAt _ _ _ (by simp) | with_reducible refine bi_on ?_ hO2 | with_reducible refine bi_on ?_ hO1 | with_reducible refine bi_on ?_ hI1 | with_reducible refine bi_al ?_ _ | with_reducible refine bi_drew ?_)) (by repeat (first | with_reducible exact BlockIs.new _ _ _ | with_reducible exact BlockIs.newAt _ _ _ (by simp) | with_reducible refine bi_on ?_ hO2 | with_reducible refine bi_on ?_ hO1 | with_reducible refine bi_on ?_ hI1 | with_reducible refine bi_al ?_ _ | with_reducible refine bi_drew ?_)) (by repeat (first | with_reducible exact BlockIs.new _ _ _ | with_reducible exact BlockIs.newAt _ _ _ (by simp) | with_reducible refine bi_on ?_ hO2 | with_reducible refine bi_on ?_ hO1 | with_reducible refine bi_on ?_ hI1 | with_reducible refine bi_al ?_ _ | with_reducible refine bi_drew ?_))
  refine AllReadyH.cons (o := { dst := some 70, op := Go.Op.buildSlice 25 1 #[(0, Go.Operand.const (Go.Value.string { data := #[121] }))], type := 25, pos := "law.go:23", after := #[{ on := 2, ground := Go.Ground.guard }], guard := some (2, true) }) rfl (fun K hK => ?_) ?_
  · go_simp
    refine hK.out _ _ (sn_on gvl gxl (below_al (Below.refl _ _) _) hH1) (fun hH2 => ?_)
    clear hK K
    (try simp only [Act.put, List.setIfInBounds_toArray, List.set_cons_zero, List.set_cons_succ])
    refine wpAnyH_ready (rs := [4, 7]) (by kernel_rfl) (by simp) ?_
    refine AllReadyH.cons (o := { dst := some 69, op := Go.Op.buildSlice 25 1 #[(0, Go.Operand.const (Go.Value.string { data := #[120] }))], type := 25, pos := "law.go:23", after := #[{ on := 2, ground := Go.Ground.guard }], guard := some (2, true) }) rfl (fun K hK => ?_) ?_
    · go_simp
      refine hK.out _ _ (sn_on gvl gxl (below_al (Below.refl _ _) _) hH2) (fun hH3 => ?_)
      clear hK K
      (try simp only [Act.put, List.setIfInBounds_toArray, List.set_cons_zero, List.set_cons_succ])
      refine wpAnyH_ready (rs := [7]) (by kernel_rfl) (by simp) ?_
      refine AllReadyH.cons (o := { dst := some 72, op := Go.Op.buildSlice 24 1 #[(0, Go.Operand.tmp 71)], type := 24, pos := "law.go:23", after := #[{ on := 6, ground := Go.Ground.data }, { on := 2, ground := Go.Ground.guard }], guard := some (2, true) }) rfl (fun K hK => ?_) AllReadyH.nil
      go_simp
      refine hK.out _ _ (sn_on gvl gxl (below_al (Below.refl _ _) _) hH3) (fun hH4 => ?_)
      clear hK K
      (try simp only [Act.put, List.setIfInBounds_toArray, List.set_cons_zero, List.set_cons_succ])
      refine wpAnyH_ready (rs := [8]) (by kernel_rfl) (by simp) ?_
      refine AllReadyH.cons (o := { dst := some 73, op := Go.Op.call { callee := Go.Callee.value (Go.Operand.func 15), args := #[Go.Operand.tmp 70, Go.Operand.tmp 72], argTypes := #[25, 24] }, type := 27, pos := "law.go:23", after := #[{ on := 5, ground := Go.Ground.data }, { on := 7, ground := Go.Ground.data }, { on := 6, ground := Go.Ground.chain }, { on := 2, ground := Go.Ground.guard }], guard := some (2, true) }) rfl (fun K hK => ?_) AllReadyH.nil
      go_simp
      refine (refObject_any _ _ _ _ _ _ _).mono ?_
      rintro e wO1 ⟨rfl, hO1⟩
      (try go_wp2_with fail)
      refine hK.out _ _ (sn_on gvl gxl hO1 hH4) (fun hH5 => ?_)
      clear hK K
      (try simp only [Act.put, List.setIfInBounds_toArray, List.set_cons_zero, List.set_cons_succ])
      refine wpAnyH_ready (rs := [9]) (by kernel_rfl) (by simp) ?_
      refine AllReadyH.cons (o := { dst := some 74, op := Go.Op.buildSlice 24 1 #[(0, Go.Operand.tmp 73)], type := 24, pos := "law.go:23", after := #[{ on := 8, ground := Go.Ground.data }, { on := 2, ground := Go.Ground.guard }], guard := some (2, true) }) rfl (fun K hK => ?_) AllReadyH.nil
      go_simp
      refine hK.out _ _ (sn_on gvl gxl (below_al (Below.refl _ _) _) hH5) (fun hH6 => ?_)
      clear hK K
      (try simp only [Act.put, List.setIfInBounds_toArray, List.set_cons_zero, List.set_cons_succ])
      refine wpAnyH_ready (rs := [10]) (by kernel_rfl) (by simp) ?_
      refine AllReadyH.cons (o := { dst := some 75, op := Go.Op.call { callee := Go.Callee.value (Go.Operand.func 15), args := #[Go.Operand.tmp 69, Go.Operand.tmp 74], argTypes := #[25, 24] }, type := 27, pos := "law.go:23", after := #[{ on := 4, ground := Go.Ground.data }, { on := 9, ground := Go.Ground.data }, { on := 8, ground := Go.Ground.chain }, { on := 2, ground := Go.Ground.guard }], guard := some (2, true) }) rfl (fun K hK => ?_) AllReadyH.nil
      go_simp
      refine (refObject_any _ _ _ _ _ _ _).mono ?_
      rintro e wO2 ⟨rfl, hO2⟩
      (try go_wp2_with fail)
      refine hK.out _ _ (sn_on gvl gxl hO2 hH6) (fun hH7 => ?_)
      clear hK K
      (try simp only [Act.put, List.setIfInBounds_toArray, List.set_cons_zero, List.set_cons_succ])
      refine' TAIL.out _ _ ⟨_, _, _, _, _, _, _, _, ?_, ?_⟩ hH7
      rotate_left 8
      · (simp only [Act.put, List.setIfInBounds_toArray, List.set_cons_zero, List.set_cons_succ]) <;> rfl
      · exact lies_exN (by repeat (first | with_reducible exact BlockIs.new _ _ _ | with_reducible exact BlockIs.newAt _ _ _ (by simp) | with_reducible refine bi_on ?_ hO2 | with_reducible refine bi_on ?_ hO1 | with_reducible refine bi_on ?_ hI1 | with_reducible refine bi_al ?_ _ | with_reducible refine bi_drew ?_)) (by repeat (first | with_reducible exact BlockIs.new _ _ _ | with_reducible exact BlockIs.newAt _ _ _ (by simp) | with_reducible refine bi_on ?_ hO2 | with_reducible refine bi_on ?_ hO1 | with_reducible refine bi_on ?_ hI1 | with_reducible refine bi_al ?_ _ | with_reducible refine bi_drew ?_)) (by repeat (first | with_reducible exact BlockIs.new _ _ _ | with_reducible exact BlockIs.newAt _ _ _ (by simp) | with_reducible refine bi_on ?_ hO2 | with_reducible refine bi_on ?_ hO1 | with_reducible refine bi_on ?_ hI1 | with_reducible refine bi_al ?_ _ | with_reducible refine bi_drew ?_)) (by repeat (first | with_reducible exact BlockIs.new _ _ _ | with_reducible exact BlockIs.newAt _ _ _ (by simp) | with_reducible refine bi_on ?_ hO2 | with_reducible refine bi_on ?_ hO1 | with_reducible refine bi_on ?_ hI1 | with_reducible refine bi_al ?_ _ | with_reducible refine bi_drew ?_))
    refine AllReadyH.cons (o := { dst := some 72, op := Go.Op.buildSlice 24 1 #[(0, Go.Operand.tmp 71)], type := 24, pos := "law.go:23", after := #[{ on := 6, ground := Go.Ground.data }, { on := 2, ground := Go.Ground.guard }], guard := some (2, true) }) rfl (fun K hK => ?_) AllReadyH.nil
    go_simp
    refine hK.out _ _ (sn_on gvl gxl (below_al (Below.refl _ _) _) hH2) (fun hH3 => ?_)
    clear hK K
    (try simp only [Act.put, List.setIfInBounds_toArray, List.set_cons_zero, List.set_cons_succ])
    refine wpAnyH_ready (rs := [4, 8]) (by kernel_rfl) (by simp) ?_
    refine AllReadyH.cons (o := { dst := some 69, op := Go.Op.buildSlice 25 1 #[(0, Go.Operand.const (Go.Value.string { data := #[120] }))], type := 25, pos := "law.go:23", after := #[{ on := 2, ground := Go.Ground.guard }], guard := some (2, true) }) rfl (fun K hK => ?_) ?_
    · go_simp
      refine hK.out _ _ (sn_on gvl gxl (below_al (Below.refl _ _) _) hH3) (fun hH4 => ?_)
      clear hK K
      (try simp only [Act.put, List.setIfInBounds_toArray, List.set_cons_zero, List.set_cons_succ])
      refine wpAnyH_ready (rs := [8]) (by kernel_rfl) (by simp) ?_
      refine AllReadyH.cons (o := { dst := some 73, op := Go.Op.call { callee := Go.Callee.value (Go.Operand.func 15), args := #[Go.Operand.tmp 70, Go.Operand.tmp 72], argTypes := #[25, 24] }, type := 27, pos := "law.go:23", after := #[{ on := 5, ground := Go.Ground.data }, { on := 7, ground := Go.Ground.data }, { on := 6, ground := Go.Ground.chain }, { on := 2, ground := Go.Ground.guard }], guard := some (2, true) }) rfl (fun K hK => ?_) AllReadyH.nil
      go_simp
      refine (refObject_any _ _ _ _ _ _ _).mono ?_
      rintro e wO1 ⟨rfl, hO1⟩
      (try go_wp2_with fail)
      refine hK.out _ _ (sn_on gvl gxl hO1 hH4) (fun hH5 => ?_)
      clear hK K
      (try simp only [Act.put, List.setIfInBounds_toArray, List.set_cons_zero, List.set_cons_succ])
      refine wpAnyH_ready (rs := [9]) (by kernel_rfl) (by simp) ?_
      refine AllReadyH.cons (o := { dst := some 74, op := Go.Op.buildSlice 24 1 #[(0, Go.Operand.tmp 73)], type := 24, pos := "law.go:23", after := #[{ on := 8, ground := Go.Ground.data }, { on := 2, ground := Go.Ground.guard }], guard := some (2, true) }) rfl (fun K hK => ?_) AllReadyH.nil
      go_simp
      refine hK.out _ _ (sn_on gvl gxl (below_al (Below.refl _ _) _) hH5) (fun hH6 => ?_)
      clear hK K
      (try simp only [Act.put, List.setIfInBounds_toArray, List.set_cons_zero, List.set_cons_succ])
      refine wpAnyH_ready (rs := [10]) (by kernel_rfl) (by simp) ?_
      refine AllReadyH.cons (o := { dst := some 75, op := Go.Op.call { callee := Go.Callee.value (Go.Operand.func 15), args := #[Go.Operand.tmp 69, Go.Operand.tmp 74], argTypes := #[25, 24] }, type := 27, pos := "law.go:23", after := #[{ on := 4, ground := Go.Ground.data }, { on := 9, ground := Go.Ground.data }, { on := 8, ground := Go.Ground.chain }, { on := 2, ground := Go.Ground.guard }], guard := some (2, true) }) rfl (fun K hK => ?_) AllReadyH.nil
      go_simp
      refine (refObject_any _ _ _ _ _ _ _).mono ?_
      rintro e wO2 ⟨rfl, hO2⟩
      (try go_wp2_with fail)
      refine hK.out _ _ (sn_on gvl gxl hO2 hH6) (fun hH7 => ?_)
      clear hK K
      (try simp only [Act.put, List.setIfInBounds_toArray, List.set_cons_zero, List.set_cons_succ])
      refine' TAIL.out _ _ ⟨_, _, _, _, _, _, _, _, ?_, ?_⟩ hH7
      rotate_left 8
      · (simp only [Act.put, List.setIfInBounds_toArray, List.set_cons_zero, List.set_cons_succ]) <;> rfl
      · exact lies_exN (by repeat (first | with_reducible exact BlockIs.new _ _ _ | with_reducible exact BlockIs.newAt _ _ _ (by simp) | with_reducible refine bi_on ?_ hO2 | with_reducible refine bi_on ?_ hO1 | with_reducible refine bi_on ?_ hI1 | with_reducible refine bi_al ?_ _ | with_reducible refine bi_drew ?_)) (by repeat (first | with_reducible exact BlockIs.new _ _ _ | with_reducible exact BlockIs.newAt _ _ _ (by simp) | with_reducible refine bi_on ?_ hO2 | with_reducible refine bi_on ?_ hO1 | with_reducible refine bi_on ?_ hI1 | with_reducible refine bi_al ?_ _ | with_reducible refine bi_drew ?_)) (by repeat (first | with_reducible exact BlockIs.new _ _ _ | with_reducible exact BlockIs.newAt _ _ _ (by simp) | with_reducible refine bi_on ?_ hO2 | with_reducible refine bi_on ?_ hO1 | with_reducible refine bi_on ?_ hI1 | with_reducible refine bi_al ?_ _ | with_reducible refine bi_drew ?_)) (by repeat (first | with_reducible exact BlockIs.new _ _ _ | with_reducible exact BlockIs.newAt _ _ _ (by simp) | with_reducible refine bi_on ?_ hO2 | with_reducible refine bi_on ?_ hO1 | with_reducible refine bi_on ?_ hI1 | with_reducible refine bi_al ?_ _ | with_reducible refine bi_drew ?_))
    refine AllReadyH.cons (o := { dst := some 73, op := Go.Op.call { callee := Go.Callee.value (Go.Operand.func 15), args := #[Go.Operand.tmp 70, Go.Operand.tmp 72], argTypes := #[25, 24] }, type := 27, pos := "law.go:23", after := #[{ on := 5, ground := Go.Ground.data }, { on := 7, ground := Go.Ground.data }, { on := 6, ground := Go.Ground.chain }, { on := 2, ground := Go.Ground.guard }], guard := some (2, true) }) rfl (fun K hK => ?_) AllReadyH.nil
    go_simp
    refine (refObject_any _ _ _ _ _ _ _).mono ?_
    rintro e wO1 ⟨rfl, hO1⟩
    (try go_wp2_with fail)
    refine hK.out _ _ (sn_on gvl gxl hO1 hH3) (fun hH4 => ?_)
    clear hK K
    (try simp only [Act.put, List.setIfInBounds_toArray, List.set_cons_zero, List.set_cons_succ])
    refine wpAnyH_ready (rs := [4, 9]) (by kernel_rfl) (by simp) ?_
    refine AllReadyH.cons (o := { dst := some 69, op := Go.Op.buildSlice 25 1 #[(0, Go.Operand.const (Go.Value.string { data := #[120] }))], type := 25, pos := "law.go:23", after := #[{ on := 2, ground := Go.Ground.guard }], guard := some (2, true) }) rfl (fun K hK => ?_) ?_
    · go_simp
      refine hK.out _ _ (sn_on gvl gxl (below_al (Below.refl _ _) _) hH4) (fun hH5 => ?_)
      clear hK K
      (try simp only [Act.put, List.setIfInBounds_toArray, List.set_cons_zero, List.set_cons_succ])
      refine wpAnyH_ready (rs := [9]) (by kernel_rfl) (by simp) ?_
      refine AllReadyH.cons (o := { dst := some 74, op := Go.Op.buildSlice 24 1 #[(0, Go.Operand.tmp 73)], type := 24, pos := "law.go:23", after := #[{ on := 8, ground := Go.Ground.data }, { on := 2, ground := Go.Ground.guard }], guard := some (2, true) }) rfl (fun K hK => ?_) AllReadyH.nil
      go_simp
      refine hK.out _ _ (sn_on gvl gxl (below_al (Below.refl _ _) _) hH5) (fun hH6 => ?_)
      clear hK K
      (try simp only [Act.put, List.setIfInBounds_toArray, List.set_cons_zero, List.set_cons_succ])
      refine wpAnyH_ready (rs := [10]) (by kernel_rfl) (by simp) ?_
      refine AllReadyH.cons (o := { dst := some 75, op := Go.Op.call { callee := Go.Callee.value (Go.Operand.func 15), args := #[Go.Operand.tmp 69, Go.Operand.tmp 74], argTypes := #[25, 24] }, type := 27, pos := "law.go:23", after := #[{ on := 4, ground := Go.Ground.data }, { on := 9, ground := Go.Ground.data }, { on := 8, ground := Go.Ground.chain }, { on := 2, ground := Go.Ground.guard }], guard := some (2, true) }) rfl (fun K hK => ?_) AllReadyH.nil
      go_simp
      refine (refObject_any _ _ _ _ _ _ _).mono ?_
      rintro e wO2 ⟨rfl, hO2⟩
      (try go_wp2_with fail)
      refine hK.out _ _ (sn_on gvl gxl hO2 hH6) (fun hH7 => ?_)
      clear hK K
      (try simp only [Act.put, List.setIfInBounds_toArray, List.set_cons_zero, List.set_cons_succ])
      refine' TAIL.out _ _ ⟨_, _, _, _, _, _, _, _, ?_, ?_⟩ hH7
      rotate_left 8
      · (simp only [Act.put, List.setIfInBounds_toArray, List.set_cons_zero, List.set_cons_succ]) <;> rfl
      · exact lies_exN (by repeat (first | with_reducible exact BlockIs.new _ _ _ | with_reducible exact BlockIs.newAt _ _ _ (by simp) | with_reducible refine bi_on ?_ hO2 | with_reducible refine bi_on ?_ hO1 | with_reducible refine bi_on ?_ hI1 | with_reducible refine bi_al ?_ _ | with_reducible refine bi_drew ?_)) (by repeat (first | with_reducible exact BlockIs.new _ _ _ | with_reducible exact BlockIs.newAt _ _ _ (by simp) | with_reducible refine bi_on ?_ hO2 | with_reducible refine bi_on ?_ hO1 | with_reducible refine bi_on ?_ hI1 | with_reducible refine bi_al ?_ _ | with_reducible refine bi_drew ?_)) (by repeat (first | with_reducible exact BlockIs.new _ _ _ | with_reducible exact BlockIs.newAt _ _ _ (by simp) | with_reducible refine bi_on ?_ hO2 | with_reducible refine bi_on ?_ hO1 | with_reducible refine bi_on ?_ hI1 | with_reducible refine bi_al ?_ _ | with_reducible refine bi_drew ?_)) (by repeat (first | with_reducible exact BlockIs.new _ _ _ | with_reducible exact BlockIs.newAt _ _ _ (by simp) | with_reducible refine bi_on ?_ hO2 | with_reducible refine bi_on ?_ hO1 | with_reducible refine bi_on ?_ hI1 | with_reducible refine bi_al ?_ _ | with_reducible refine bi_drew ?_))
    refine AllReadyH.cons (o := { dst := some 74, op := Go.Op.buildSlice 24 1 #[(0, Go.Operand.tmp 73)], type := 24, pos := "law.go:23", after := #[{ on := 8, ground := Go.Ground.data }, { on := 2, ground := Go.Ground.guard }], guard := some (2, true) }) rfl (fun K hK => ?_) AllReadyH.nil
    go_simp
    refine hK.out _ _ (sn_on gvl gxl (below_al (Below.refl _ _) _) hH4) (fun hH5 => ?_)
    clear hK K
    (try simp only [Act.put, List.setIfInBounds_toArray, List.set_cons_zero, List.set_cons_succ])
    refine wpAnyH_ready (rs := [4]) (by kernel_rfl) (by simp) ?_
    refine AllReadyH.cons (o := { dst := some 69, op := Go.Op.buildSlice 25 1 #[(0, Go.Operand.const (Go.Value.string { data := #[120] }))], type := 25, pos := "law.go:23", after := #[{ on := 2, ground := Go.Ground.guard }], guard := some (2, true) }) rfl (fun K hK => ?_) AllReadyH.nil
    go_simp
    refine hK.out _ _ (sn_on gvl gxl (below_al (Below.refl _ _) _) hH5) (fun hH6 => ?_)
    clear hK K
    (try simp only [Act.put, List.setIfInBounds_toArray, List.set_cons_zero, List.set_cons_succ])
    refine wpAnyH_ready (rs := [10]) (by kernel_rfl) (by simp) ?_
    refine AllReadyH.cons (o := { dst := some 75, op := Go.Op.call { callee := Go.Callee.value (Go.Operand.func 15), args := #[Go.Operand.tmp 69, Go.Operand.tmp 74], argTypes := #[25, 24] }, type := 27, pos := "law.go:23", after := #[{ on := 4, ground := Go.Ground.data }, { on := 9, ground := Go.Ground.data }, { on := 8, ground := Go.Ground.chain }, { on := 2, ground := Go.Ground.guard }], guard := some (2, true) }) rfl (fun K hK => ?_) AllReadyH.nil
    go_simp
    refine (refObject_any _ _ _ _ _ _ _).mono ?_
    rintro e wO2 ⟨rfl, hO2⟩
    (try go_wp2_with fail)
    refine hK.out _ _ (sn_on gvl gxl hO2 hH6) (fun hH7 => ?_)
    clear hK K
    (try simp only [Act.put, List.setIfInBounds_toArray, List.set_cons_zero, List.set_cons_succ])
    refine' TAIL.out _ _ ⟨_, _, _, _, _, _, _, _, ?_, ?_⟩ hH7
    rotate_left 8
    · (simp only [Act.put, List.setIfInBounds_toArray, List.set_cons_zero, List.set_cons_succ]) <;> rfl
    · exact lies_exN (by repeat (first | with_reducible exact BlockIs.new _ _ _ | with_reducible exact BlockIs.newAt _ _ _ (by simp) | with_reducible refine bi_on ?_ hO2 | with_reducible refine bi_on ?_ hO1 | with_reducible refine bi_on ?_ hI1 | with_reducible refine bi_al ?_ _ | with_reducible refine bi_drew ?_)) (by repeat (first | with_reducible exact BlockIs.new _ _ _ | with_reducible exact BlockIs.newAt _ _ _ (by simp) | with_reducible refine bi_on ?_ hO2 | with_reducible refine bi_on ?_ hO1 | with_reducible refine bi_on ?_ hI1 | with_reducible refine bi_al ?_ _ | with_reducible refine bi_drew ?_)) (by repeat (first | with_reducible exact BlockIs.new _ _ _ | with_reducible exact BlockIs.newAt _ _ _ (by simp) | with_reducible refine bi_on ?_ hO2 | with_reducible refine bi_on ?_ hO1 | with_reducible refine bi_on ?_ hI1 | with_reducible refine bi_al ?_ _ | with_reducible refine bi_drew ?_)) (by repeat (first | with_reducible exact BlockIs.new _ _ _ | with_reducible exact BlockIs.newAt _ _ _ (by simp) | with_reducible refine bi_on ?_ hO2 | with_reducible refine bi_on ?_ hO1 | with_reducible refine bi_on ?_ hI1 | with_reducible refine bi_al ?_ _ | with_reducible refine bi_drew ?_))
  refine AllReadyH.cons (o := { dst := some 72, op := Go.Op.buildSlice 24 1 #[(0, Go.Operand.tmp 71)], type := 24, pos := "law.go:23", after := #[{ on := 6, ground := Go.Ground.data }, { on := 2, ground := Go.Ground.guard }], guard := some (2, true) }) rfl (fun K hK => ?_) AllReadyH.nil
  go_simp
  refine hK.out _ _ (sn_on gvl gxl (below_al (Below.refl _ _) _) hH1) (fun hH2 => ?_)
  clear hK K
  (try simp only [Act.put, List.setIfInBounds_toArray, List.set_cons_zero, List.set_cons_succ])
  refine wpAnyH_ready (rs := [4, 5]) (by kernel_rfl) (by simp) ?_
  refine AllReadyH.cons (o := { dst := some 69, op := Go.Op.buildSlice 25 1 #[(0, Go.Operand.const (Go.Value.string { data := #[120] }))], type := 25, pos := "law.go:23", after := #[{ on := 2, ground := Go.Ground.guard }], guard := some (2, true) }) rfl (fun K hK => ?_) ?_
  · go_simp
    refine hK.out _ _ (sn_on gvl gxl (below_al (Below.refl _ _) _) hH2) (fun hH3 => ?_)
    clear hK K
    (try simp only [Act.put, List.setIfInBounds_toArray, List.set_cons_zero, List.set_cons_succ])
    refine wpAnyH_ready (rs := [5]) (by kernel_rfl) (by simp) ?_
    refine AllReadyH.cons (o := { dst := some 70, op := Go.Op.buildSlice 25 1 #[(0, Go.Operand.const (Go.Value.string { data := #[121] }))], type := 25, pos := "law.go:23", after := #[{ on := 2, ground := Go.Ground.guard }], guard := some (2, true) }) rfl (fun K hK => ?_) AllReadyH.nil
    go_simp
    refine hK.out _ _ (sn_on gvl gxl (below_al (Below.refl _ _) _) hH3) (fun hH4 => ?_)
    clear hK K
    (try simp only [Act.put, List.setIfInBounds_toArray, List.set_cons_zero, List.set_cons_succ])
    refine wpAnyH_ready (rs := [8]) (by kernel_rfl) (by simp) ?_
    refine AllReadyH.cons (o := { dst := some 73, op := Go.Op.call { callee := Go.Callee.value (Go.Operand.func 15), args := #[Go.Operand.tmp 70, Go.Operand.tmp 72], argTypes := #[25, 24] }, type := 27, pos := "law.go:23", after := #[{ on := 5, ground := Go.Ground.data }, { on := 7, ground := Go.Ground.data }, { on := 6, ground := Go.Ground.chain }, { on := 2, ground := Go.Ground.guard }], guard := some (2, true) }) rfl (fun K hK => ?_) AllReadyH.nil
    go_simp
    refine (refObject_any _ _ _ _ _ _ _).mono ?_
    rintro e wO1 ⟨rfl, hO1⟩
    (try go_wp2_with fail)
    refine hK.out _ _ (sn_on gvl gxl hO1 hH4) (fun hH5 => ?_)
    clear hK K
    (try simp only [Act.put, List.setIfInBounds_toArray, List.set_cons_zero, List.set_cons_succ])
    refine wpAnyH_ready (rs := [9]) (by kernel_rfl) (by simp) ?_
    refine AllReadyH.cons (o := { dst := some 74, op := Go.Op.buildSlice 24 1 #[(0, Go.Operand.tmp 73)], type := 24, pos := "law.go:23", after := #[{ on := 8, ground := Go.Ground.data }, { on := 2, ground := Go.Ground.guard }], guard := some (2, true) }) rfl (fun K hK => ?_) AllReadyH.nil
    go_simp
    refine hK.out _ _ (sn_on gvl gxl (below_al (Below.refl _ _) _) hH5) (fun hH6 => ?_)
    clear hK K
    (try simp only [Act.put, List.setIfInBounds_toArray, List.set_cons_zero, List.set_cons_succ])
    refine wpAnyH_ready (rs := [10]) (by kernel_rfl) (by simp) ?_
    refine AllReadyH.cons (o := { dst := some 75, op := Go.Op.call { callee := Go.Callee.value (Go.Operand.func 15), args := #[Go.Operand.tmp 69, Go.Operand.tmp 74], argTypes := #[25, 24] }, type := 27, pos := "law.go:23", after := #[{ on := 4, ground := Go.Ground.data }, { on := 9, ground := Go.Ground.data }, { on := 8, ground := Go.Ground.chain }, { on := 2, ground := Go.Ground.guard }], guard := some (2, true) }) rfl (fun K hK => ?_) AllReadyH.nil
    go_simp
    refine (refObject_any _ _ _ _ _ _ _).mono ?_
    rintro e wO2 ⟨rfl, hO2⟩
    (try go_wp2_with fail)
    refine hK.out _ _ (sn_on gvl gxl hO2 hH6) (fun hH7 => ?_)
    clear hK K
    (try simp only [Act.put, List.setIfInBounds_toArray, List.set_cons_zero, List.set_cons_succ])
    refine' TAIL.out _ _ ⟨_, _, _, _, _, _, _, _, ?_, ?_⟩ hH7
    rotate_left 8
    · (simp only [Act.put, List.setIfInBounds_toArray, List.set_cons_zero, List.set_cons_succ]) <;> rfl
    · exact lies_exN (by repeat (first | with_reducible exact BlockIs.new _ _ _ | with_reducible exact BlockIs.newAt _ _ _ (by simp) | with_reducible refine bi_on ?_ hO2 | with_reducible refine bi_on ?_ hO1 | with_reducible refine bi_on ?_ hI1 | with_reducible refine bi_al ?_ _ | with_reducible refine bi_drew ?_)) (by repeat (first | with_reducible exact BlockIs.new _ _ _ | with_reducible exact BlockIs.newAt _ _ _ (by simp) | with_reducible refine bi_on ?_ hO2 | with_reducible refine bi_on ?_ hO1 | with_reducible refine bi_on ?_ hI1 | with_reducible refine bi_al ?_ _ | with_reducible refine bi_drew ?_)) (by repeat (first | with_reducible exact BlockIs.new _ _ _ | with_reducible exact BlockIs.newAt _ _ _ (by simp) | with_reducible refine bi_on ?_ hO2 | with_reducible refine bi_on ?_ hO1 | with_reducible refine bi_on ?_ hI1 | with_reducible refine bi_al ?_ _ | with_reducible refine bi_drew ?_)) (by repeat (first | with_reducible exact BlockIs.new _ _ _ | with_reducible exact BlockIs.newAt _ _ _ (by simp) | with_reducible refine bi_on ?_ hO2 | with_reducible refine bi_on ?_ hO1 | with_reducible refine bi_on ?_ hI1 | with_reducible refine bi_al ?_ _ | with_reducible refine bi_drew ?_))
  refine AllReadyH.cons (o := { dst := some 70, op := Go.Op.buildSlice 25 1 #[(0, Go.Operand.const (Go.Value.string { data := #[121] }))], type := 25, pos := "law.go:23", after := #[{ on := 2, ground := Go.Ground.guard }], guard := some (2, true) }) rfl (fun K hK => ?_) AllReadyH.nil
  go_simp
  refine hK.out _ _ (sn_on gvl gxl (below_al (Below.refl _ _) _) hH2) (fun hH3 => ?_)
  clear hK K
  (try simp only [Act.put, List.setIfInBounds_toArray, List.set_cons_zero, List.set_cons_succ])
  refine wpAnyH_ready (rs := [4, 8]) (by kernel_rfl) (by simp) ?_
  refine AllReadyH.cons (o := { dst := some 69, op := Go.Op.buildSlice 25 1 #[(0, Go.Operand.const (Go.Value.string { data := #[120] }))], type := 25, pos := "law.go:23", after := #[{ on := 2, ground := Go.Ground.guard }], guard := some (2, true) }) rfl (fun K hK => ?_) ?_
  · go_simp
    refine hK.out _ _ (sn_on gvl gxl (below_al (Below.refl _ _) _) hH3) (fun hH4 => ?_)
    clear hK K
    (try simp only [Act.put, List.setIfInBounds_toArray, List.set_cons_zero, List.set_cons_succ])
    refine wpAnyH_ready (rs := [8]) (by kernel_rfl) (by simp) ?_
    refine AllReadyH.cons (o := { dst := some 73, op := Go.Op.call { callee := Go.Callee.value (Go.Operand.func 15), args := #[Go.Operand.tmp 70, Go.Operand.tmp 72], argTypes := #[25, 24] }, type := 27, pos := "law.go:23", after := #[{ on := 5, ground := Go.Ground.data }, { on := 7, ground := Go.Ground.data }, { on := 6, ground := Go.Ground.chain }, { on := 2, ground := Go.Ground.guard }], guard := some (2, true) }) rfl (fun K hK => ?_) AllReadyH.nil
    go_simp
    refine (refObject_any _ _ _ _ _ _ _).mono ?_
    rintro e wO1 ⟨rfl, hO1⟩
    (try go_wp2_with fail)
    refine hK.out _ _ (sn_on gvl gxl hO1 hH4) (fun hH5 => ?_)
    clear hK K
    (try simp only [Act.put, List.setIfInBounds_toArray, List.set_cons_zero, List.set_cons_succ])
    refine wpAnyH_ready (rs := [9]) (by kernel_rfl) (by simp) ?_
    refine AllReadyH.cons (o := { dst := some 74, op := Go.Op.buildSlice 24 1 #[(0, Go.Operand.tmp 73)], type := 24, pos := "law.go:23", after := #[{ on := 8, ground := Go.Ground.data }, { on := 2, ground := Go.Ground.guard }], guard := some (2, true) }) rfl (fun K hK => ?_) AllReadyH.nil
    go_simp
    refine hK.out _ _ (sn_on gvl gxl (below_al (Below.refl _ _) _) hH5) (fun hH6 => ?_)
    clear hK K
    (try simp only [Act.put, List.setIfInBounds_toArray, List.set_cons_zero, List.set_cons_succ])
    refine wpAnyH_ready (rs := [10]) (by kernel_rfl) (by simp) ?_
    refine AllReadyH.cons (o := { dst := some 75, op := Go.Op.call { callee := Go.Callee.value (Go.Operand.func 15), args := #[Go.Operand.tmp 69, Go.Operand.tmp 74], argTypes := #[25, 24] }, type := 27, pos := "law.go:23", after := #[{ on := 4, ground := Go.Ground.data }, { on := 9, ground := Go.Ground.data }, { on := 8, ground := Go.Ground.chain }, { on := 2, ground := Go.Ground.guard }], guard := some (2, true) }) rfl (fun K hK => ?_) AllReadyH.nil
    go_simp
    refine (refObject_any _ _ _ _ _ _ _).mono ?_
    rintro e wO2 ⟨rfl, hO2⟩
    (try go_wp2_with fail)
    refine hK.out _ _ (sn_on gvl gxl hO2 hH6) (fun hH7 => ?_)
    clear hK K
    (try simp only [Act.put, List.setIfInBounds_toArray, List.set_cons_zero, List.set_cons_succ])
    refine' TAIL.out _ _ ⟨_, _, _, _, _, _, _, _, ?_, ?_⟩ hH7
    rotate_left 8
    · (simp only [Act.put, List.setIfInBounds_toArray, List.set_cons_zero, List.set_cons_succ]) <;> rfl
    · exact lies_exN (by repeat (first | with_reducible exact BlockIs.new _ _ _ | with_reducible exact BlockIs.newAt _ _ _ (by simp) | with_reducible refine bi_on ?_ hO2 | with_reducible refine bi_on ?_ hO1 | with_reducible refine bi_on ?_ hI1 | with_reducible refine bi_al ?_ _ | with_reducible refine bi_drew ?_)) (by repeat (first | with_reducible exact BlockIs.new _ _ _ | with_reducible exact BlockIs.newAt _ _ _ (by simp) | with_reducible refine bi_on ?_ hO2 | with_reducible refine bi_on ?_ hO1 | with_reducible refine bi_on ?_ hI1 | with_reducible refine bi_al ?_ _ | with_reducible refine bi_drew ?_)) (by repeat (first | with_reducible exact BlockIs.new _ _ _ | with_reducible exact BlockIs.newAt _ _ _ (by simp) | with_reducible refine bi_on ?_ hO2 | with_reducible refine bi_on ?_ hO1 | with_reducible refine bi_on ?_ hI1 | with_reducible refine bi_al ?_ _ | with_reducible refine bi_drew ?_)) (by repeat (first | with_reducible exact BlockIs.new _ _ _ | with_reducible exact BlockIs.newAt _ _ _ (by simp) | with_reducible refine bi_on ?_ hO2 | with_reducible refine bi_on ?_ hO1 | with_reducible refine bi_on ?_ hI1 | with_reducible refine bi_al ?_ _ | with_reducible refine bi_drew ?_))
  refine AllReadyH.cons (o := { dst := some 73, op := Go.Op.call { callee := Go.Callee.value (Go.Operand.func 15), args := #[Go.Operand.tmp 70, Go.Operand.tmp 72], argTypes := #[25, 24] }, type := 27, pos := "law.go:23", after := #[{ on := 5, ground := Go.Ground.data }, { on := 7, ground := Go.Ground.data }, { on := 6, ground := Go.Ground.chain }, { on := 2, ground := Go.Ground.guard }], guard := some (2, true) }) rfl (fun K hK => ?_) AllReadyH.nil
  go_simp
  refine (refObject_any _ _ _ _ _ _ _).mono ?_
  rintro e wO1 ⟨rfl, hO1⟩
  (try go_wp2_with fail)
  refine hK.out _ _ (sn_on gvl gxl hO1 hH3) (fun hH4 => ?_)
  clear hK K
  (try simp only [Act.put, List.setIfInBounds_toArray, List.set_cons_zero, List.set_cons_succ])
  refine wpAnyH_ready (rs := [4, 9]) (by kernel_rfl) (by simp) ?_
  refine AllReadyH.cons (o := { dst := some 69, op := Go.Op.buildSlice 25 1 #[(0, Go.Operand.const (Go.Value.string { data := #[120] }))], type := 25, pos := "law.go:23", after := #[{ on := 2, ground := Go.Ground.guard }], guard := some (2, true) }) rfl (fun K hK => ?_) ?_
  · go_simp
    refine hK.out _ _ (sn_on gvl gxl (below_al (Below.refl _ _) _) hH4) (fun hH5 => ?_)
    clear hK K
    (try simp only [Act.put, List.setIfInBounds_toArray, List.set_cons_zero, List.set_cons_succ])
    refine wpAnyH_ready (rs := [9]) (by kernel_rfl) (by simp) ?_
    refine AllReadyH.cons (o := { dst := some 74, op := Go.Op.buildSlice 24 1 #[(0, Go.Operand.tmp 73)], type := 24, pos := "law.go:23", after := #[{ on := 8, ground := Go.Ground.data }, { on := 2, ground := Go.Ground.guard }], guard := some (2, true) }) rfl (fun K hK => ?_) AllReadyH.nil
    go_simp
    refine hK.out _ _ (sn_on gvl gxl (below_al (Below.refl _ _) _) hH5) (fun hH6 => ?_)
    clear hK K
    (try simp only [Act.put, List.setIfInBounds_toArray, List.set_cons_zero, List.set_cons_succ])
    refine wpAnyH_ready (rs := [10]) (by kernel_rfl) (by simp) ?_
    refine AllReadyH.cons (o := { dst := some 75, op := Go.Op.call { callee := Go.Callee.value (Go.Operand.func 15), args := #[Go.Operand.tmp 69, Go.Operand.tmp 74], argTypes := #[25, 24] }, type := 27, pos := "law.go:23", after := #[{ on := 4, ground := Go.Ground.data }, { on := 9, ground := Go.Ground.data }, { on := 8, ground := Go.Ground.chain }, { on := 2, ground := Go.Ground.guard }], guard := some (2, true) }) rfl (fun K hK => ?_) AllReadyH.nil
    go_simp
    refine (refObject_any _ _ _ _ _ _ _).mono ?_
    rintro e wO2 ⟨rfl, hO2⟩
    (try go_wp2_with fail)
    refine hK.out _ _ (sn_on gvl gxl hO2 hH6) (fun hH7 => ?_)
    clear hK K
    (try simp only [Act.put, List.setIfInBounds_toArray, List.set_cons_zero, List.set_cons_succ])
    refine' TAIL.out _ _ ⟨_, _, _, _, _, _, _, _, ?_, ?_⟩ hH7
    rotate_left 8
    · (simp only [Act.put, List.setIfInBounds_toArray, List.set_cons_zero, List.set_cons_succ]) <;> rfl
    · exact lies_exN (by repeat (first | with_reducible exact BlockIs.new _ _ _ | with_reducible exact BlockIs.newAt _ _ _ (by simp) | with_reducible refine bi_on ?_ hO2 | with_reducible refine bi_on ?_ hO1 | with_reducible refine bi_on ?_ hI1 | with_reducible refine bi_al ?_ _ | with_reducible refine bi_drew ?_)) (by repeat (first | with_reducible exact BlockIs.new _ _ _ | with_reducible exact BlockIs.newAt _ _ _ (by simp) | with_reducible refine bi_on ?_ hO2 | with_reducible refine bi_on ?_ hO1 | with_reducible refine bi_on ?_ hI1 | with_reducible refine bi_al ?_ _ | with_reducible refine bi_drew ?_)) (by repeat (first | with_reducible exact BlockIs.new _ _ _ | with_reducible exact BlockIs.newAt _ _ _ (by simp) | with_reducible refine bi_on ?_ hO2 | with_reducible refine bi_on ?_ hO1 | with_reducible refine bi_on ?_ hI1 | with_reducible refine bi_al ?_ _ | with_reducible refine bi_drew ?_)) (by repeat (first | with_reducible exact BlockIs.new _ _ _ | with_reducible exact BlockIs.newAt _ _ _ (by simp) | with_reducible refine bi_on ?_ hO2 | with_reducible refine bi_on ?_ hO1 | with_reducible refine bi_on ?_ hI1 | with_reducible refine bi_al ?_ _ | with_reducible refine bi_drew ?_))
  refine AllReadyH.cons (o := { dst := some 74, op := Go.Op.buildSlice 24 1 #[(0, Go.Operand.tmp 73)], type := 24, pos := "law.go:23", after := #[{ on := 8, ground := Go.Ground.data }, { on := 2, ground := Go.Ground.guard }], guard := some (2, true) }) rfl (fun K hK => ?_) AllReadyH.nil
  go_simp
  refine hK.out _ _ (sn_on gvl gxl (below_al (Below.refl _ _) _) hH4) (fun hH5 => ?_)
  clear hK K
  (try simp only [Act.put, List.setIfInBounds_toArray, List.set_cons_zero, List.set_cons_succ])
  refine wpAnyH_ready (rs := [4]) (by kernel_rfl) (by simp) ?_
  refine AllReadyH.cons (o := { dst := some 69, op := Go.Op.buildSlice 25 1 #[(0, Go.Operand.const (Go.Value.string { data := #[120] }))], type := 25, pos := "law.go:23", after := #[{ on := 2, ground := Go.Ground.guard }], guard := some (2, true) }) rfl (fun K hK => ?_) AllReadyH.nil
  go_simp
  refine hK.out _ _ (sn_on gvl gxl (below_al (Below.refl _ _) _) hH5) (fun hH6 => ?_)
  clear hK K
  (try simp only [Act.put, List.setIfInBounds_toArray, List.set_cons_zero, List.set_cons_succ])
  refine wpAnyH_ready (rs := [10]) (by kernel_rfl) (by simp) ?_
  refine AllReadyH.cons (o := { dst := some 75, op := Go.Op.call { callee := Go.Callee.value (Go.Operand.func 15), args := #[Go.Operand.tmp 69, Go.Operand.tmp 74], argTypes := #[25, 24] }, type := 27, pos := "law.go:23", after := #[{ on := 4, ground := Go.Ground.data }, { on := 9, ground := Go.Ground.data }, { on := 8, ground := Go.Ground.chain }, { on := 2, ground := Go.Ground.guard }], guard := some (2, true) }) rfl (fun K hK => ?_) AllReadyH.nil
  go_simp
  refine (refObject_any _ _ _ _ _ _ _).mono ?_
  rintro e wO2 ⟨rfl, hO2⟩
  (try go_wp2_with fail)
  refine hK.out _ _ (sn_on gvl gxl hO2 hH6) (fun hH7 => ?_)
  clear hK K
  (try simp only [Act.put, List.setIfInBounds_toArray, List.set_cons_zero, List.set_cons_succ])
  refine' TAIL.out _ _ ⟨_, _, _, _, _, _, _, _, ?_, ?_⟩ hH7
  rotate_left 8
  · (simp only [Act.put, List.setIfInBounds_toArray, List.set_cons_zero, List.set_cons_succ]) <;> rfl
  · exact lies_exN (by repeat (first | with_reducible exact BlockIs.new _ _ _ | with_reducible exact BlockIs.newAt _ _ _ (by simp) | with_reducible refine bi_on ?_ hO2 | with_reducible refine bi_on ?_ hO1 | with_reducible refine bi_on ?_ hI1 | with_reducible refine bi_al ?_ _ | with_reducible refine bi_drew ?_)) (by repeat (first | with_reducible exact BlockIs.new _ _ _ | with_reducible exact BlockIs.newAt _ _ _ (by simp) | with_reducible refine bi_on ?_ hO2 | with_reducible refine bi_on ?_ hO1 | with_reducible refine bi_on ?_ hI1 | with_reducible refine bi_al ?_ _ | with_reducible refine bi_drew ?_)) (by repeat (first | with_reducible exact BlockIs.new _ _ _ | with_reducible exact BlockIs.newAt _ _ _ (by simp) | with_reducible refine bi_on ?_ hO2 | with_reducible refine bi_on ?_ hO1 | with_reducible refine bi_on ?_ hI1 | with_reducible refine bi_al ?_ _ | with_reducible refine bi_drew ?_)) (by repeat (first | with_reducible exact BlockIs.new _ _ _ | with_reducible exact BlockIs.newAt _ _ _ (by simp) | with_reducible refine bi_on ?_ hO2 | with_reducible refine bi_on ?_ hO1 | with_reducible refine bi_on ?_ hI1 | with_reducible refine bi_al ?_ _ | with_reducible refine bi_drew ?_))
end Go.Proofs.YtchadlbhdcpojaaGreatDoor

/- PROVED: for every two paths and every string of at most maxLen bytes the law VariantPaths (on paths Valid, Order, PathText and ParsePath are as the chapter says; ParsePath at most 2000 bytes) returns true and leaves its arguments as they read before; the card ties the listed tables of the library to the program's text. Conditions: those of the given row alone (the tables hold what their initialisers lay). -/
import Derived.Test.YthlmnhelmhnpfaaGreatDoorTe
import Derived.Test.YthlmnhelmhnpfaaGreatDoorTf
import Derived.Test.YthlmnhelmhnpfaaGreatDoorTg
import Derived.Test.YthlmnhelmhnpfaaGreatDoorVb
import Derived.Test.YthlmnhelmhnpfaaGreatDoorYh
import Derived.Test.YthlmnhelmhnpfaaGreatDoorVo
import Derived.Test.YthlmnhelmhnpfaaGreatDoorZc
import Derived.ChangeMaps5
import Derived.Test.YthlmnhelmhnpfaaGreatDoorZr
namespace Go.Proofs.YthlmnhelmhnpfaaGreatDoor
open Go.RowKit
set_option maxRecDepth 100000 in
set_option maxHeartbeats 4000000 in
theorem refPathOrder_any (p q : List Stp) (w : World) (A A' : Option Addr) (c c' : Nat) (hp : PLies w w.heap.size A c p) (hq : PLies w w.heap.size A' c' q) :
    Calls Tryz.prog 9 #[.slice A p.length c, .slice A' q.length c'] w (OrdPost p q w) := by
  obtain ⟨b, hb⟩ : ∃ b, pathB p = b := ⟨_, rfl⟩
  obtain ⟨b', hb'⟩ : ∃ b, pathB q = b := ⟨_, rfl⟩
  have HP := Lib.hid fun W (hW : Below w.heap.size w W) => refPathValid_is p W A c (hp.on hW) hb
  have HQ := Lib.hid fun W (hW : Below w.heap.size w W) => refPathValid_is q W A' c' (hq.on hW) hb'
  have HO := Lib.hid fun W (hW : Below w.heap.size w W) => refPathCompare_any p q W A A' c c' (hp.on hW) (hq.on hW)
  obtain ⟨r, hr⟩ : ∃ r, r = refCmpP p q := ⟨_, rfl⟩
  have HR := Lib.hid hr
  obtain ⟨n, hn⟩ : ∃ n, n = p.length := ⟨_, rfl⟩
  obtain ⟨m, hm⟩ : ∃ m, m = q.length := ⟨_, rfl⟩
  have HB := Lib.hid (And.intro hb hb')
  rw [← hr] at HO
  rw [← hn] at HP HO
  rw [← hm] at HQ HO
  rw [← hn, ← hm]
  clear hp hq hr hn hm hb hb'
  cases b
  · have HF := Lib.hid (show (pathB p && pathB q) = false by rw [HB.out.1]; rfl)
    go_enter Tryz.func9, Tryz.ntmps9
    go_wp2_with fail
    refine (HP.out _ (Below.refl _ w)).mono ?_
    rintro e w1 ⟨rfl, h1⟩
    have HB1 := Lib.hid h1
    clear h1
    go_wp2_with fail
    go_ret2
    exact OrdPost.no HF.out HB1.out
  · cases b'
    · have HF := Lib.hid (show (pathB p && pathB q) = false by rw [HB.out.1, HB.out.2]; rfl)
      go_enter Tryz.func9, Tryz.ntmps9
      go_wp2_with fail
      refine (HP.out _ (Below.refl _ w)).mono ?_
      rintro e w1 ⟨rfl, h1⟩
      have HB1 := Lib.hid h1
      clear h1
      go_wp2_with fail
      refine (HQ.out _ HB1.out).mono ?_
      rintro e w2 ⟨rfl, h2⟩
      have HB2 := Lib.hid (below_on HB1.out h2)
      clear h2
      go_wp2_with fail
      go_ret2
      exact OrdPost.no HF.out HB2.out
    · have HF := Lib.hid (show (pathB p && pathB q) = true by rw [HB.out.1, HB.out.2]; rfl)
      go_enter Tryz.func9, Tryz.ntmps9
      go_wp2_with fail
      refine (HP.out _ (Below.refl _ w)).mono ?_
      rintro e w1 ⟨rfl, h1⟩
      have HB1 := Lib.hid h1
      clear h1
      go_wp2_with fail
      refine (HQ.out _ HB1.out).mono ?_
      rintro e w2 ⟨rfl, h2⟩
      have HB2 := Lib.hid (below_on HB1.out h2)
      clear h2
      go_wp2_with fail
      refine (HO.out _ HB2.out).mono ?_
      rintro e w3 ⟨rfl, h3⟩
      have HB3 := Lib.hid (below_on HB2.out h3)
      clear h3
      go_wp2_with fail
      go_ret2
      exact OrdPost.yes (by rw [HR.out, path_agree (path_valid HB.out.1).2 (path_valid HB.out.2).2]) HF.out HB3.out
theorem refPathP_is (l : List UInt8) : refPathP l = match prefQ l with | none => none | some (p, r) => if r = [] then some p else none := by
  unfold refPathP prefQ
  by_cases h : l.head? = some 36
  · rw [if_pos h, if_pos h]
    cases refLoopP (l.length + 1) l.tail [] with
    | none => rfl
    | some q =>
      obtain ⟨p, r⟩ := q
      unfold fitQ
      dsimp only
      by_cases h1 : pathB p = true ∧ pathT p ++ r = l
      · rw [if_pos h1]
        by_cases h2 : r = []
        · simp only [if_pos h2, if_pos (And.intro h1 h2)]
        · simp only [if_neg h2, if_neg (fun e : (pathB p = true ∧ pathT p ++ r = l) ∧ r = [] => h2 e.2)]
      · rw [if_neg h1]
        simp only [if_neg (fun e : (pathB p = true ∧ pathT p ++ r = l) ∧ r = [] => h1 e.1)]
  · rw [if_neg h, if_neg h]
theorem prefQ_fit {l : List UInt8} {p : List Stp} {r : List UInt8} (h : prefQ l = some (p, r)) : pathT p ++ r = l := by
  unfold prefQ at h
  split at h
  · unfold fitQ at h
    split at h
    · cases h
    · split at h
      · rename_i g
        cases h
        exact g.2
      · cases h
  · cases h
set_option maxRecDepth 100000 in
set_option maxHeartbeats 4000000 in
theorem refParsePath_any (s : ByteArray) (w : World) (hs : s.size ≤ 100000) :
    Calls Tryz.prog 13 #[.string s] w (ParPost (parsePathP s.data.toList) w) := by
  obtain ⟨R, hR⟩ : ∃ R, R = parsePathP s.data.toList := ⟨_, rfl⟩
  obtain ⟨Q, hQ⟩ : ∃ Q, Q = prefQ s.data.toList := ⟨_, rfl⟩
  rw [← hR]
  have hRQ := refPathP_is s.data.toList
  rw [refPath_is, ← hR, ← hQ] at hRQ
  have HPF := Lib.hid (refPrefix_any (fun u W hu => vprefix_any u hu W) s w hs)
  rw [← hQ] at HPF
  cases Q with
  | none =>
    have HN := Lib.hid (show R = none from hRQ)
    clear hR hQ hRQ
    go_enter Tryz.func13, Tryz.ntmps13
    go_wp2_with fail
    refine HPF.out.mono ?_
    rintro e w1 ⟨h1, rfl⟩
    have HB1 := Lib.hid h1
    clear h1
    go_wp2_with fail
    go_ret2
    exact ParPost.no HN.out HB1.out
  | some q =>
    obtain ⟨p, r⟩ := q
    have hf := prefQ_fit hQ.symm
    have hf1 := congrArg List.length hf
    rw [List.length_append, size_list] at hf1
    have hp1 : 0 < (pathT p).length := by unfold pathT; simp
    have HRQ := Lib.hid (show R = if r = [] then some p else none from hRQ)
    obtain ⟨n, hn⟩ : ∃ n, n = p.length := ⟨_, rfl⟩
    have HNN := Lib.hid hn
    clear hR hQ hRQ hf
    go_enter Tryz.func13, Tryz.ntmps13
    go_wp2_with fail
    refine HPF.out.mono ?_
    rintro e w1 ⟨h1, A, c, k, rfl, hk, hr, hpl⟩
    rw [← HNN.out]
    have HB1 := Lib.hid h1
    have HPL := Lib.hid hpl
    rw [hr, show (sfx s k).length = s.size - k by unfold sfx; rw [List.length_drop, size_list]] at hf1
    have k1 : ((k : Int) == 0) = false := by rw [beq_eq_false_iff_ne]; omega
    by_cases hks : k < s.size
    · have HN := Lib.hid (show R = none by
        rw [HRQ.out, if_neg]
        intro e
        have := congrArg List.length (hr.symm.trans e)
        rw [show (sfx s k).length = s.size - k by unfold sfx; rw [List.length_drop, size_list]] at this
        simp at this
        omega)
      have k2 : (k : Int) < s.size := by omega
      clear h1 hpl hr hf1 hp1 hn hks
      go_wp2_with fail
      go_ret2
      exact ParPost.no HN.out HB1.out
    · have HY := Lib.hid (show R = some p by
        rw [HRQ.out, if_pos]
        rw [hr]
        apply List.eq_nil_of_length_eq_zero
        rw [show (sfx s k).length = s.size - k by unfold sfx; rw [List.length_drop, size_list]]
        omega)
      have k2 : ¬ (k : Int) < s.size := by omega
      clear h1 hpl hr hf1 hp1 hn hks
      go_wp2_with fail
      go_ret2
      rw [HNN.out]
      exact ParPost.yes HY.out HPL.out HB1.out
open Go.RowKit
set_option maxRecDepth 100000 in
set_option maxHeartbeats 16000000 in
theorem law_paths (p q : List Stp) (s : ByteArray) (w : World) (A0 : Option Addr) (c0 : Nat) (A1 : Option Addr) (c1 : Nat) (hp : PLies w w.heap.size A0 c0 p) (hq : PLies w w.heap.size A1 c1 q) (_ : s.size ≤ maxLen) (hpw : Pow w) :
    Calls Tryz.prog 3 #[.slice A0 p.length c0, .slice A1 q.length c1, .string s] w fun e w' => e = .returned (.bool true) ∧ Below w.heap.size w w' := by
  have HA := Lib.hid fun W (hW : Below w.heap.size w W) => awake2_any W (hpw.on hW)
  obtain ⟨n, hn⟩ : ∃ n, n = p.length := ⟨_, rfl⟩
  obtain ⟨m, hm⟩ : ∃ n, n = q.length := ⟨_, rfl⟩
  by_cases hlen : s.size ≤ 2000
  · obtain ⟨b, hb⟩ : ∃ b, pathB p = b := ⟨_, rfl⟩
    obtain ⟨t, g, ht⟩ : ∃ (t : ByteArray) (n : Int), pathTx p = (t, n) := ⟨_, _, rfl⟩
    obtain ⟨r, f, hr⟩ : ∃ r f : Int, (if (pathB p && pathB q) = true then Value.tuple #[.int .i64 (cmpPathP p q), .int .i64 0] else .tuple #[.int .i64 0, .int .i64 1]) = .tuple #[.int .i64 r, .int .i64 f] := by
      split
      · exact ⟨_, _, rfl⟩
      · exact ⟨_, _, rfl⟩
    have HV := Lib.hid fun W (hW : Below w.heap.size w W) => pathValid_is p W A0 c0 (hp.on hW) hb
    have HVR := Lib.hid fun W (hW : Below w.heap.size w W) => refPathValid_is p W A0 c0 (hp.on hW) hb
    have HO := Lib.hid fun W (hW : Below w.heap.size w W) => show Calls Tryz.prog 8 #[.slice A0 p.length c0, .slice A1 q.length c1] W fun e w' => e = .returned (.tuple #[.int .i64 r, .int .i64 f]) ∧ Below W.heap.size W w' by
      refine (pathOrder_any p q W A0 A1 c0 c1 (hp.on hW) (hq.on hW)).mono ?_
      rintro e w' ⟨he, hb'⟩
      rw [hr] at he
      exact ⟨he, hb'⟩
    have HOR := Lib.hid fun W (hW : Below w.heap.size w W) => show Calls Tryz.prog 9 #[.slice A0 p.length c0, .slice A1 q.length c1] W fun e w' => e = .returned (.tuple #[.int .i64 r, .int .i64 f]) ∧ Below W.heap.size W w' by
      refine (refPathOrder_any p q W A0 A1 c0 c1 (hp.on hW) (hq.on hW)).mono ?_
      rintro e w' ⟨he, hb'⟩
      rw [hr] at he
      exact ⟨he, hb'⟩
    have HT := Lib.hid fun W (hW : Below w.heap.size w W) => pathText_all p W A0 c0 (hp.on hW) (hpw.on hW)
    have HTR := Lib.hid fun W (hW : Below w.heap.size w W) => refPathText_any p W A0 c0 (hp.on hW)
    rw [ht] at HT HTR
    obtain ⟨R, hR⟩ : ∃ R, R = parsePathP s.data.toList := ⟨_, rfl⟩
    have HX := Lib.hid fun W (hW : Below w.heap.size w W) => parsePath_any s W (by omega) (hpw.on hW)
    have HY := Lib.hid fun W (_ : Below w.heap.size w W) => refParsePath_any s W (by omega)
    rw [← hR] at HX HY
    have HRES : Hid (∃ (l : List Stp) (i : Int), (∀ W, Below w.heap.size w W → Calls Tryz.prog 12 #[.string s] W fun e w' => Below W.heap.size W w' ∧ ∃ A c, e = .returned (.tuple #[.slice A l.length c, .int .i64 i]) ∧ PLies w' w'.heap.size A c l)
        ∧ ∀ W, Below w.heap.size w W → Calls Tryz.prog 13 #[.string s] W fun e w' => Below W.heap.size W w' ∧ ∃ A c, e = .returned (.tuple #[.slice A l.length c, .int .i64 i]) ∧ PLies w' w'.heap.size A c l) := by
      cases R with
      | none =>
        refine Lib.hid ⟨[], 14, fun W hW => (HX.out W hW).mono ?_, fun W hW => (HY.out W hW).mono ?_⟩
        all_goals
          rintro e w' ⟨hb', rfl⟩
          exact ⟨hb', none, 0, rfl, ⟨Nat.le_refl _, Nat.zero_le _, .inl rfl⟩⟩
      | some l => exact Lib.hid ⟨l, 0, HX.out, HY.out⟩
    clear HX HY hR R
    obtain ⟨l, i, hX, hY⟩ := HRES.out
    have HX := Lib.hid hX
    have HY := Lib.hid hY
    have HC := Lib.hid fun W A A' c c' (h : PLies W W.heap.size A c l) (h' : PLies W W.heap.size A' c' l) => (refPathCompare_any l l W A A' c c' h h').mono (R' := fun e w' => e = .returned (.int .i64 0) ∧ Below W.heap.size W w') (by rintro e w' ⟨he, hb'⟩; rw [refCmp_same] at he; exact ⟨he, hb'⟩)
    obtain ⟨k, hk⟩ : ∃ k, k = l.length := ⟨_, rfl⟩
    have h2 : ¬ (2000 : Int) < s.size := by omega
    rw [← hn] at HV HVR HO HOR HT HTR
    rw [← hm] at HO HOR
    rw [← hk] at HX HY HC
    rw [← hn, ← hm]
    clear hp hq hpw hm hn hX hY HRES hk hr ht hb hlen
    go_enter Tryz.func3, Tryz.ntmps3
    go_wp2_with fail
    refine (HO.out _ (Below.refl _ w)).mono ?_
    rintro e w1 ⟨rfl, h1⟩
    have HB1 := Lib.hid h1
    clear h1
    go_wp2_with fail
    refine (HOR.out _ HB1.out).mono ?_
    rintro e w2 ⟨rfl, h2⟩
    have HB2 := Lib.hid (below_on HB1.out h2)
    clear h2
    go_wp2_with fail
    refine (HT.out _ HB2.out).mono ?_
    rintro e w3 ⟨rfl, h3⟩
    have HB3 := Lib.hid (below_on HB2.out h3)
    clear h3
    go_wp2_with fail
    refine (HTR.out _ HB3.out).mono ?_
    rintro e w4 ⟨rfl, h4⟩
    have HB4 := Lib.hid (below_on HB3.out h4)
    clear h4
    go_wp2_with fail
    refine (HX.out _ HB4.out).mono ?_
    rintro e w5 ⟨h5, A, c, rfl, hpl⟩
    have HB5 := Lib.hid (below_on HB4.out h5)
    have HL5 := Lib.hid hpl
    clear h5 hpl
    go_wp2_with fail
    refine (HY.out _ HB5.out).mono ?_
    rintro e w6 ⟨h6, A', c', rfl, hpl⟩
    have HB6 := Lib.hid (below_on HB5.out h6)
    have HL6 := Lib.hid hpl
    have HL6' := Lib.hid (HL5.out.on h6)
    clear h6 hpl HL5
    go_wp2_with fail
    refine (HV.out _ HB6.out).mono ?_
    rintro e w7 ⟨rfl, h7⟩
    have HB7 := Lib.hid (below_on HB6.out h7)
    have HL7 := Lib.hid (HL6.out.on h7)
    have HL7' := Lib.hid (HL6'.out.on h7)
    clear h7 HL6 HL6'
    go_wp2_with fail
    refine (HVR.out _ HB7.out).mono ?_
    rintro e w8 ⟨rfl, h8⟩
    have HB8 := Lib.hid (below_on HB7.out h8)
    have HL8 := Lib.hid (HL7.out.on h8)
    have HL8' := Lib.hid (HL7'.out.on h8)
    clear h8 HL7 HL7'
    cases b
    all_goals
      go_wp2_with fail
      refine (HC.out _ A A' c c' HL8'.out HL8.out).mono ?_
      rintro e w9 ⟨rfl, h9⟩
      have HB9 := Lib.hid (below_on HB8.out h9)
      clear h9
      go_wp2_with fail
      refine (HA.out _ HB9.out).mono ?_
      rintro e w10 ⟨rfl, h10⟩
      have HB10 := Lib.hid (below_on HB9.out h10)
      clear h10
      go_wp2_with fail
      go_ret
      exact ⟨rfl, HB10.out⟩
  · have h2 : (2000 : Int) < s.size := by omega
    rw [← hn, ← hm]
    clear hp hq hpw hm hn hlen
    go_enter Tryz.func3, Tryz.ntmps3
    go_wp2_with fail
    refine (HA.out _ (Below.refl _ w)).mono ?_
    rintro e w1 ⟨rfl, h1⟩
    have HB1 := Lib.hid h1
    clear h1
    go_wp2_with fail
    go_ret
    exact ⟨rfl, HB1.out⟩
open Go.ChangeShapes Go.WideShapes Go.ChangeAt Go.RowKit
section
variable {H : Type} {enc : TypeId × Value → H}
set_option maxRecDepth 100000 in
theorem open_string {W : World} {base : Nat} {v : Value} {d : DataW H} {p : List MemPlace} {t : TypeId} (ht : Tryz.prog.underlying t = some .string) (hv : Value.okWide Tryz.prog W .any base t v) (h : DataW.Trod enc Tryz.prog W 0 (fun _ => true) true t v d p) :
    ∃ s : ByteArray, v = .string s ∧ d = .lit (.string s.data.toList) ∧ p = [] ∧ s.size ≤ maxLen := Go.ChangeMaps.open_string ht hv h
set_option maxRecDepth 100000 in
theorem string_stays {W W' : World} {sp : Nat → Bool} {v : Value} {d : DataW H} {p : List MemPlace} (h : DataW.Trod enc Tryz.prog W 0 (fun _ => true) true 9 v d p) (hb : Below W.heap.size W W') (hlt : ∀ x ∈ p, x.block < W.heap.size) (hs : ∀ x ∈ p, sp x.block = true) :
    DataW.Trod enc Tryz.prog W' 0 sp true 9 v d p :=
  WideElems.Trod_stays laidOutP (by kernel_rfl) (of_decide_eq_true (by kernel_rfl)) h (fun x hx => hb.same (hlt x hx)) hs
end
end Go.Proofs.YthlmnhelmhnpfaaGreatDoor
namespace Go.Proofs.YthlmnhelmhnpfaaGreatDoor.variantPaths
open Go.ChangeShapes Go.WideShapes Go.ChangeAt Go.RowKit
set_option maxRecDepth 100000 in
set_option maxHeartbeats 1000000 in
theorem contract (H : Type) (enc : TypeId × Value → H) (W : World) (base : Nat) (args : Array Value) (ds gs : List (DataW H)) (before : List MemPlace)
    (hval : ∀ (j : Nat) t v, Tryz.f3.params[j]? = some t → args[j]? = some v → Value.okWide Tryz.prog W .any base t v)
    (hW : DataW.Whole enc Tryz.prog Tryz.f3.params.toList Rows.variantPathsSpec.vars false W args.toList ds gs before) (hL : laidMetH Tryz.prog laidL W) :
    Calls Tryz.prog 3 args W fun e W' => ∃ v, e = .returned v ∧ Rows.variantPathsSpec.post enc Tryz.prog Tryz.f3 false true false false W args v W' := by
  have hW' := hW
  have hlt := hW.lt
  obtain ⟨p, q, hA0, hV, rfl, _, _⟩ := hW
  have hA : DataW.TrodAll enc Tryz.prog W 0 (fun _ => true) true Tryz.f3.params.toList args.toList ds p := hA0
  rw [Tryz.params3] at hA hval
  obtain ⟨v0, vs0, d0, ds0, p0, q0, hargs, rfl, rfl, h0, r0⟩ := trodAll_cons hA
  obtain ⟨v1, vs1, d1, ds1, p1, q1, rfl, rfl, rfl, h1, r1⟩ := trodAll_cons r0
  obtain ⟨v2, vs2, d2, ds2, p2, q2, rfl, rfl, rfl, h2, r2⟩ := trodAll_cons r1
  obtain ⟨rfl, rfl, rfl⟩ := trodAll_nil r2
  obtain rfl : args = #[v0, v1, v2] := by cases args; simp_all
  obtain ⟨rfl, rfl⟩ := trodVars_none hV
  obtain ⟨x0, A0, c0, rfl, hx0⟩ := open_path (hval 0 22 v0 rfl rfl) h0
  obtain ⟨x1, A1, c1, rfl, hx1⟩ := open_path (hval 1 22 v1 rfl rfl) h1
  obtain ⟨x2, rfl, -, -, hx2⟩ := open_string Tryz.underlying9 (hval 2 9 v2 rfl rfl) h2
  clear hA0
  simp only [List.append_nil] at hW' hlt
  refine (law_paths x0 x1 x2 W A0 c0 A1 c1 hx0 hx1 hx2 (pow_of hL)).mono fun e W' ⟨he, hb⟩ => ?_
  subst he
  exact ⟨_, rfl, post_below (pa := p0 ++ (p1 ++ p2)) (pv := []) hW' (fun _ _ _ => trodAll_cons_mk (shut_bool Tryz.underlying4 _) trodAll_mk0)
    (fun sp hsp => by
      rw [Tryz.params3]
      have t2 := trodAll_cons_mk (string_stays (sp := sp) h2 hb (fun z hz => hlt z (by simp [hz])) (fun z hz => hsp z (by simp [hz]))) trodAll_mk0
      rw [List.append_nil] at t2
      have t1 := trodAll_cons_mk (path_stays (sp := sp) h1 hb (fun z hz => hlt z (by simp [hz])) (fun z hz => hsp z (by simp [hz]))) t2
      have t0 := trodAll_cons_mk (path_stays (sp := sp) h0 hb (fun z hz => hlt z (by simp [hz])) (fun z hz => hsp z (by simp [hz]))) t1
      exact t0)
    (fun _ _ => rfl) (by simp) hb (ok_one (by kernel_rfl) rfl (okWide_bool_mk Tryz.underlying4 _))⟩
theorem laid_met (os : Os) : laidMet Tryz.prog Rows.variantPathsRow.laid ((laidWorld os).forCall (fun _ _ => 0) ⟨#[], #[.slice none 0 0, .slice none 0 0, .string .empty], []⟩).memory :=
  laidMet_of_run' 8 (by kernel_rfl) (by kernel_rfl)
theorem reads (os : Os) {H : Type} (enc : TypeId × Value → H) : ∃ places, DataW.whole enc Tryz.prog ((laidWorld os).forCall (fun _ _ => 0) ⟨#[], #[.slice none 0 0, .slice none 0 0, .string .empty], []⟩).memory Tryz.f3.params.toList Rows.variantPathsSpec.vars false #[.slice none 0 0, .slice none 0 0, .string .empty].toList 8 = some ([.nil, .nil, .lit (.string [])], [], places) :=
  ⟨[], by kernel_rfl⟩
set_option maxRecDepth 100000 in
theorem lifted (os : Os) (started : os.Started) (H : Type) (enc : TypeId × Value → H) (F : Stop.Interp) :
    ReturnsInHanded {} Tryz.checked os 3 .any ((OpenSpec.ofChange Rows.variantPathsSpec).preRow enc Tryz.prog Tryz.f3 Rows.variantPathsRow.domain false Rows.variantPathsRow.laid) (((OpenSpec.ofChange Rows.variantPathsSpec).at F).post enc Tryz.prog Tryz.f3 false true false false) := by
  obtain ⟨places, hx⟩ := reads os enc
  refine returnsInHanded_of_row (C := Tryz.checked) (s := OpenSpec.ofChange Rows.variantPathsSpec) own started (by kernel_rfl) Tryz.func3
    (witness_row_at (enc := enc) (C := Tryz.checked) false (laidWorld os) #[.slice none 0 0, .slice none 0 0, .string .empty] rfl (by kernel_rfl) (by kernel_rfl) (by kernel_rfl)
      (OpenSpec.preRow_of_cond 8 hx (by kernel_rfl) (fun k hk => by cases hk) (by kernel_rfl) (laid_met os))) ?_
  intro W base args ds gs before hval hW _ _ _ hL _ _
  exact contract H enc W base args ds gs before hval hW hL
theorem said : Rows.VariantPathsSaid :=
  OpenClaim.holds_of_cond 3 Tryz.f3 rfl rfl rfl rfl rfl rfl rfl ⟨rfl, rfl, rfl, rfl, rfl⟩ rfl rfl rfl rfl rfl (by kernel_rfl) Tryz.func3 (by kernel_rfl)
    (of_decide_eq_true (by kernel_rfl)) (by unfold Func.isWrapper; first | (rw [if_pos (by decide +kernel)]; kernel_rfl) | (rw [if_neg (by decide +kernel)]; exact ⟨rfl, rfl⟩))
    (fun os started H enc _ F => by rw [OpenClaim.pre_eq_preRow]; exact lifted os started H enc F)
theorem plain (f : FuncId) (fn : Func) (hf : Tryz.pinned.checked.prog.funcNamed "cirrus/cirruslaw02.VariantPaths" = some f) (hfn : Tryz.pinned.checked.prog.funcs[f]? = some fn) :
    false = Tryz.pinned.checked.prog.looks [] ∧ ∀ (j : Nat) t, fn.params[j]? = some t → Tryz.pinned.checked.prog.wantsStandIn t = false := by
  obtain rfl : f = 3 := Option.some.inj ((show Tryz.prog.funcNamed "cirrus/cirruslaw02.VariantPaths" = some 3 by kernel_rfl).symm.trans hf) |>.symm
  obtain rfl : fn = Tryz.f3 := (Option.some.inj (Tryz.func3.symm.trans hfn)).symm
  refine ⟨by kernel_rfl, fun j t ht => ?_⟩
  rw [Tryz.params3] at ht
  match j, ht with
  | 0, ht =>
    obtain rfl : t = 22 := (Option.some.inj ht).symm
    exact (show Tryz.prog.wantsStandIn 22 = false by kernel_rfl)
  | 1, ht =>
    obtain rfl : t = 22 := (Option.some.inj ht).symm
    exact (show Tryz.prog.wantsStandIn 22 = false by kernel_rfl)
  | 2, ht =>
    obtain rfl : t = 9 := (Option.some.inj ht).symm
    exact (show Tryz.prog.wantsStandIn 9 = false by kernel_rfl)
  | j + 3, ht => simp at ht
theorem card : Rows.VariantPathsCardSaid :=
  Claim7.holds_tied_plain_at .later [] _ _ _ _ said (fun _ h => by cases h) (by kernel_rfl) (fun _ h => by cases h) variantPaths_row_tie rfl ⟨rfl, rfl⟩ (by kernel_rfl) rfl plain (by kernel_rfl)
end Go.Proofs.YthlmnhelmhnpfaaGreatDoor.variantPaths

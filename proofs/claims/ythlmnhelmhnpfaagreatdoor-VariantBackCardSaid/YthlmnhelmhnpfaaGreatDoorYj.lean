/- The law on reading back a path's text, walked. -/
import Derived.Test.YthlmnhelmhnpfaaGreatDoorYi
import Derived.Test.YthlmnhelmhnpfaaGreatDoorVo
import Derived.Test.YthlmnhelmhnpfaaGreatDoorVb
namespace Go.Proofs.YthlmnhelmhnpfaaGreatDoor
open Go.RowKit

theorem pathT_len {p : List Stp} (h : pathB p = true) : (pathT p).length ≤ 1300 := by
  obtain ⟨h6, hs⟩ := path_valid h
  have : ∀ l : List Stp, (∀ s ∈ l, stepB s = true) → (l.flatMap stepT).length ≤ 210 * l.length := by
    intro l hl
    induction l with
    | nil => simp
    | cons s r ih =>
      rw [List.flatMap_cons, List.length_append, List.length_cons]
      have := ih fun x hx => hl x (by simp [hx])
      have := stepT_len (hl s (by simp))
      omega
  have := this p hs
  unfold pathT
  rw [List.length_cons]
  omega
theorem refPathValid_is (p : List Stp) (w : World) (A : Option Addr) (c : Nat) (h : PLies w w.heap.size A c p) {r : Bool} (hr : pathB p = r) :
    Calls Tryz.prog 15 #[.slice A p.length c] w fun e w' => e = .returned (.bool r) ∧ Below w.heap.size w w' := by
  subst hr
  exact (refPathValid_any p w A c h).mono (by rintro e w' ⟨rfl, rfl⟩; exact ⟨rfl, Below.refl _ _⟩)
set_option maxRecDepth 100000 in
set_option maxHeartbeats 8000000 in
theorem law_pback (p q : List Stp) (w : World) (A0 : Option Addr) (c0 : Nat) (A1 : Option Addr) (c1 : Nat) (hp : PLies w w.heap.size A0 c0 p) (hq : PLies w w.heap.size A1 c1 q) (hpw : Pow w) :
    Calls Tryz.prog 6 #[.slice A0 p.length c0, .slice A1 q.length c1] w fun e w' => e = .returned (.bool true) ∧ Below w.heap.size w w' := by
  have HA := Lib.hid fun W (hW : Below w.heap.size w W) => awake2_any W (hpw.on hW)
  obtain ⟨bp, hbp⟩ : ∃ b, pathB p = b := ⟨_, rfl⟩
  obtain ⟨bq, hbq⟩ : ∃ b, pathB q = b := ⟨_, rfl⟩
  have HV0 := Lib.hid fun W (hW : Below w.heap.size w W) => refPathValid_is p W A0 c0 (hp.on hW) hbp
  have HV1 := Lib.hid fun W (hW : Below w.heap.size w W) => refPathValid_is q W A1 c1 (hq.on hW) hbq
  have HO := Lib.hid fun W (hW : Below w.heap.size w W) => pathOrder_any p q W A0 A1 c0 c1 (hp.on hW) (hq.on hW)
  have HC := Lib.hid fun W (hW : Below w.heap.size w W) A c (h : PLies W W.heap.size A c p) => refCompare_same p W A A0 c c0 h (hp.on hW)
  have HT0 := Lib.hid fun (hb : pathB p = true) W (hW : Below w.heap.size w W) => pathText_any p W A0 c0 hb (hp.on hW) (hpw.on hW)
  have HT1 := Lib.hid fun (hb : pathB q = true) W (hW : Below w.heap.size w W) => pathText_any q W A1 c1 hb (hq.on hW) (hpw.on hW)
  have HPW := Lib.hid fun W (hW : Below w.heap.size w W) => hpw.on hW
  obtain ⟨n, hn⟩ : ∃ n, n = p.length := ⟨_, rfl⟩
  obtain ⟨m, hm⟩ : ∃ n, n = q.length := ⟨_, rfl⟩
  have HN := Lib.hid hn
  rw [← hn] at HV0 HO HC HT0
  rw [← hm] at HV1 HO HT1
  rw [← hn, ← hm]
  clear hp hq hpw hm
  cases bp
  · clear hbp hbq hn
    go_enter Tryz.func6, Tryz.ntmps6
    go_wp2_with fail
    refine (HV0.out _ (Below.refl _ w)).mono ?_
    rintro e w1 ⟨rfl, h1⟩
    have HB1 := Lib.hid h1
    clear h1
    go_wp2_with fail
    refine (HA.out _ HB1.out).mono ?_
    rintro e w2 ⟨rfl, h2⟩
    have HB2 := Lib.hid (below_on HB1.out h2)
    clear h2
    go_wp2_with fail
    go_ret
    exact ⟨rfl, HB2.out⟩
  · cases bq
    · clear hbp hbq hn
      go_enter Tryz.func6, Tryz.ntmps6
      go_wp2_with fail
      refine (HV0.out _ (Below.refl _ w)).mono ?_
      rintro e w1 ⟨rfl, h1⟩
      have HB1 := Lib.hid h1
      clear h1
      go_wp2_with fail
      refine (HV1.out _ HB1.out).mono ?_
      rintro e w2 ⟨rfl, h2⟩
      have HB2 := Lib.hid (below_on HB1.out h2)
      clear h2
      go_wp2_with fail
      refine (HA.out _ HB2.out).mono ?_
      rintro e w3 ⟨rfl, h3⟩
      have HB3 := Lib.hid (below_on HB2.out h3)
      clear h3
      go_wp2_with fail
      go_ret
      exact ⟨rfl, HB3.out⟩
    · obtain ⟨s, hs⟩ : ∃ s : ByteArray, s = ⟨(pathT p).toArray⟩ := ⟨_, rfl⟩
      obtain ⟨t, ht⟩ : ∃ t : ByteArray, t = ⟨(pathT q).toArray⟩ := ⟨_, rfl⟩
      obtain ⟨r, hr⟩ : ∃ r, r = cmpPathP p q := ⟨_, rfl⟩
      obtain ⟨b, hb⟩ : ∃ b, b = decide (p = q) := ⟨_, rfl⟩
      have k1 : (s.toList == t.toList) = b := by
        rw [hb, hs, ht, Bool.eq_iff_iff, beq_iff_eq, decide_eq_true_eq, ByteArray.toList_eq, ByteArray.toList_eq]
        exact ⟨fun e => pathT_inj hbp hbq e, fun e => by rw [e]⟩
      have k2 : (r == 0) = b := by
        rw [hb, hr, Bool.eq_iff_iff, beq_iff_eq, decide_eq_true_eq]
        exact cmpPathP_zero
      have HS0 := Lib.hid fun W (hW : Below w.heap.size w W) => show Calls Tryz.prog 10 #[.slice A0 n c0] W fun e w' => e = .returned (.tuple #[.string s, .int .i64 0]) ∧ Below W.heap.size W w' by
        rw [hs]; exact HT0.out hbp W hW
      have HS1 := Lib.hid fun W (hW : Below w.heap.size w W) => show Calls Tryz.prog 10 #[.slice A1 m c1] W fun e w' => e = .returned (.tuple #[.string t, .int .i64 0]) ∧ Below W.heap.size W w' by
        rw [ht]; exact HT1.out hbq W hW
      have HPP := Lib.hid fun W (hW : Below w.heap.size w W) => show Calls Tryz.prog 12 #[.string s] W fun e w' => Below W.heap.size W w' ∧ ∃ A c, e = .returned (.tuple #[.slice A n c, .int .i64 0]) ∧ PLies w' w'.heap.size A c p by
        have := parsePath_any s W (by rw [hs]; have := pathT_len hbp; show (pathT p).toArray.size ≤ _; simp; omega) (HPW.out W hW)
        rw [hs, show (⟨(pathT p).toArray⟩ : ByteArray).data.toList = pathT p from rfl, parse_path hbp] at this
        rw [hs, hn]
        exact this
      have HOO := Lib.hid fun W (hW : Below w.heap.size w W) => show Calls Tryz.prog 8 #[.slice A0 n c0, .slice A1 m c1] W fun e w' => e = .returned (.tuple #[.int .i64 r, .int .i64 0]) ∧ Below W.heap.size W w' by
        refine (HO.out W hW).mono ?_
        rintro e w' ⟨he, hb'⟩
        rw [hbp, hbq] at he
        rw [hr]
        exact ⟨he, hb'⟩
      clear hbp hbq hn hs ht hr hb HT0 HT1 HO HPW HN
      cases b
      all_goals
        go_enter Tryz.func6, Tryz.ntmps6
        go_wp2_with fail
        refine (HV0.out _ (Below.refl _ w)).mono ?_
        rintro e w1 ⟨rfl, h1⟩
        have HB1 := Lib.hid h1
        clear h1
        go_wp2_with fail
        refine (HV1.out _ HB1.out).mono ?_
        rintro e w2 ⟨rfl, h2⟩
        have HB2 := Lib.hid (below_on HB1.out h2)
        clear h2
        go_wp2_with fail
        refine (HS0.out _ HB2.out).mono ?_
        rintro e w3 ⟨rfl, h3⟩
        have HB3 := Lib.hid (below_on HB2.out h3)
        clear h3
        go_wp2_with fail
        refine (HS1.out _ HB3.out).mono ?_
        rintro e w4 ⟨rfl, h4⟩
        have HB4 := Lib.hid (below_on HB3.out h4)
        clear h4
        go_wp2_with fail
        refine (HPP.out _ HB4.out).mono ?_
        rintro e w5 ⟨h5, A, c, rfl, hpl⟩
        have HB5 := Lib.hid (below_on HB4.out h5)
        have HL5 := Lib.hid hpl
        clear h5 hpl
        go_wp2_with fail
        refine (HOO.out _ HB5.out).mono ?_
        rintro e w6 ⟨rfl, h6⟩
        have HB6 := Lib.hid (below_on HB5.out h6)
        have HL6 := Lib.hid (HL5.out.on h6)
        clear h6
        go_wp2_with fail
        refine (HC.out _ HB6.out A c HL6.out).mono ?_
        rintro e w7 ⟨rfl, h7⟩
        have HB7 := Lib.hid (below_on HB6.out h7)
        clear h7
        go_wp2_with fail
        refine (HA.out _ HB7.out).mono ?_
        rintro e w8 ⟨rfl, h8⟩
        have HB8 := Lib.hid (below_on HB7.out h8)
        clear h8
        go_wp2_with fail
        go_ret
        exact ⟨rfl, HB8.out⟩
end Go.Proofs.YthlmnhelmhnpfaaGreatDoor

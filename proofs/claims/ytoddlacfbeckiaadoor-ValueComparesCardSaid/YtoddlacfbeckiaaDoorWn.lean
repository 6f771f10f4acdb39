/- Reading: a series. -/
import Derived.Test.YtoddlacfbeckiaaDoorWm
namespace Go.Proofs.YtoddlacfbeckiaaDoor
open Go.RowKit

/-- What a reader leaves that builds up a state. -/
def SPost {St : Type} (Inv : St → Nat → World → Prop) (Bad : World → Prop) (g : Nat) (s : ByteArray) : Option (St × List UInt8 × Nat) → Ending → World → Prop
  | none, e, w' => e = .panicked boom ∧ Bad w'
  | some (st, l, n), e, w' => e = .returned (.tuple #[]) ∧ Inv st n w' ∧ ∃ k, k ≤ s.size ∧ sfx s k = l ∧ PAt w' g s k n
def SAt {St : Type} (step : St → Nat → List UInt8 → Option (St × List UInt8 × Nat)) (close : UInt8) (Inv : St → Nat → World → Prop) (g : Nat) (s : ByteArray) (R : Option (St × List UInt8 × Nat)) (wr : World) (st : St) (k n : Nat) : Prop :=
  Inv st n wr ∧ PAt wr g s k n ∧ (k ≤ s.size ∧ n ≤ 60) ∧ ∃ f, (sfx s k).length ≤ f ∧ restP step close f st n (sfx s k) = R

set_option maxRecDepth 100000 in
set_option maxHeartbeats 1000000 in
theorem series_any {St : Type} (step : St → Nat → List UInt8 → Option (St × List UInt8 × Nat)) (op close : UInt8) (qo qc : Int) (hqo : qo = op.toNat) (hqc : qc = close.toNat) (Inv : St → Nat → World → Prop) (Bad : World → Prop)
    (g : Nat) (s : ByteArray) (N : FuncId) (p1 p2 p3 : Option Addr) (hN : ∀ (args : Array Value) (W : World), (callFunc N args).run Tryd.prog W = .ok (.enter N args) W)
    (hkeep : ∀ st k n W W', Inv st n W → Went g s k n W W' → Inv st n W') (hbad : ∀ st n W W', Inv st n W → W.grownBy W' (some g) → Bad W')
    (hlen : ∀ st n l st' l' n', step st n l = some (st', l', n') → l'.length ≤ l.length ∧ n' ≤ 60)
    (hF : ∀ st k n W, Inv st n W → PAt W g s k n → k ≤ s.size → n ≤ 60 → Calls Tryd.prog N #[.pointer p1, .pointer p2, .pointer p3] W (SPost Inv Bad g s (step st n (sfx s k))))
    (hs : s.size ≤ 1000000) (st : St) (k n : Nat) (w : World) (h : PAt w g s k n) (hk : k ≤ s.size) (hn : n ≤ 60) (hI : Inv st n w) :
    Calls Tryd.prog 86 #[.pointer (some ⟨g, 0, none⟩), .int .u8 qo, .int .u8 qc, .func (.func N) #[] #[.pointer p1, .pointer p2, .pointer p3]] w (SPost Inv Bad g s (seriesP step close op st n (sfx s k))) := by
  have HA := Lib.hid fun (W : World) (j m : Nat) (c : UInt8) (q : Int) (hq : q = c.toNat) (hW : PAt W g s j m) (hj : j ≤ s.size) => accept_any g s j m c q hq W hW hj hs
  have HF := Lib.hid hF
  have HK := Lib.hid hkeep
  have HB := Lib.hid hbad
  have HL := Lib.hid hlen
  have H0 := Lib.hid h
  have HI := Lib.hid hI
  obtain ⟨R, hR⟩ : ∃ R, R = seriesP step close op st n (sfx s k) := ⟨_, rfl⟩
  rw [← hR]
  have HR := Lib.hid hR
  have HQO := Lib.hid hqo
  have HQC := Lib.hid hqc
  clear h hI hF hkeep hbad hlen hR hqo hqc
  by_cases ho : takesP op (skipP (sfx s k)) = true
  · have HO := Lib.hid ho
    clear ho
    go_enter Tryd.func86, Tryd.ntmps86
    go_wp2_with fail
    refine (HA.out _ k n op qo HQO.out H0.out hk).mono ?_
    rintro e w1 ⟨rfl, k1, hk1, hsk1, hw1⟩
    have HW1 := Lib.hid hw1
    have HS1 := Lib.hid hsk1
    clear hw1 hsk1
    rw [HO.out]
    go_wp2_with (go_at_call 50; refine (must_yes _ _).mono ?_; rintro e w' ⟨rfl, rfl⟩)
    refine (HA.out _ k1 n close qc HQC.out HW1.out.2 hk1).mono ?_
    rintro e w2 ⟨rfl, k2, hk2, hsk2, hw2⟩
    have HW2 := Lib.hid (HW1.out.trans hw2)
    have HS2 := Lib.hid hsk2
    clear hw2 hsk2
    by_cases hc : takesP close (skipP (sfx s k1)) = true
    · have HE := Lib.hid (show R = some (st, sfx s k2, n) by rw [HR.out, seriesP, if_pos HO.out, ← HS1.out, if_pos hc, HS2.out])
      rw [hc]
      clear hc
      go_wp2_with fail
      refine bodyPost_end (v := .tuple #[]) (by simp [results, Tryd.results86, go_sem]) rfl ?_
      rw [HE.out]
      exact ⟨rfl, HK.out _ _ _ _ _ HI.out HW2.out, k2, hk2, rfl, HW2.out.2⟩
    · have hcf : takesP close (skipP (sfx s k1)) = false := by simpa using hc
      have HE := Lib.hid (show R = loopP step close ((sfx s k1).length + 1) st n (sfx s k2) by rw [HR.out, seriesP, if_pos HO.out, ← HS1.out, if_neg hc, HS2.out, tailP_not hcf])
      have HL2 := Lib.hid (show (sfx s k2).length ≤ (sfx s k1).length by rw [HS2.out]; exact Nat.le_trans (tailP_len _ _) (skipP_len _))
      rw [hcf]
      clear hc hcf
      go_wp2_with fail
      refine (HF.out st k2 n _ (HK.out _ _ _ _ _ HI.out HW2.out) HW2.out.2 hk2 hn).mono ?_
      intro e w3 hp
      rcases hst : step st n (sfx s k2) with _ | ⟨st3, l3, n3⟩
      · rw [hst] at hp
        obtain ⟨rfl, hp⟩ := hp
        refine ⟨rfl, ?_⟩
        rw [HE.out, loopP_none _ _ hst]
        exact ⟨rfl, hp⟩
      rw [hst] at hp
      obtain ⟨rfl, hI3, k3, hk3, hsk3, hP3⟩ := hp
      have HX := Lib.hid (show SAt step close Inv g s R w3 st3 k3 n3 from ⟨hI3, hP3, ⟨hk3, (HL.out _ _ _ _ _ _ hst).2⟩, (sfx s k1).length, by rw [hsk3]; exact Nat.le_trans (HL.out _ _ _ _ _ _ hst).1 HL2.out, by rw [HE.out, loopP_some _ _ hst, hsk3]⟩)
      clear hst hI3 hsk3 hP3 hk3
      go_wp2_with fail
      clear HE HL2 HW1 HW2 HS1 HS2 HI H0 HO HR
      go_loopw [] (fun wr => ∃ (st : St) (k n : Nat), Hid (SAt step close Inv g s R wr st k n)) (fun wr => s.size - posOf g wr)
      case atStart => exact ⟨st3, k3, n3, HX⟩
      case round =>
        clear HX
        obtain ⟨su, ku, nu, HS⟩ := hrel
        obtain ⟨hI, hP, ⟨hku, hnu⟩, f, hf, hR⟩ := HS.out
        have HI := Lib.hid hI
        have HP := Lib.hid hP
        have hmm := Lib.hid hP.pos
        have HR := Lib.hid hR
        have Hf := Lib.hid hf
        clear hI hP hR hf
        go_wp2_with fail
        refine (HA.out _ ku nu 44 44 rfl HP.out hku).mono ?_
        rintro e w4 ⟨rfl, k4, hk4, hsk4, hw4⟩
        have HW4 := Lib.hid hw4
        have HS4 := Lib.hid hsk4
        clear hw4 hsk4
        by_cases hc : takesP 44 (skipP (sfx s ku)) = true
        · have hlt := tailP_less hc
          rw [← HS4.out] at hlt
          have HC := Lib.hid (show (sfx s k4).length < (sfx s ku).length from Nat.lt_of_lt_of_le hlt (skipP_len _))
          obtain ⟨f', rfl⟩ : ∃ f', f = f' + 1 := ⟨f - 1, by have := HC.out; have := Hf.out; omega⟩
          have HE := Lib.hid (show loopP step close (f' + 1) su nu (sfx s k4) = R by rw [← HR.out, restP, if_pos hc, HS4.out])
          rw [hc]
          clear hc hlt
          go_wp2_with fail
          refine (HF.out su k4 nu _ (HK.out _ _ _ _ _ HI.out HW4.out) HW4.out.2 hk4 hnu).mono ?_
          intro e w5 hp
          rcases hst : step su nu (sfx s k4) with _ | ⟨st5, l5, n5⟩
          · rw [hst] at hp
            obtain ⟨rfl, hp⟩ := hp
            refine ⟨rfl, ?_⟩
            rw [← HE.out, loopP_none _ _ hst]
            exact ⟨rfl, hp⟩
          rw [hst] at hp
          obtain ⟨rfl, hI5, k5, hk5, hsk5, hP5⟩ := hp
          have hl5 := (HL.out _ _ _ _ _ _ hst).1
          have hn5 := (HL.out _ _ _ _ _ _ hst).2
          have HX := Lib.hid (show SAt step close Inv g s R w5 st5 k5 n5 from ⟨hI5, hP5, ⟨hk5, hn5⟩, f', by rw [hsk5]; have := HC.out; have := Hf.out; omega, by rw [← HE.out, loopP_some _ _ hst, hsk5]⟩)
          have HM := Lib.hid (show ku < k5 by have h1 := HC.out; rw [← hsk5] at hl5; rw [sfx_length, sfx_length] at *; omega)
          clear hst hI5 hsk5 hP5 hl5
          go_wp2_with fail
          go_roundw
          case rel => exact ⟨st5, k5, n5, HX⟩
          case measure => rw [hmm.out, HX.out.2.1.pos]; have := HM.out; omega
        · have hcf : takesP 44 (skipP (sfx s ku)) = false := by simpa using hc
          have HE := Lib.hid (show (if takesP close (sfx s k4) = true then some (su, tailP close (sfx s k4), nu) else none) = R by rw [← HR.out, restP, if_neg hc, HS4.out, tailP_not hcf])
          have HK4 := Lib.hid (show skipP (sfx s k4) = sfx s k4 by rw [HS4.out, tailP_not hcf, skipP_skip])
          rw [hcf]
          clear hc hcf
          go_wp2_with fail
          refine (HA.out _ k4 nu close qc HQC.out HW4.out.2 hk4).mono ?_
          rintro e w5 ⟨rfl, k5, hk5, hsk5, hw5⟩
          have HW5 := Lib.hid (HW4.out.trans hw5)
          have HS5 := Lib.hid hsk5
          clear hw5 hsk5
          by_cases hd : takesP close (sfx s k4) = true
          · rw [show takesP close (skipP (sfx s k4)) = true by rw [HK4.out]; exact hd]
            have HD := Lib.hid hd
            clear hd
            go_wp2_with (go_at_call 50; refine (must_yes _ _).mono ?_; rintro e w' ⟨rfl, rfl⟩)
            refine bodyPost_end (v := .tuple #[]) (by simp [results, Tryd.results86, go_sem]) rfl ?_
            rw [← HE.out, if_pos HD.out]
            exact ⟨rfl, HK.out _ _ _ _ _ HI.out HW5.out, k5, hk5, by rw [HS5.out, HK4.out], HW5.out.2⟩
          · rw [show takesP close (skipP (sfx s k4)) = false by rw [HK4.out]; simpa using hd]
            have HD := Lib.hid hd
            clear hd
            go_wp2_with (go_at_call 50; refine (must_no _ _).mono ?_; rintro e w' ⟨rfl, rfl⟩)
            refine ⟨rfl, ?_⟩
            rw [← HE.out, if_neg HD.out]
            exact ⟨rfl, HB.out _ _ _ _ HI.out HW5.out.1⟩
  · have HN := Lib.hid (show R = none by rw [HR.out, seriesP, if_neg ho])
    have hof : takesP op (skipP (sfx s k)) = false := by simpa using ho
    have HOF := Lib.hid hof
    clear ho hof
    go_enter Tryd.func86, Tryd.ntmps86
    go_wp2_with fail
    refine (HA.out _ k n op qo HQO.out H0.out hk).mono ?_
    rintro e w1 ⟨rfl, k1, hk1, hsk1, hw1⟩
    have HW1 := Lib.hid hw1
    clear hw1 hsk1
    rw [HOF.out]
    go_wp2_with (go_at_call 50; refine (must_no _ _).mono ?_; rintro e w' ⟨rfl, rfl⟩)
    refine ⟨rfl, ?_⟩
    rw [HN.out]
    exact ⟨rfl, HB.out _ _ _ _ HI.out HW1.out.1⟩
end Go.Proofs.YtoddlacfbeckiaaDoor

/- The specification's reading of a path's beginning, walked. -/
import Derived.Test.YthlmnhelmhnpfaaGreatDoorTe
import Derived.Deep.RegionHeld3
namespace Go.Proofs.YthlmnhelmhnpfaaGreatDoor
open Go.RowKit
def fitQ (l : List UInt8) : Option (List Stp × List UInt8) → Option (List Stp × List UInt8)
  | none => none
  | some (p, r) => if pathB p = true ∧ pathT p ++ r = l then some (p, r) else none
def prefQ (l : List UInt8) : Option (List Stp × List UInt8) := if l.head? = some 36 then fitQ l (refLoopP (l.length + 1) l.tail []) else none
def PfPost (Q : Option (List Stp × List UInt8)) (s : ByteArray) (w : World) (e : Ending) (w' : World) : Prop :=
  Below w.heap.size w w' ∧ match Q with
    | none => e = .returned (.tuple #[.slice none 0 0, .int .i64 0])
    | some (p, r) => ∃ (A : Option Addr) (c k : Nat), e = .returned (.tuple #[.slice A p.length c, .int .i64 k]) ∧ k ≤ s.size ∧ r = sfx s k ∧ PLies w' w'.heap.size A c p
theorem PfPost.no {Q : Option (List Stp × List UInt8)} {s : ByteArray} {w w' : World} (h : Q = none) (hb : Below w.heap.size w w') : PfPost Q s w (.returned (.tuple #[.slice none 0 0, .int .i64 0])) w' := by subst h; exact ⟨hb, rfl⟩
theorem PfPost.yes {Q : Option (List Stp × List UInt8)} {s : ByteArray} {p : List Stp} {k : Nat} {A : Option Addr} {c : Nat} {w w' : World} (h : Q = some (p, sfx s k)) (hk : k ≤ s.size) (hp : PLies w' w'.heap.size A c p) (hb : Below w.heap.size w w') : PfPost Q s w (.returned (.tuple #[.slice A p.length c, .int .i64 k])) w' := by
  subst h; exact ⟨hb, A, c, k, rfl, hk, rfl, hp⟩
theorem head_sfx (s : ByteArray) : s.data.toList = sfx s 0 := rfl
theorem prefQ_head {s : ByteArray} (h : s.size = 0 ∨ ∃ h : 0 < s.size, ¬ s[0] = 36) : prefQ s.data.toList = none := by
  rw [prefQ, if_neg]
  rcases h with h | ⟨h1, h2⟩
  · rw [List.eq_nil_of_length_eq_zero (l := s.data.toList) (by rw [size_list]; exact h)]; simp
  · rw [head_sfx, sfx_cons h1]
    simp only [List.head?_cons]
    exact fun e => h2 (Option.some.inj e)
theorem prefQ_is {s : ByteArray} (h1 : 0 < s.size) (h2 : s[0] = 36) {R : Option (List Stp × List UInt8)} (hR : R = refLoopP (s.size + 1) (sfx s 1) []) :
    prefQ s.data.toList = fitQ s.data.toList R := by
  rw [prefQ, if_pos (by rw [head_sfx, sfx_cons h1, h2]; rfl), size_list, tail_sfx, ← hR]
theorem ext_sfx (s : ByteArray) (k n : Nat) : sfx (s.extract k s.size) n = sfx s (k + n) := by
  rw [show sfx (s.extract k s.size) n = (s.extract k s.size).data.toList.drop n from rfl, sfx_extract, sfx_drop]
theorem path_cut {s : ByteArray} {k : Nat} {l : List UInt8} : l ++ sfx s k = s.data.toList ↔ l = s.data.toList.take k := by
  have hd : s.data.toList = s.data.toList.take k ++ sfx s k := (List.take_append_drop k _).symm
  constructor
  · intro h
    rw [hd] at h
    exact List.append_cancel_right h
  · intro h
    rw [h]; exact hd.symm
theorem textOf {x : V} {st : Stp} (h : ofB x = some st) (hx : x.valid = true) : st.2.size ≤ 1000000 := by
  unfold ofB at h
  split at h
  · cases h; show (⟨#[]⟩ : ByteArray).size ≤ 1000000; decide
  · split at h
    · cases h; exact textB_of hx
    · cases h
theorem prefixV_valid {l : List UInt8} {x : V} {r : List UInt8} (h : prefixV l = some (x, r)) : x.valid = true ∧ x.write ++ r = l := by
  rw [prefixV] at h
  split at h
  · cases h
  · rename_i y q _
    by_cases hq : y.valid = true ∧ y.write ++ q = l
    · rw [if_pos hq] at h
      cases h
      exact hq
    · rw [if_neg hq] at h; cases h
set_option maxRecDepth 100000 in
set_option maxHeartbeats 16000000 in
theorem refPrefix_any (hvp : ∀ (u : ByteArray) (W : World), u.size ≤ 1000000 → Calls Tryz.prog 68 #[.string u] W (VPPost (prefixV u.data.toList) u W)) (s : ByteArray) (w : World) (hs : s.size ≤ 100000) :
    Calls Tryz.prog 36 #[.string s] w (PfPost (prefQ s.data.toList) s w) := by
  obtain ⟨i0, hi, hz0, hz1, hz2⟩ := info_parts (P := Tryz.prog) (e := 46) (z := (.agg #[.int .i64 0, .string ⟨#[]⟩])) (size := 2) (bytes := 24) (by kernel_rfl)
  obtain ⟨Q, hQ⟩ : ∃ Q, Q = prefQ s.data.toList := ⟨_, rfl⟩
  rw [← hQ]
  have HVP := Lib.hid hvp
  clear hvp
  by_cases h0 : s.size = 0
  · have HN := Lib.hid (show Q = none by rw [hQ]; exact prefQ_head (.inl h0))
    have k0 : ((s.size : Int) == 0) = true := by rw [beq_iff_eq]; omega
    clear hQ h0
    go_enter Tryz.func36, Tryz.ntmps36
    go_wp2_with fail
    go_ret2
    exact PfPost.no HN.out (Below.refl _ _)
  · have k0 : ((s.size : Int) == 0) = false := by rw [beq_eq_false_iff_ne]; omega
    have hp0 : 0 < s.size := by omega
    by_cases h36 : s[0] = 36
    · have k1 := byte_eq (n := 36) 36 rfl h36
      have k2 : ((s[0].toNat : Int) != 36) = false := by rw [bne, k1]; rfl
      obtain ⟨R, hR⟩ : ∃ R, R = refLoopP (s.size + 1) (sfx s 1) [] := ⟨_, rfl⟩
      have HQ := Lib.hid (hQ.trans (prefQ_is hp0 h36 hR))
      have HA := Lib.hid (PrAt.start (w := w) hR)
      clear hQ hR h36
      go_enter Tryz.func36, Tryz.ntmps36
      go_wp2_with fail
      go_loopw [4, 5] (fun pv av wr => ∃ (k : Nat) (acc : List Stp), av = .int .i64 k ∧ 1 ≤ k ∧ k ≤ s.size ∧ acc.length ≤ 7 ∧ Hid (PrAt w s R k pv acc wr)) (fun _ av _ => s.size - (intOf av).toNat)
      case atStart => exact ⟨1, [], rfl, Nat.le_refl _, by omega, by simp, HA⟩
      case round =>
        obtain ⟨k, acc, rfl, hk1, hk2, hacc, hI⟩ := hrel
        obtain ⟨A, c, hv, hpl⟩ := hI.out.path
        have HPL := Lib.hid hpl
        subst hv
        have hwz : w.heap.size ≤ wr.heap.size := hI.out.old.size
        have hki0 : (0 : Int) ≤ k := by omega
        have hki2 : (k : Int) ≤ s.size := by omega
        clear HA hpl k0 k1 k2
        by_cases hk : k < s.size
        · have hki : (k : Int) < s.size := by omega
          by_cases h6 : acc.length ≤ 6
          · have h6i : (acc.length : Int) ≤ 6 := by omega
            by_cases h46 : s[k] = 46
            · have c46 := byte_eq (n := 46) 46 rfl h46
              have H46 := Lib.hid h46
              clear h46
              go_wp2_with fail
              go_loop [6] (fun tv => ∃ m : Nat, tv = .int .i64 m ∧ k + 1 ≤ m ∧ m ≤ s.size ∧ Hid (LetAt s (k + 1) m)) (fun tv => s.size - (intOf tv).toNat)
              case atStart => exact ⟨k + 1, by go_num, Nat.le_refl _, by omega, Lib.hid (LetAt.start s (k + 1))⟩
              case round =>
                obtain ⟨m, rfl, hm1, hm2, hL⟩ := hrel
                by_cases hm : m < s.size
                · have hmi : (m : Int) < s.size := by omega
                  have hmi0 : (0 : Int) ≤ m := by omega
                  obtain ⟨b, hb⟩ : ∃ b, wordcB s[m] = b := ⟨_, rfl⟩
                  have HLT := Lib.hid fun W => letter_any s[m] W
                  rw [hb] at HLT
                  cases b
                  · have HSTOP : ∀ h : m < s.size, wordcB s[m] = false := fun _ => hb
                    have HST := Lib.hid HSTOP
                    clear hb HSTOP
                    go_wp2_with fail
                    refine (HLT.out _).mono ?_
                    rintro e w1 ⟨rfl, rfl⟩
                    have HSTOP := HST.out
                    have HL := Lib.hid (hL.out.stop HSTOP)
                    obtain ⟨t, ht⟩ : ∃ t, t = s.extract (k + 1) m := ⟨_, rfl⟩
                    have HT := Lib.hid ht
                    have hts : t.size ≤ 1000000 := by rw [ht]; simp; omega
                    have hki1 : (k : Int) + 1 ≤ m := by omega
                    have hki2 : (m : Int) ≤ s.size := by omega
                    have HSTOP := trivial
                    clear HSTOP ht hL
                    go_wp2_with (at_builtin; refine wpList_append_own _ rfl _ _ 22 rfl w.heap.size 46 i0 (.agg #[.int .i64 0, .string ⟨#[]⟩]) 2 24 Tryz.underlying22 hi hz0 hz1 hz2 rfl (by decide) _ _ _ rfl (World.ownsRow.alloc hI.out.own _) _ 1 1 (stepCs (-1, s.extract (k + 1) m)) rfl rfl ?b1 ?b2 ?b3 ?b4 ?b5 ?_)
                    case b1 =>
                      intro i v hj
                      match i, hj with
                      | 0, hj => simp [stepCs] at hj; subst hj; simp [Addr.add]
                      | 1, hj => simp [stepCs] at hj; subst hj; simp [Addr.add]
                      | i + 2, hj => simp [stepCs] at hj
                    case b2 => intro v hv; simp [stepCs] at hv; rcases hv with rfl | rfl <;> rfl
                    case b3 => unfold maxLen; omega
                    case b4 => omega
                    case b5 => first | omega | (simp; omega)
                    intro v' w5 hown hgrow _
                    have HB5 := Lib.hid (Below.grown (below_al hI.out.old (.cells #[.int .i64 (-1), .string (s.extract (k + 1) m)] 46)) hgrow (by first | omega | (simp; omega)) (fun j hj => (World.ownsRow.lt hI.out.own j hj).1))
                    have HN5 := Lib.hid (hI.out.word hk (by omega) H46.out hm1 hm2 HT.out HL.out hts HB5.out (by rw [HT.out]; exact hown))
                    clear hown hgrow
                    go_wp2_with fail
                    go_roundw
                    case rel => exact ⟨m, acc ++ [(-1, t)], rfl, by omega, by omega, by simp; omega, HN5⟩
                    case measure => simp [intOf]; omega
                  · have HNX := Lib.hid (hL.out.next hm1 hm hb)
                    clear hb
                    go_wp2_with fail
                    refine (HLT.out _).mono ?_
                    rintro e w1 ⟨rfl, rfl⟩
                    go_wp2_with fail
                    go_round
                    case rel => exact ⟨m + 1, by go_num, by omega, by omega, HNX⟩
                    case measure => simp [intOf]; omega
                · have hmi : ¬ (m : Int) < s.size := by omega
                  have HSTOP : ∀ h : m < s.size, wordcB s[m] = false := fun h => absurd h hm
                  have HL := Lib.hid (hL.out.stop HSTOP)
                  obtain ⟨t, ht⟩ : ∃ t, t = s.extract (k + 1) m := ⟨_, rfl⟩
                  have HT := Lib.hid ht
                  have hts : t.size ≤ 1000000 := by rw [ht]; simp; omega
                  have hki1 : (k : Int) + 1 ≤ m := by omega
                  have hki2 : (m : Int) ≤ s.size := by omega
                  have HSTOP := trivial
                  clear HSTOP ht hL
                  go_wp2_with (at_builtin; refine wpList_append_own _ rfl _ _ 22 rfl w.heap.size 46 i0 (.agg #[.int .i64 0, .string ⟨#[]⟩]) 2 24 Tryz.underlying22 hi hz0 hz1 hz2 rfl (by decide) _ _ _ rfl (World.ownsRow.alloc hI.out.own _) _ 1 1 (stepCs (-1, s.extract (k + 1) m)) rfl rfl ?c1 ?c2 ?c3 ?c4 ?c5 ?_)
                  case c1 =>
                    intro i v hj
                    match i, hj with
                    | 0, hj => simp [stepCs] at hj; subst hj; simp
                    | 1, hj => simp [stepCs] at hj; subst hj; simp
                    | i + 2, hj => simp [stepCs] at hj
                  case c2 => intro v hv; simp [stepCs] at hv; rcases hv with rfl | rfl <;> rfl
                  case c3 => unfold maxLen; omega
                  case c4 => omega
                  case c5 => first | omega | (simp; omega)
                  intro v' w5 hown hgrow _
                  have HB5 := Lib.hid (Below.grown (below_al hI.out.old (.cells #[.int .i64 (-1), .string (s.extract (k + 1) m)] 46)) hgrow (by first | omega | (simp; omega)) (fun j hj => (World.ownsRow.lt hI.out.own j hj).1))
                  have HN5 := Lib.hid (hI.out.word hk (by omega) H46.out hm1 hm2 HT.out HL.out hts HB5.out (by rw [HT.out]; exact hown))
                  clear hown hgrow
                  go_wp2_with fail
                  go_roundw
                  case rel => exact ⟨m, acc ++ [(-1, t)], rfl, by omega, by omega, by simp; omega, HN5⟩
                  case measure => simp [intOf]; omega
            · have c46 := byte_no (n := 46) 46 rfl h46
              by_cases h91 : s[k] = 91
              · have c91 := byte_eq (n := 91) 91 rfl h91
                have c91' : ((s[k].toNat : Int) != 91) = false := by rw [bne, c91]; rfl
                have H91 := Lib.hid h91
                obtain ⟨u, hu⟩ : ∃ u, u = s.extract (k + 1) s.size := ⟨_, rfl⟩
                have hus : u.size = s.size - (k + 1) := by rw [hu]; simp
                obtain ⟨r, hr⟩ : ∃ r, r = prefixV (sfx s (k + 1)) := ⟨_, rfl⟩
                have HU := Lib.hid hu
                have HV := Lib.hid fun W => show Calls Tryz.prog 68 #[.string u] W (VPPost r u W) by
                  have := HVP.out u W (by omega)
                  rw [hu, sfx_extract, ← hr] at this
                  rw [hu]; exact this
                have HR := Lib.hid hr
                have hk3 : (k : Int) + 1 ≤ s.size := by omega
                clear h46 h91 hu hr
                go_wp2_with fail
                rw [← HU.out]
                refine (HV.out _).mono ?_
                intro e w1 hp
                rcases r with _ | ⟨x, r⟩
                · obtain ⟨h1, rfl⟩ := hp
                  have HNO := Lib.hid (show Q = none by rw [HQ.out, hI.out.bad hk (by omega) H91.out (.inl HR.out.symm)]; rfl)
                  have HB1 := Lib.hid (below_al (below_on hI.out.old h1) (.cells #[.int .i64 0, .int .i64 0, .string ⟨#[]⟩, .slice none 0 0, .slice none 0 0] 38))
                  clear h1
                  go_wp2_with fail
                  go_ret2
                  exact PfPost.no HNO.out HB1.out
                · obtain ⟨h1, A3, K3, a3, c3, b3, d3, n, rfl, hn, hrr, hl⟩ := hp
                  have hw1 := h1.size
                  have HXV := Lib.hid (prefixV_valid HR.out.symm).1
                  have hn1 : 1 ≤ n := by
                    obtain ⟨c0, r0, e0, -⟩ := write_head (valid_ok HXV.out)
                    rw [← hl, e0]; simp
                  have HPX := Lib.hid (show prefixV (sfx s (k + 1)) = some (x, sfx s (k + 1 + n)) by rw [← HR.out, hrr, HU.out, ext_sfx])
                  have HBD := Lib.hid fun (h : ¬ (sfx s (k + 1 + n)).head? = some 93 ∨ ofB x = none) => show Q = none by rw [HQ.out, hI.out.bad hk (by omega) H91.out (.inr ⟨x, _, HPX.out, h⟩)]; rfl
                  have kn : ((n : Int) == 0) = false := by rw [beq_eq_false_iff_ne]; omega
                  have HB1 := Lib.hid (below_al (below_on hI.out.old h1) (.cells #[.int .i64 x.kind, .int .i64 x.int, .string x.text, .slice A3 a3 c3, .slice K3 b3 d3] 38))
                  have hnu : k + 1 + n ≤ s.size := by omega
                  obtain ⟨m, hm⟩ : ∃ m, m = k + 1 + n := ⟨_, rfl⟩
                  have HM := Lib.hid hm
                  have hmz : k + 1 ≤ m := by omega
                  have hmu : m ≤ s.size := by omega
                  have hmk : (k : Int) + 1 + n = m := by omega
                  rw [← hm] at HPX HBD
                  clear hrr hl hm hnu hn
                  by_cases htn : m < s.size
                  · have hti : (m : Int) < s.size := by omega
                    have hti0 : (0 : Int) ≤ m := by omega
                    have hti2 : ¬ (s.size : Int) ≤ m := by omega
                    by_cases h93 : s[m] = 93
                    · have c93 := byte_eq (n := 93) 93 rfl h93
                      have c93' : ((s[m].toNat : Int) != 93) = false := by rw [bne, c93]; rfl
                      have H93 := Lib.hid h93
                      clear h93
                      by_cases h2 : x.kind = 2
                      · have kk2 : (x.kind == 2) = true := by simp [h2]
                        have HOB := Lib.hid (show ofB x = some (max x.int (-2), ⟨#[]⟩) by rw [ofB, if_pos h2])
                        clear h2
                        go_wp2_with (at_builtin; refine wpList_append_own _ rfl _ _ 22 rfl w.heap.size 46 i0 (.agg #[.int .i64 0, .string ⟨#[]⟩]) 2 24 Tryz.underlying22 hi hz0 hz1 hz2 rfl (by decide) _ _ _ rfl (World.ownsRow.alloc (World.ownsRow.alloc (own_on hI.out.own h1) _) _) _ 1 1 (stepCs (max x.int (-2), ⟨#[]⟩)) rfl rfl ?d1 ?d2 ?d3 ?d4 ?d5 ?_)
                        case d1 =>
                          intro i v hj
                          match i, hj with
                          | 0, hj => simp [stepCs] at hj; subst hj; simp [Addr.add]
                          | 1, hj => simp [stepCs] at hj; subst hj; simp [Addr.add]
                          | i + 2, hj => simp [stepCs] at hj
                        case d2 => intro v hv; simp [stepCs] at hv; rcases hv with rfl | rfl <;> rfl
                        case d3 => unfold maxLen; omega
                        case d4 => omega
                        case d5 => first | omega | (simp; omega)
                        intro v' w5 hown hgrow _
                        have HB5 := Lib.hid (Below.grown (below_al (below_al (below_on hI.out.old h1) (.cells #[.int .i64 x.kind, .int .i64 x.int, .string x.text, .slice A3 a3 c3, .slice K3 b3 d3] 38)) (.cells (stepCs (max x.int (-2), ⟨#[]⟩)).toArray 46)) hgrow (by first | omega | (simp; omega)) (fun j hj => (World.ownsRow.lt (own_on hI.out.own h1) j hj).1))
                        have HN5 := Lib.hid (hI.out.item hk (by omega) H91.out hmz HPX.out htn H93.out HOB.out (textOf HOB.out HXV.out) HB5.out hown)
                        clear hown hgrow
                        go_wp2_with fail
                        go_roundw
                        case rel => exact ⟨m + 1, acc ++ [(max x.int (-2), ⟨#[]⟩)], by go_num, by omega, by omega, by simp; omega, HN5⟩
                        case measure => simp [intOf]; omega
                      · have kk2 : (x.kind == 2) = false := by simp [h2]
                        by_cases h3 : x.kind = 3
                        · have kk3 : (x.kind == 3) = true := by simp [h3]
                          have HOB := Lib.hid (show ofB x = some (-1, x.text) by rw [ofB, if_neg h2, if_pos h3])
                          clear h2 h3
                          go_wp2_with (at_builtin; refine wpList_append_own _ rfl _ _ 22 rfl w.heap.size 46 i0 (.agg #[.int .i64 0, .string ⟨#[]⟩]) 2 24 Tryz.underlying22 hi hz0 hz1 hz2 rfl (by decide) _ _ _ rfl (World.ownsRow.alloc (World.ownsRow.alloc (own_on hI.out.own h1) _) _) _ 1 1 (stepCs (-1, x.text)) rfl rfl ?e1 ?e2 ?e3 ?e4 ?e5 ?_)
                          case e1 =>
                            intro i v hj
                            match i, hj with
                            | 0, hj => simp [stepCs] at hj; subst hj; simp [Addr.add]
                            | 1, hj => simp [stepCs] at hj; subst hj; simp [Addr.add]
                            | i + 2, hj => simp [stepCs] at hj
                          case e2 => intro v hv; simp [stepCs] at hv; rcases hv with rfl | rfl <;> rfl
                          case e3 => unfold maxLen; omega
                          case e4 => omega
                          case e5 => first | omega | (simp; omega)
                          intro v' w5 hown hgrow _
                          have HB5 := Lib.hid (Below.grown (below_al (below_al (below_on hI.out.old h1) (.cells #[.int .i64 x.kind, .int .i64 x.int, .string x.text, .slice A3 a3 c3, .slice K3 b3 d3] 38)) (.cells (stepCs (-1, x.text)).toArray 46)) hgrow (by first | omega | (simp; omega)) (fun j hj => (World.ownsRow.lt (own_on hI.out.own h1) j hj).1))
                          have HN5 := Lib.hid (hI.out.item hk (by omega) H91.out hmz HPX.out htn H93.out HOB.out (textOf HOB.out HXV.out) HB5.out hown)
                          clear hown hgrow
                          go_wp2_with fail
                          go_roundw
                          case rel => exact ⟨m + 1, acc ++ [(-1, x.text)], by go_num, by omega, by omega, by simp; omega, HN5⟩
                          case measure => simp [intOf]; omega
                        · have kk3 : (x.kind == 3) = false := by simp [h3]
                          have HNO := Lib.hid (HBD.out (.inr (by rw [ofB, if_neg h2, if_neg h3])))
                          clear h2 h3 h1
                          go_wp2_with fail
                          go_ret2
                          exact PfPost.no HNO.out HB1.out
                    · have c93 := byte_no (n := 93) 93 rfl h93
                      have c93' : ((s[m].toNat : Int) != 93) = true := by rw [bne, c93]; rfl
                      have HNO := Lib.hid (HBD.out (.inl (by rw [sfx_cons htn]; simp only [List.head?_cons]; exact fun e => h93 (Option.some.inj e))))
                      clear h93 h1
                      go_wp2_with fail
                      go_ret2
                      exact PfPost.no HNO.out HB1.out
                  · have hti : (s.size : Int) ≤ m := by omega
                    have HNO := Lib.hid (HBD.out (.inl (by rw [sfx_nil htn]; simp)))
                    clear h1
                    go_wp2_with fail
                    go_ret2
                    exact PfPost.no HNO.out HB1.out
              · have c91 := byte_no (n := 91) 91 rfl h91
                have c91' : ((s[k].toNat : Int) != 91) = true := by rw [bne, c91]; rfl
                have HOV := hI.out.out_ hk h46 h91
                clear h46 h91
                have HE := Lib.hid (show Q = if pathB acc = true ∧ pathT acc ++ sfx s k = s.data.toList then some (acc, sfx s k) else none by rw [HQ.out, HOV]; rfl)
                obtain ⟨b, hb⟩ : ∃ b, pathB acc = b := ⟨_, rfl⟩
                have HPB := Lib.hid hb
                have HVQ := Lib.hid fun m => show Calls Tryz.prog 15 #[.slice A acc.length c] (wr.drewN m) fun e w' => e = .returned (.bool b) ∧ w' = wr.drewN m by
                  have := refPathValid_any acc (wr.drewN m) A c (HPL.out.on (below_drewN (Below.refl _ wr) m))
                  rw [hb] at this
                  exact this
                have HV1 := Lib.hid (show Calls Tryz.prog 15 #[.slice A acc.length c] wr.drew fun e w' => e = .returned (.bool b) ∧ wr.drew = w' by
                  have := refPathValid_any acc wr.drew A c (HPL.out.on (Below.refl _ wr).drew)
                  rw [hb] at this
                  exact this.mono fun _ _ h => ⟨h.1, h.2.symm⟩)
                have HWR := Lib.hid fun (hb : pathB acc = true) W (hW : Below wr.heap.size wr W) => refPathWritten_any acc W A c hb (HPL.out.on hW)
                clear hb HOV
                cases b
                · have HNO := Lib.hid (show Q = none by rw [HE.out, if_neg (by rw [HPB.out]; simp)])
                  go_wp2_with fail
                  go_quiet ((go_at_call 15; exact Calls.quiet_of_same (HVQ.out _)))
                  have HB1 := Lib.hid (below_drewN hI.out.old nq)
                  go_wp2_with fail
                  go_ret2
                  exact PfPost.no HNO.out HB1.out
                · obtain ⟨u, hu⟩ : ∃ u : ByteArray, u = ⟨(pathT acc).toArray⟩ := ⟨_, rfl⟩
                  have HW2 := Lib.hid fun W (hW : Below wr.heap.size wr W) => show Calls Tryz.prog 34 #[.slice A acc.length c] W fun e w' => e = .returned (.string u) ∧ Below W.heap.size W w' by
                    rw [hu]; exact HWR.out HPB.out W hW
                  by_cases hc : pathT acc ++ sfx s k = s.data.toList
                  · have k3 : (u.toList == (s.extract 0 k).toList) = true := by
                      rw [beq_iff_eq, ByteArray.toList_eq, ByteArray.toList_eq, hu, ext_take]; exact path_cut.1 hc
                    have k4 : (u.toList != (s.extract 0 k).toList) = false := by rw [bne, k3]; rfl
                    have HYES := Lib.hid (show Q = some (acc, sfx s k) by rw [HE.out, if_pos ⟨HPB.out, hc⟩])
                    clear hc hu
                    go_wp2_with fail
                    go_region_held3 (fun _ => True) (trivial)
                      ((first
                        | (go_at_call 15; with_reducible refine (HV1.out).mono ?_; rintro e w1 ⟨rfl, rfl⟩)
                        | (go_at_call 34; refine (HW2.out wr.drew (Below.refl _ wr).drew).mono ?_; rintro e w2 ⟨rfl, h2⟩)))
                    all_goals
                      have HB1 := Lib.hid (below_on hI.out.old.drew h2)
                      have HP1 := Lib.hid ((HPL.out.on (Below.refl _ wr).drew).on h2)
                      clear h2
                      go_wp2_with fail
                      go_ret2
                      exact PfPost.yes HYES.out hk2 HP1.out HB1.out
                  · have k3 : (u.toList == (s.extract 0 k).toList) = false := by
                      rw [beq_eq_false_iff_ne, ByteArray.toList_eq, ByteArray.toList_eq, hu, ext_take]; exact fun e => hc (path_cut.2 e)
                    have k4 : (u.toList != (s.extract 0 k).toList) = true := by rw [bne, k3]; rfl
                    have HNO := Lib.hid (show Q = none by rw [HE.out, if_neg (fun e => hc e.2)])
                    clear hc hu
                    go_wp2_with fail
                    go_region_held3 (fun _ => True) (trivial)
                      ((first
                        | (go_at_call 15; with_reducible refine (HV1.out).mono ?_; rintro e w1 ⟨rfl, rfl⟩)
                        | (go_at_call 34; refine (HW2.out wr.drew (Below.refl _ wr).drew).mono ?_; rintro e w2 ⟨rfl, h2⟩)))
                    all_goals
                      have HB1 := Lib.hid (below_on hI.out.old.drew h2)
                      clear h2
                      go_wp2_with fail
                      go_ret2
                      exact PfPost.no HNO.out HB1.out
          · have h6i : ¬ (acc.length : Int) ≤ 6 := by omega
            have HOV := hI.out.over (.inr (by omega))
            have HE := Lib.hid (show Q = if pathB acc = true ∧ pathT acc ++ sfx s k = s.data.toList then some (acc, sfx s k) else none by rw [HQ.out, HOV]; rfl)
            obtain ⟨b, hb⟩ : ∃ b, pathB acc = b := ⟨_, rfl⟩
            have HPB := Lib.hid hb
            have HVQ := Lib.hid fun m => show Calls Tryz.prog 15 #[.slice A acc.length c] (wr.drewN m) fun e w' => e = .returned (.bool b) ∧ w' = wr.drewN m by
              have := refPathValid_any acc (wr.drewN m) A c (HPL.out.on (below_drewN (Below.refl _ wr) m))
              rw [hb] at this
              exact this
            have HV1 := Lib.hid (show Calls Tryz.prog 15 #[.slice A acc.length c] wr.drew fun e w' => e = .returned (.bool b) ∧ wr.drew = w' by
              have := refPathValid_any acc wr.drew A c (HPL.out.on (Below.refl _ wr).drew)
              rw [hb] at this
              exact this.mono fun _ _ h => ⟨h.1, h.2.symm⟩)
            have HWR := Lib.hid fun (hb : pathB acc = true) W (hW : Below wr.heap.size wr W) => refPathWritten_any acc W A c hb (HPL.out.on hW)
            clear hb HOV
            cases b
            · have HNO := Lib.hid (show Q = none by rw [HE.out, if_neg (by rw [HPB.out]; simp)])
              go_wp2_with fail
              go_quiet ((go_at_call 15; exact Calls.quiet_of_same (HVQ.out _)))
              have HB1 := Lib.hid (below_drewN hI.out.old nq)
              go_wp2_with fail
              go_ret2
              exact PfPost.no HNO.out HB1.out
            · obtain ⟨u, hu⟩ : ∃ u : ByteArray, u = ⟨(pathT acc).toArray⟩ := ⟨_, rfl⟩
              have HW2 := Lib.hid fun W (hW : Below wr.heap.size wr W) => show Calls Tryz.prog 34 #[.slice A acc.length c] W fun e w' => e = .returned (.string u) ∧ Below W.heap.size W w' by
                rw [hu]; exact HWR.out HPB.out W hW
              by_cases hc : pathT acc ++ sfx s k = s.data.toList
              · have k3 : (u.toList == (s.extract 0 k).toList) = true := by
                  rw [beq_iff_eq, ByteArray.toList_eq, ByteArray.toList_eq, hu, ext_take]; exact path_cut.1 hc
                have k4 : (u.toList != (s.extract 0 k).toList) = false := by rw [bne, k3]; rfl
                have HYES := Lib.hid (show Q = some (acc, sfx s k) by rw [HE.out, if_pos ⟨HPB.out, hc⟩])
                clear hc hu
                go_wp2_with fail
                go_region_held3 (fun _ => True) (trivial)
                  ((first
                    | (go_at_call 15; with_reducible refine (HV1.out).mono ?_; rintro e w1 ⟨rfl, rfl⟩)
                    | (go_at_call 34; refine (HW2.out wr.drew (Below.refl _ wr).drew).mono ?_; rintro e w2 ⟨rfl, h2⟩)))
                all_goals
                  have HB1 := Lib.hid (below_on hI.out.old.drew h2)
                  have HP1 := Lib.hid ((HPL.out.on (Below.refl _ wr).drew).on h2)
                  clear h2
                  go_wp2_with fail
                  go_ret2
                  exact PfPost.yes HYES.out hk2 HP1.out HB1.out
              · have k3 : (u.toList == (s.extract 0 k).toList) = false := by
                  rw [beq_eq_false_iff_ne, ByteArray.toList_eq, ByteArray.toList_eq, hu, ext_take]; exact fun e => hc (path_cut.2 e)
                have k4 : (u.toList != (s.extract 0 k).toList) = true := by rw [bne, k3]; rfl
                have HNO := Lib.hid (show Q = none by rw [HE.out, if_neg (fun e => hc e.2)])
                clear hc hu
                go_wp2_with fail
                go_region_held3 (fun _ => True) (trivial)
                  ((first
                    | (go_at_call 15; with_reducible refine (HV1.out).mono ?_; rintro e w1 ⟨rfl, rfl⟩)
                    | (go_at_call 34; refine (HW2.out wr.drew (Below.refl _ wr).drew).mono ?_; rintro e w2 ⟨rfl, h2⟩)))
                all_goals
                  have HB1 := Lib.hid (below_on hI.out.old.drew h2)
                  clear h2
                  go_wp2_with fail
                  go_ret2
                  exact PfPost.no HNO.out HB1.out
        · have hki : ¬ (k : Int) < s.size := by omega
          have HOV := hI.out.over (.inl hk)
          have HE := Lib.hid (show Q = if pathB acc = true ∧ pathT acc ++ sfx s k = s.data.toList then some (acc, sfx s k) else none by rw [HQ.out, HOV]; rfl)
          obtain ⟨b, hb⟩ : ∃ b, pathB acc = b := ⟨_, rfl⟩
          have HPB := Lib.hid hb
          have HVQ := Lib.hid fun m => show Calls Tryz.prog 15 #[.slice A acc.length c] (wr.drewN m) fun e w' => e = .returned (.bool b) ∧ w' = wr.drewN m by
            have := refPathValid_any acc (wr.drewN m) A c (HPL.out.on (below_drewN (Below.refl _ wr) m))
            rw [hb] at this
            exact this
          have HV1 := Lib.hid (show Calls Tryz.prog 15 #[.slice A acc.length c] wr.drew fun e w' => e = .returned (.bool b) ∧ wr.drew = w' by
            have := refPathValid_any acc wr.drew A c (HPL.out.on (Below.refl _ wr).drew)
            rw [hb] at this
            exact this.mono fun _ _ h => ⟨h.1, h.2.symm⟩)
          have HWR := Lib.hid fun (hb : pathB acc = true) W (hW : Below wr.heap.size wr W) => refPathWritten_any acc W A c hb (HPL.out.on hW)
          clear hb HOV
          cases b
          · have HNO := Lib.hid (show Q = none by rw [HE.out, if_neg (by rw [HPB.out]; simp)])
            go_wp2_with fail
            go_quiet ((go_at_call 15; exact Calls.quiet_of_same (HVQ.out _)))
            have HB1 := Lib.hid (below_drewN hI.out.old nq)
            go_wp2_with fail
            go_ret2
            exact PfPost.no HNO.out HB1.out
          · obtain ⟨u, hu⟩ : ∃ u : ByteArray, u = ⟨(pathT acc).toArray⟩ := ⟨_, rfl⟩
            have HW2 := Lib.hid fun W (hW : Below wr.heap.size wr W) => show Calls Tryz.prog 34 #[.slice A acc.length c] W fun e w' => e = .returned (.string u) ∧ Below W.heap.size W w' by
              rw [hu]; exact HWR.out HPB.out W hW
            by_cases hc : pathT acc ++ sfx s k = s.data.toList
            · have k3 : (u.toList == (s.extract 0 k).toList) = true := by
                rw [beq_iff_eq, ByteArray.toList_eq, ByteArray.toList_eq, hu, ext_take]; exact path_cut.1 hc
              have k4 : (u.toList != (s.extract 0 k).toList) = false := by rw [bne, k3]; rfl
              have HYES := Lib.hid (show Q = some (acc, sfx s k) by rw [HE.out, if_pos ⟨HPB.out, hc⟩])
              clear hc hu
              go_wp2_with fail
              go_region_held3 (fun _ => True) (trivial)
                ((first
                  | (go_at_call 15; with_reducible refine (HV1.out).mono ?_; rintro e w1 ⟨rfl, rfl⟩)
                  | (go_at_call 34; refine (HW2.out wr.drew (Below.refl _ wr).drew).mono ?_; rintro e w2 ⟨rfl, h2⟩)))
              all_goals
                have HB1 := Lib.hid (below_on hI.out.old.drew h2)
                have HP1 := Lib.hid ((HPL.out.on (Below.refl _ wr).drew).on h2)
                clear h2
                go_wp2_with fail
                go_ret2
                exact PfPost.yes HYES.out hk2 HP1.out HB1.out
            · have k3 : (u.toList == (s.extract 0 k).toList) = false := by
                rw [beq_eq_false_iff_ne, ByteArray.toList_eq, ByteArray.toList_eq, hu, ext_take]; exact fun e => hc (path_cut.2 e)
              have k4 : (u.toList != (s.extract 0 k).toList) = true := by rw [bne, k3]; rfl
              have HNO := Lib.hid (show Q = none by rw [HE.out, if_neg (fun e => hc e.2)])
              clear hc hu
              go_wp2_with fail
              go_region_held3 (fun _ => True) (trivial)
                ((first
                  | (go_at_call 15; with_reducible refine (HV1.out).mono ?_; rintro e w1 ⟨rfl, rfl⟩)
                  | (go_at_call 34; refine (HW2.out wr.drew (Below.refl _ wr).drew).mono ?_; rintro e w2 ⟨rfl, h2⟩)))
              all_goals
                have HB1 := Lib.hid (below_on hI.out.old.drew h2)
                clear h2
                go_wp2_with fail
                go_ret2
                exact PfPost.no HNO.out HB1.out
    · have k1 := byte_no (n := 36) 36 rfl h36
      have k2 : ((s[0].toNat : Int) != 36) = true := by rw [bne, k1]; rfl
      have HN := Lib.hid (show Q = none by rw [hQ]; exact prefQ_head (.inr ⟨hp0, h36⟩))
      clear hQ h36
      go_enter Tryz.func36, Tryz.ntmps36
      go_wp2_with fail
      go_ret2
      exact PfPost.no HN.out (Below.refl _ _)
end Go.Proofs.YthlmnhelmhnpfaaGreatDoor

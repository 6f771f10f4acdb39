/- ParsePath, walked. -/
import Derived.Test.YthlmnhelmhnpfaaGreatDoorYg
namespace Go.Proofs.YthlmnhelmhnpfaaGreatDoor
open Go.RowKit

/-- What the text of a path is answered as. -/
def pathTx (p : List Stp) : ByteArray × Int := if pathB p = true then (⟨(pathT p).toArray⟩, 0) else (⟨#[]⟩, 1)
set_option maxRecDepth 100000 in
set_option maxHeartbeats 1000000 in
theorem pathText_all (p : List Stp) (w : World) (A : Option Addr) (c : Nat) (h : PLies w w.heap.size A c p) (hp : Pow w) :
    Calls Tryz.prog 10 #[.slice A p.length c] w fun e w' => e = .returned (.tuple #[.string (pathTx p).1, .int .i64 (pathTx p).2]) ∧ Below w.heap.size w w' := by
  obtain ⟨b, hb⟩ : ∃ b, pathB p = b := ⟨_, rfl⟩
  cases b
  · have HV := Lib.hid (pathValid_is p w A c h hb)
    rw [show pathTx p = (⟨#[]⟩, 1) by rw [pathTx, if_neg (by rw [hb]; simp)]]
    obtain ⟨n, hn⟩ : ∃ n, n = p.length := ⟨_, rfl⟩
    rw [← hn] at HV
    rw [← hn]
    clear h hp hb hn
    go_enter Tryz.func10, Tryz.ntmps10
    go_wp2_with fail
    refine (HV.out).mono ?_
    rintro e w1 ⟨rfl, h1⟩
    have HB1 := Lib.hid h1
    clear h1
    go_wp2_with fail
    go_ret2
    exact ⟨rfl, HB1.out⟩
  · rw [show pathTx p = (⟨(pathT p).toArray⟩, 0) by rw [pathTx, if_pos hb]]
    exact pathText_any p w A c hb h hp
/-- The path that a text is of. -/
def parsePathP (l : List UInt8) : Option (List Stp) := match readP l with
  | none => none
  | some p => if pathB p = true ∧ pathT p = l then some p else none
def ParPost (R : Option (List Stp)) (w : World) (e : Ending) (w' : World) : Prop :=
  Below w.heap.size w w' ∧ match R with
    | none => e = .returned (.tuple #[.slice none 0 0, .int .i64 14])
    | some p => ∃ A c, e = .returned (.tuple #[.slice A p.length c, .int .i64 0]) ∧ PLies w' w'.heap.size A c p
theorem ParPost.no {R : Option (List Stp)} {w w' : World} (h : R = none) (hb : Below w.heap.size w w') : ParPost R w (.returned (.tuple #[.slice none 0 0, .int .i64 14])) w' := by subst h; exact ⟨hb, rfl⟩
theorem ParPost.yes {R : Option (List Stp)} {p : List Stp} {A : Option Addr} {c : Nat} {w w' : World} (h : R = some p) (hp : PLies w' w'.heap.size A c p) (hb : Below w.heap.size w w') : ParPost R w (.returned (.tuple #[.slice A p.length c, .int .i64 0])) w' := by
  subst h; exact ⟨hb, A, c, rfl, hp⟩
set_option maxRecDepth 100000 in
set_option maxHeartbeats 4000000 in
theorem parsePath_any (s : ByteArray) (w : World) (hs : s.size ≤ 100000) (hp : Pow w) :
    Calls Tryz.prog 12 #[.string s] w (ParPost (parsePathP s.data.toList) w) := by
  obtain ⟨R, hR⟩ : ∃ R, readP s.data.toList = R := ⟨_, rfl⟩
  obtain ⟨R', hR'⟩ : ∃ R, R = parsePathP s.data.toList := ⟨_, rfl⟩
  have HP := Lib.hid fun W (hW : Below w.heap.size w W) => hp.on hW
  have HRD := Lib.hid (readPath_any s w hs)
  rw [hR] at HRD
  rw [← hR']
  cases R with
  | none =>
    have HN := Lib.hid (show R' = none by rw [hR', parsePathP, hR])
    clear hR hR' hp
    go_enter Tryz.func12, Tryz.ntmps12
    go_wp2_with fail
    refine HRD.out.mono ?_
    rintro e w1 ⟨h1, rfl⟩
    have HB1 := Lib.hid h1
    clear h1
    go_wp2_with fail
    go_ret2
    exact ParPost.no HN.out HB1.out
  | some p =>
    obtain ⟨u, e0, hu⟩ : ∃ u n, pathTx p = (u, n) := ⟨_, _, rfl⟩
    have HR := Lib.hid (show R' = if pathB p = true ∧ pathT p = s.data.toList then some p else none by rw [hR', parsePathP, hR])
    have HT := Lib.hid fun W A c (hW : Below w.heap.size w W) (h : PLies W W.heap.size A c p) => pathText_all p W A c h (HP.out W hW)
    rw [hu] at HT
    obtain ⟨b, hb⟩ : ∃ b, pathB p = b := ⟨_, rfl⟩
    obtain ⟨n, hn⟩ : ∃ n, n = p.length := ⟨_, rfl⟩
    have HNN := Lib.hid hn
    rw [← hn] at HT
    cases b
    · have he : e0 = 1 := by rw [pathTx, if_neg (by rw [hb]; simp)] at hu; exact (Prod.mk.inj hu).2.symm
      have HN := Lib.hid (show R' = none by rw [HR.out, if_neg (by rw [hb]; simp)])
      subst he
      clear hR hR' hp hu hb hn
      go_enter Tryz.func12, Tryz.ntmps12
      go_wp2_with fail
      refine HRD.out.mono ?_
      rintro e w1 ⟨h1, A, c, rfl, hpl⟩
      rw [← HNN.out]
      have HB1 := Lib.hid h1
      have HPL := Lib.hid hpl
      clear h1 hpl
      go_wp2_with fail
      refine (HT.out _ A c HB1.out HPL.out).mono ?_
      rintro e w2 ⟨rfl, h2⟩
      have HB2 := Lib.hid (below_on HB1.out h2)
      clear h2
      go_wp2_with fail
      go_ret2
      exact ParPost.no HN.out HB2.out
    · have hu2 : u = ⟨(pathT p).toArray⟩ ∧ e0 = 0 := by rw [pathTx, if_pos hb] at hu; exact ⟨(Prod.mk.inj hu).1.symm, (Prod.mk.inj hu).2.symm⟩
      obtain ⟨hu3, rfl⟩ := hu2
      by_cases ht : pathT p = s.data.toList
      · have k1 : (u.toList == s.toList) = true := by
          rw [beq_iff_eq, ByteArray.toList_eq, ByteArray.toList_eq, hu3]; exact ht
        have k2 : (u.toList != s.toList) = false := by rw [bne, k1]; rfl
        have HY := Lib.hid (show R' = some p by rw [HR.out, if_pos ⟨hb, ht⟩])
        clear hR hR' hp hu hb hn ht hu3
        go_enter Tryz.func12, Tryz.ntmps12
        go_wp2_with fail
        refine HRD.out.mono ?_
        rintro e w1 ⟨h1, A, c, rfl, hpl⟩
        rw [← HNN.out]
        have HB1 := Lib.hid h1
        have HPL := Lib.hid hpl
        clear h1 hpl
        go_wp2_with fail
        refine (HT.out _ A c HB1.out HPL.out).mono ?_
        rintro e w2 ⟨rfl, h2⟩
        have HB2 := Lib.hid (below_on HB1.out h2)
        have HPL2 := Lib.hid (HPL.out.on h2)
        clear h2
        go_wp2_with fail
        go_ret2
        rw [HNN.out]
        exact ParPost.yes HY.out HPL2.out HB2.out
      · have k1 : (u.toList == s.toList) = false := by
          rw [beq_eq_false_iff_ne, ByteArray.toList_eq, ByteArray.toList_eq, hu3]; exact ht
        have k2 : (u.toList != s.toList) = true := by rw [bne, k1]; rfl
        have HN := Lib.hid (show R' = none by rw [HR.out, if_neg (fun e => ht e.2)])
        clear hR hR' hp hu hb hn ht hu3
        go_enter Tryz.func12, Tryz.ntmps12
        go_wp2_with fail
        refine HRD.out.mono ?_
        rintro e w1 ⟨h1, A, c, rfl, hpl⟩
        rw [← HNN.out]
        have HB1 := Lib.hid h1
        have HPL := Lib.hid hpl
        clear h1 hpl
        go_wp2_with fail
        refine (HT.out _ A c HB1.out HPL.out).mono ?_
        rintro e w2 ⟨rfl, h2⟩
        have HB2 := Lib.hid (below_on HB1.out h2)
        clear h2
        go_wp2_with fail
        go_ret2
        exact ParPost.no HN.out HB2.out
/-- ParsePath of a valid path's text. -/
theorem parse_path {p : List Stp} (h : pathB p = true) : parsePathP (pathT p) = some p := by
  have hr : readP (pathT p) = some p := by
    unfold readP pathT
    rw [if_pos (by simp [Lib.hasPrefix]), List.tail_cons]
    refine path_read p _ (path_valid h).2 ?_
    have : p.length ≤ (p.flatMap stepT).length := by
      clear h
      induction p with
      | nil => simp
      | cons s r ih =>
        rw [List.flatMap_cons, List.length_append, List.length_cons]
        have : 1 ≤ (stepT s).length := by unfold stepT; split <;> (try split) <;> simp
        omega
    omega
  rw [parsePathP, hr]
  simp [h]
theorem pathT_inj {p q : List Stp} (hp : pathB p = true) (hq : pathB q = true) (h : pathT p = pathT q) : p = q := by
  have h1 := parse_path hp
  rw [h, parse_path hq] at h1
  exact (Option.some.inj h1).symm
end Go.Proofs.YthlmnhelmhnpfaaGreatDoor

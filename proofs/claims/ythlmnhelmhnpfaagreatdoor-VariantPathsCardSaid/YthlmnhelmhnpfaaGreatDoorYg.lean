/- A path's text read, walked. -/
import Derived.Test.YthlmnhelmhnpfaaGreatDoorYf
namespace Go.Proofs.YthlmnhelmhnpfaaGreatDoor
open Go.RowKit

def stepCs (s : Stp) : List Value := [.int .i64 s.1, .string s.2]
theorem steps_len : ∀ acc : List Stp, (acc.flatMap stepCs).length = acc.length * 2
  | [] => rfl
  | s :: r => by rw [List.flatMap_cons, List.length_append, steps_len r]; simp [stepCs]; omega
theorem ext_take (t : ByteArray) (n : Nat) : (t.extract 0 n).data.toList = t.data.toList.take n := by
  simp
theorem size_list (t : ByteArray) : t.data.toList.length = t.size := by simp
theorem sizeT {t : ByteArray} (h : ¬ t.size = 0) : ¬ t.data.toList = [] := fun e => h (by rw [← size_list, e]; rfl)
/-- Where the reading of a path stands. -/
structure RdAt (w : World) (R : Option (List Stp)) (t : ByteArray) (v : Value) (acc : List Stp) (W : World) : Prop where
  old : Below w.heap.size w W
  own : W.ownsRow w.heap.size 46 2 v acc.length (acc.flatMap stepCs)
  txt : ∀ s ∈ acc, s.2.size ≤ 1000000
  res : ∃ f, t.size < f ∧ R = (readPathP f t.data.toList).map (acc ++ ·)
  room : acc.length + t.size ≤ 1000000
section
variable {w W W' W1 : World} {R : Option (List Stp)} {t : ByteArray} {v v' : Value} {acc : List Stp}
theorem own_on {base n size : Nat} {e : TypeId} {xs : List Value} (h : W.ownsRow base e size v n xs) (hb : Below W.heap.size W W') : W'.ownsRow base e size v n xs := by
  refine World.ownsRow.kept h (grown_none hb) ?_
  cases v.ownBlock
  · exact .inl rfl
  · exact .inr (by simp)
theorem RdAt.start (hR : R = readPathP (t.size + 1) t.data.toList) (hs : t.size ≤ 1000000) (hb : Below w.heap.size w W) : RdAt w R t (.slice none 0 0) [] W :=
  ⟨hb, World.ownsRow_nil _ _ _ _, (by simp), ⟨t.size + 1, Nat.lt_succ_self _, (by rw [hR]; cases readPathP (t.size + 1) t.data.toList <;> rfl)⟩, by simpa using hs⟩
theorem RdAt.on (h : RdAt w R t v acc W) (hb : Below W.heap.size W W') : RdAt w R t v acc W' := ⟨below_on h.old hb, own_on h.own hb, h.txt, h.res, h.room⟩
theorem RdAt.done (h : RdAt w R t v acc W) (ht : t.size = 0) : R = some acc := by
  obtain ⟨f, hf, hr⟩ := h.res
  cases f with
  | zero => omega
  | succ f =>
    rw [hr, readPathP, if_pos (List.eq_nil_of_length_eq_zero (by rw [size_list]; exact ht))]
    simp
theorem RdAt.noStep (h : RdAt w R t v acc W) (ht : ¬ t.size = 0) {n : Nat} (hn : n = 1 + endP false (sfx t 1)) (hs : readStepP (t.extract 0 n).data.toList = none) : R = none := by
  obtain ⟨f, hf, hr⟩ := h.res
  cases f with
  | zero => omega
  | succ f =>
    rw [hr, readPathP, if_neg (sizeT ht), tail_sfx, ← hn, ← ext_take, hs]
    rfl
theorem RdAt.next (h : RdAt w R t v acc W) (ht : ¬ t.size = 0) {n : Nat} (hn : n = 1 + endP false (sfx t 1)) {s : Stp} (hs : readStepP (t.extract 0 n).data.toList = some s) (hsz : s.2.size ≤ 1000000)
    (hb : Below w.heap.size w W') (ho : W'.ownsRow w.heap.size 46 2 v' (acc.length + 1) (acc.flatMap stepCs ++ stepCs s)) : RdAt w R (t.extract n t.size) v' (acc ++ [s]) W' := by
  obtain ⟨f, hf, hr⟩ := h.res
  have hroom := h.room
  have hsub : (t.extract n t.size).size = t.size - n := by simp
  refine ⟨hb, ?_, ?_, ?_, ?_⟩
  · rw [List.length_append, List.flatMap_append]
    simpa using ho
  · intro x hx
    rcases List.mem_append.1 hx with h1 | h1
    · exact h.txt x h1
    · rw [List.mem_singleton.1 h1]; exact hsz
  · cases f with
    | zero => omega
    | succ f =>
      refine ⟨f, by rw [hsub]; omega, ?_⟩
      rw [hr, readPathP, if_neg (sizeT ht), tail_sfx, ← hn, ← ext_take, hs, sfx_extract]
      show Option.map _ (Option.map _ (readPathP f (t.data.toList.drop n))) = Option.map _ (readPathP f (sfx t n))
      rw [Option.map_map]
      congr 1
      funext x
      simp
  · rw [List.length_append, hsub]
    simp
    omega
end
theorem steps_from {W : World} {g : Nat} : ∀ (acc : List Stp) (o : Nat), (∀ s ∈ acc, s.2.size ≤ 1000000) → (∀ j v, (acc.flatMap stepCs)[j]? = some v → W.cell? ⟨g, o + j, none⟩ = some v) → StepsFrom W acc g o
  | [], _, _, _ => trivial
  | s :: r, o, hs, h => by
    have h0 := h 0 (.int .i64 s.1) (by rw [List.flatMap_cons]; rfl)
    have h1 := h 1 (.string s.2) (by rw [List.flatMap_cons]; rfl)
    have := hs s (by simp)
    refine ⟨h0, h1, by unfold maxLen; omega, steps_from r (o + 2) (fun x hx => hs x (by simp [hx])) fun j v hj => ?_⟩
    rw [show o + 2 + j = o + (j + 2) by omega]
    refine h (j + 2) v ?_
    rw [List.flatMap_cons]
    exact hj
theorem RdAt.path {w W : World} {R : Option (List Stp)} {t : ByteArray} {v : Value} {acc : List Stp} (h : RdAt w R t v acc W) : ∃ A c, v = .slice A acc.length c ∧ PLies W W.heap.size A c acc := by
  obtain ⟨hl, ⟨rfl, h0⟩ | ⟨g, cap, cur, rfl, hbg, hb, hn, hm, hs, ht⟩⟩ := h.own
  · exact ⟨none, 0, by rw [h0], by omega, by simp [maxLen], .inl (List.eq_nil_of_length_eq_zero h0)⟩
  · have hB : BlockIs W g 46 cur := hb
    refine ⟨some ⟨g, 0, none⟩, cap, rfl, hn, hm, .inr ⟨g, 0, rfl, hB.lt, steps_from acc 0 h.txt fun j v hj => ?_⟩⟩
    rw [Nat.zero_add]
    refine (hB.cell j).trans ?_
    rw [← ht, List.getElem?_take] at hj
    split at hj
    · rw [← Array.getElem?_toList]; exact hj
    · cases hj
/-- What the reading of a path leaves. -/
def ReadPost (R : Option (List Stp)) (w : World) (e : Ending) (w' : World) : Prop :=
  Below w.heap.size w w' ∧ match R with
    | none => e = .returned (.tuple #[.slice none 0 0, .bool false])
    | some p => ∃ A c, e = .returned (.tuple #[.slice A p.length c, .bool true]) ∧ PLies w' w'.heap.size A c p
theorem ReadPost.no {R : Option (List Stp)} {w w' : World} (h : R = none) (hb : Below w.heap.size w w') : ReadPost R w (.returned (.tuple #[.slice none 0 0, .bool false])) w' := by subst h; exact ⟨hb, rfl⟩
theorem ReadPost.yes {R : Option (List Stp)} {p : List Stp} {A : Option Addr} {c : Nat} {w w' : World} (h : R = some p) (hp : PLies w' w'.heap.size A c p) (hb : Below w.heap.size w w') : ReadPost R w (.returned (.tuple #[.slice A p.length c, .bool true])) w' := by
  subst h; exact ⟨hb, A, c, rfl, hp⟩
/-- The steps of a text behind its sign. -/
def readP (l : List UInt8) : Option (List Stp) := if Lib.hasPrefix l [36] = true then readPathP (l.tail.length + 1) l.tail else none
theorem t_cases (t : ByteArray) : (t.size = 0 ∧ t = ⟨#[]⟩) ∨ (¬ t.size = 0 ∧ t.toList.isEmpty = false) := by
  by_cases h : t.size = 0
  · refine .inl ⟨h, ?_⟩
    have : t.data.toList = [] := List.eq_nil_of_length_eq_zero (by rw [size_list]; exact h)
    exact ByteArray.ext (Array.ext' this)
  · refine .inr ⟨h, ?_⟩
    rw [ByteArray.toList_eq, List.isEmpty_eq_false_iff]
    exact sizeT h
set_option maxRecDepth 100000 in
set_option maxHeartbeats 4000000 in
theorem readPath_any (s : ByteArray) (w : World) (hs : s.size ≤ 100000) :
    Calls Tryz.prog 35 #[.string s] w (ReadPost (readP s.data.toList) w) := by
  obtain ⟨i0, hi, hz0, hz1, hz2⟩ := info_parts (P := Tryz.prog) (e := 46) (z := (.agg #[.int .i64 0, .string ⟨#[]⟩])) (size := 2) (bytes := 24) (by kernel_rfl)
  obtain ⟨R, hR⟩ : ∃ R, R = readP s.data.toList := ⟨_, rfl⟩
  have HR := Lib.hid hR
  obtain ⟨b, hb⟩ : ∃ b, b = Lib.hasPrefix s.data.toList [36] := ⟨_, rfl⟩
  obtain ⟨t, ht⟩ : ∃ t : ByteArray, t = ⟨(Lib.trimPrefix s.data.toList [36]).toArray⟩ := ⟨_, rfl⟩
  have HCUT := Lib.hid fun W => show Calls Tryz.prog 64 #[.string s, .string ⟨#[36]⟩] W fun e w' => e = .returned (.tuple #[.string t, .bool b]) ∧ W = w' by
    rw [hb, ht]
    exact (Tryz.strings_CutPrefix s ⟨#[36]⟩ W).mono fun _ _ h => ⟨h.1, h.2.symm⟩
  rw [← hR]
  cases b
  · have HN := Lib.hid (show R = none by rw [hR, readP, if_neg (by rw [← hb]; simp)])
    clear hR hb ht
    go_enter Tryz.func35, Tryz.ntmps35
    go_wp2_with fail
    refine (HCUT.out _).mono ?_
    rintro e w1 ⟨rfl, rfl⟩
    go_wp2_with fail
    go_ret2
    exact ReadPost.no HN.out (Below.refl _ _)
  · have htl : t.data.toList = s.data.toList.tail := by
      rw [ht]
      show Lib.trimPrefix s.data.toList [36] = _
      unfold Lib.trimPrefix
      rw [if_pos hb.symm]
      simp
    have hts : t.size ≤ s.size := by rw [← size_list, ← size_list, htl]; simp
    have HA := Lib.hid (RdAt.start (w := w) (W := w) (R := R) (t := t) (by rw [hR, readP, if_pos hb.symm, ← htl, size_list]) (by omega) (Below.refl _ w))
    clear hR hb ht htl
    go_enter Tryz.func35, Tryz.ntmps35
    go_wp2_with fail
    refine (HCUT.out _).mono ?_
    rintro e w1 ⟨rfl, rfl⟩
    go_wp2_with fail
    go_loopw [4, 6] (fun rv pv wr => ∃ (t : ByteArray) (acc : List Stp), rv = .string t ∧ t.size ≤ 100000 ∧ Hid (RdAt w R t pv acc wr)) (fun rv _ _ => match rv with | .string t => t.size | _ => 0)
    case atStart => exact ⟨t, [], rfl, by omega, HA⟩
    case round =>
      clear HA HCUT HR hts
      obtain ⟨t, acc, rfl, hts, hI⟩ := hrel
      rcases t_cases t with ⟨h0, rfl⟩ | ⟨h0, hne⟩
      · obtain ⟨A, c, hv, hpl⟩ := hI.out.path
        have HP := Lib.hid hpl
        have HD := Lib.hid (hI.out.done h0)
        subst hv
        clear h0 hpl
        go_wp2_with fail
        go_ret2
        exact ReadPost.yes HD.out HP.out hI.out.old
      · obtain ⟨n, hn⟩ : ∃ n, n = 1 + endP false (sfx t 1) := ⟨_, rfl⟩
        have hn1 : 1 ≤ n := by omega
        have hn2 : n ≤ t.size := by have := endP_le _ false (sfx t 1) (Nat.le_refl _); rw [sfx_length] at this; omega
        have HE := Lib.hid fun W => (stepEnd_any t W n hn (by omega) (by omega)).mono (R' := fun e w' => e = .returned (.int .i64 n) ∧ W = w') fun _ _ h => ⟨h.1, h.2.symm⟩
        obtain ⟨u, hu⟩ : ∃ u, u = t.extract 0 n := ⟨_, rfl⟩
        obtain ⟨r, hr⟩ : ∃ r, r = readStepP u.data.toList := ⟨_, rfl⟩
        have hus : u.size = n := by rw [hu]; simp; omega
        have HS := Lib.hid fun W => readStep_any u W (by omega) (by omega)
        rw [← hr] at HS
        have HU := Lib.hid hu
        have HH := Lib.hid (And.intro h0 (And.intro hn (hr.trans (by rw [hu]))))
        have hni : (n : Int) ≤ t.size := by omega
        have hni0 : (0 : Int) ≤ n := by omega
        clear h0 hn hu hr hus
        go_wp2_with fail
        refine (HE.out _).mono ?_
        rintro e w1 ⟨rfl, rfl⟩
        go_wp2_with fail
        rw [← HU.out]
        refine (HS.out _).mono ?_
        intro e w1 hp
        cases r with
        | none =>
          obtain ⟨h1, rfl⟩ := hp
          have HN := Lib.hid (hI.out.noStep HH.out.1 HH.out.2.1 HH.out.2.2.symm)
          have HB1 := Lib.hid (below_al (below_on hI.out.old h1) (.cells #[.int .i64 0, .string ⟨#[]⟩] 46))
          clear h1
          go_wp2_with fail
          go_ret2
          exact ReadPost.no HN.out HB1.out
        | some st =>
          obtain ⟨h1, rfl, hsz⟩ := hp
          have HSZ := Lib.hid hsz
          have HI1 := Lib.hid (hI.out.on h1)
          have hroom := hI.out.room
          have hw1 : w.heap.size ≤ w1.heap.size := HI1.out.old.size
          clear h1 hsz
          go_wp2_with (at_builtin; refine wpList_append_own _ rfl _ _ 22 rfl w.heap.size 46 i0 (.agg #[.int .i64 0, .string ⟨#[]⟩]) 2 24 Tryz.underlying22 hi hz0 hz1 hz2 rfl (by decide) _ _ _ rfl (World.ownsRow.alloc (World.ownsRow.alloc HI1.out.own _) _) _ 1 1 (stepCs st) rfl rfl ?c1 ?c2 ?c3 ?c4 ?c5 ?_)
          case c1 =>
            intro i v hj
            match i, hj with
            | 0, hj => simp [stepCs] at hj; subst hj; simp [Addr.add]
            | 1, hj => simp [stepCs] at hj; subst hj; simp [Addr.add]
            | i + 2, hj => simp [stepCs] at hj
          case c2 => intro v hv; simp [stepCs] at hv; rcases hv with rfl | rfl <;> rfl
          case c3 => unfold maxLen; omega
          case c4 => omega
          case c5 => simp; omega
          intro v' w5 hown hgrow _
          have HB5 := Lib.hid (Below.grown (below_al (below_al HI1.out.old (.cells #[.int .i64 st.1, .string st.2] 46)) (.cells #[.int .i64 st.1, .string st.2] 46)) hgrow (by simp; omega) (fun k hk => (World.ownsRow.lt HI1.out.own k hk).1))
          have HN5 := Lib.hid (hI.out.next HH.out.1 HH.out.2.1 HH.out.2.2.symm HSZ.out HB5.out hown)
          have hdrop : (t.extract n t.size).size = t.size - n := by simp
          clear hown hgrow
          go_wp2_with fail
          go_roundw
          case rel => exact ⟨t.extract n t.size, acc ++ [st], rfl, by omega, HN5⟩
          case measure => simp; omega
end Go.Proofs.YthlmnhelmhnpfaaGreatDoor

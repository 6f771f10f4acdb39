/- Reading: the signs. -/
import Derived.Test.YtfiiaeomlmckfaaGreatDoorPa
import Derived.Test.YtfiiaeomlmckfaaGreatDoorMa
import Derived.Test.YtfiiaeomlmckfaaGreatDoorRa
import Derived.Deep.RegionHeld3
import Derived.Deep.Light
import Derived.Test.YtfiiaeomlmckfaaGreatDoorShelf
namespace Go.Proofs.YtfiiaeomlmckfaaGreatDoor
open Go.RowKit

/-- The panic by which a text is refused. -/
def boom : List PanicEntry := [{ v := .iface 24 (.int .i64 14), recovered := false }]
/-- Where a reader stands. -/
def PAt (w : World) (g : Nat) (s : ByteArray) (k n : Nat) : Prop := BlockIs w g 62 #[.string s, .int .i64 k, .int .i64 n]
def posOf (g : Nat) (w : World) : Nat := match w.cell? ⟨g, 1, none⟩ with | some (.int _ i) => i.toNat | _ => 0
theorem PAt.pos {w : World} {g : Nat} {s : ByteArray} {k n : Nat} (h : PAt w g s k n) : posOf g w = k := by
  have := BlockIs.cell h 1
  simp at this
  simp [posOf, this]
theorem PAt.lt {w : World} {g : Nat} {s : ByteArray} {k n : Nat} (h : PAt w g s k n) : g < w.heap.size := BlockIs.lt h
theorem PAt.c0 {w : World} {g : Nat} {s : ByteArray} {k n : Nat} (h : PAt w g s k n) : w.cell? ⟨g, 0, none⟩ = some (.string s) := by
  have := BlockIs.cell h 0; simpa using this
theorem PAt.c1 {w : World} {g : Nat} {s : ByteArray} {k n : Nat} (h : PAt w g s k n) : w.cell? ⟨g, 1, none⟩ = some (.int .i64 k) := by
  have := BlockIs.cell h 1; simpa using this
theorem PAt.c2 {w : World} {g : Nat} {s : ByteArray} {k n : Nat} (h : PAt w g s k n) : w.cell? ⟨g, 2, none⟩ = some (.int .i64 n) := by
  have := BlockIs.cell h 2; simpa using this
theorem PAt.fro {w : World} {g : Nat} {s : ByteArray} {k n : Nat} (h : PAt w g s k n) (i : Nat) : w.frozen? ⟨g, i, none⟩ = false := BlockIs.frozen h i
theorem PAt.move {w : World} {g : Nat} {s : ByteArray} {k n : Nat} (h : PAt w g s k n) (m : Nat) : PAt (w.setCell ⟨g, 1, none⟩ (.int .i64 m)) g s m n := by
  have := BlockIs.set_ h 1 (.int .i64 m); simpa [PAt] using this
theorem PAt.count {w : World} {g : Nat} {s : ByteArray} {k n : Nat} (h : PAt w g s k n) (m : Nat) : PAt (w.setCell ⟨g, 2, none⟩ (.int .i64 m)) g s k m := by
  have := BlockIs.set_ h 2 (.int .i64 m); simpa [PAt] using this

set_option maxHeartbeats 1000000 in
theorem must_yes (p : Value) (w : World) :
    Calls Tryz.prog 37 #[p, .bool true] w fun e w' => e = .returned (.tuple #[]) ∧ w' = w := by
  go_enter Tryz.func37, Tryz.ntmps37
  go_wp2_with fail
  exact bodyPost_end (v := .tuple #[]) (by simp [results, Tryz.results37, go_sem]) rfl ⟨rfl, rfl⟩
set_option maxHeartbeats 1000000 in
theorem must_no (p : Value) (w : World) :
    Calls Tryz.prog 37 #[p, .bool false] w fun e w' => e = .panicked boom ∧ w' = w := by
  go_enter Tryz.func37, Tryz.ntmps37
  go_wp2_with fail
  exact ⟨rfl, rfl, rfl⟩
theorem must_of {b : Bool} (h : b = false) (p : Value) (w : World) :
    Calls Tryz.prog 37 #[p, .bool b] w fun e w' => e = .panicked boom ∧ w' = w := by
  subst h; exact must_no p w
theorem must_on {b : Bool} (h : b = true) (p : Value) (w : World) :
    Calls Tryz.prog 37 #[p, .bool b] w fun e w' => e = .returned (.tuple #[]) ∧ w' = w := by
  subst h; exact must_yes p w

/-- A step of a reader. -/
def Went (g : Nat) (s : ByteArray) (k n : Nat) (w w' : World) : Prop := w.grownBy w' (some g) ∧ PAt w' g s k n
theorem Went.refl {g : Nat} {s : ByteArray} {k n : Nat} {w : World} (h : PAt w g s k n) : Went g s k n w w := ⟨⟨rfl, rfl, rfl, Nat.le_refl _, fun _ _ _ => rfl⟩, h⟩
theorem Went.trans {g : Nat} {s : ByteArray} {k n k' n' : Nat} {a b c : World} (h : Went g s k n a b) (h' : Went g s k' n' b c) : Went g s k' n' a c := ⟨grow_trans h.1 h'.1, h'.2⟩
theorem Went.drewN {g : Nat} {s : ByteArray} {k n : Nat} {a b : World} (h : Went g s k n a b) (m : Nat) : Went g s k n a (b.drewN m) := ⟨grow_drewN h.1 m, h.2⟩
theorem Went.drew {g : Nat} {s : ByteArray} {k n : Nat} {a b : World} (h : Went g s k n a b) : Went g s k n a b.drew := ⟨grow_drew h.1, h.2⟩
theorem Went.move {g : Nat} {s : ByteArray} {k n : Nat} {a b : World} (h : Went g s k n a b) (m : Nat) : Went g s m n a (b.setCell ⟨g, 1, none⟩ (.int .i64 m)) := ⟨grow_set h.1 _ _ rfl, h.2.move m⟩
theorem Went.count {g : Nat} {s : ByteArray} {k n : Nat} {a b : World} (h : Went g s k n a b) (m : Nat) : Went g s k m a (b.setCell ⟨g, 2, none⟩ (.int .i64 m)) := ⟨grow_set h.1 _ _ rfl, h.2.count m⟩

set_option maxRecDepth 100000 in
set_option maxHeartbeats 2000000 in
theorem next_no (g : Nat) (s : ByteArray) (k n : Nat) (w : World) (h : PAt w g s k n) (hk : ¬ k < s.size) :
    Calls Tryz.prog 83 #[.pointer (some ⟨g, 0, none⟩)] w fun e w' => e = .panicked boom ∧ w.grownBy w' (some g) := by
  have c0 := h.c0
  have c1 := h.c1
  have hk' := Lib.hid (show decide (k < s.size) = false by simpa using hk)
  clear hk
  go_enter Tryz.func83, Tryz.ntmps83
  go_wp2_with fail
  refine wp_region_held_drew (S := fun w' => w'.cell? ⟨g, 0, none⟩ = some (.string s) ∧ w'.cell? ⟨g, 1, none⟩ = some (.int .i64 k)) (by kernel_rfl) (show _ ∧ _ from ⟨c0, c1⟩) (fun hHeld => ?_)
  refine wpAnyH_take (i := 0) (oi := _) (v := ?_) rfl (by kernel_rfl) (by kernel_rfl) (by kernel_rfl) (fun _ _ _ h => h) (Or.inl ⟨by rfl, (by intro w hSw; (try dsimp only at hSw); go_simp; try (with_reducible rfl))⟩) (by assumption) ?_
  (try simp only [Act.put]); (try simp only [List.setIfInBounds_toArray]); (try simp only [List.set_cons_succ]); (try simp only [List.set_cons_zero])
  refine wpAnyH_take (i := 1) (oi := _) (v := ?_) rfl (by kernel_rfl) (by kernel_rfl) (by kernel_rfl) (fun _ _ _ h => h) (Or.inl ⟨by rfl, (by intro w hSw; (try dsimp only at hSw); go_simp; try (with_reducible rfl))⟩) (by assumption) ?_
  (try simp only [Act.put]); (try simp only [List.setIfInBounds_toArray]); (try simp only [List.set_cons_succ]); (try simp only [List.set_cons_zero])
  refine wpAnyH_take (i := 2) (oi := _) (v := ?_) rfl (by kernel_rfl) (by kernel_rfl) (by kernel_rfl) (fun _ _ _ h => h) (Or.inl ⟨by rfl, (by intro w hSw; (try dsimp only at hSw); go_simp; try (with_reducible rfl))⟩) (by assumption) ?_
  (try simp only [Act.put]); (try simp only [List.setIfInBounds_toArray]); (try simp only [List.set_cons_succ]); (try simp only [List.set_cons_zero])
  refine wpAnyH_take (i := 3) (oi := _) (v := ?_) rfl (by kernel_rfl) (by kernel_rfl) (by kernel_rfl) (fun _ _ _ h => h) (Or.inl ⟨by rfl, (by intro w hSw; (try dsimp only at hSw); go_simp; try (with_reducible rfl))⟩) (by assumption) ?_
  (try simp only [Act.put]); (try simp only [List.setIfInBounds_toArray]); (try simp only [List.set_cons_succ]); (try simp only [List.set_cons_zero])
  refine wpAnyH_take (i := 4) (oi := _) (v := ?_) rfl (by kernel_rfl) (by kernel_rfl) (by kernel_rfl) (fun _ _ _ h => h) (Or.inl ⟨by rfl, (by intro w hSw; (try dsimp only at hSw); go_simp; try (with_reducible rfl))⟩) (by assumption) ?_
  (try simp only [Act.put]); (try simp only [List.setIfInBounds_toArray]); (try simp only [List.set_cons_succ]); (try simp only [List.set_cons_zero])
  refine wpAnyH_take (i := 5) (oi := _) (v := ?_) rfl (by kernel_rfl) (by kernel_rfl) (by kernel_rfl) (fun _ _ _ h => h) (Or.inl ⟨by rfl, (by intro w hSw; (try dsimp only at hSw); go_simp; try (with_reducible rfl))⟩) (by assumption) ?_
  (try simp only [Act.put]); (try simp only [List.setIfInBounds_toArray]); (try simp only [List.set_cons_succ]); (try simp only [List.set_cons_zero])
  refine wpAnyH_take (i := 6) (oi := _) (v := ?_) rfl (by kernel_rfl) (by kernel_rfl) (by kernel_rfl) (fun _ _ _ h => h) (Or.inl ⟨by rfl, (by intro w hSw; (try dsimp only at hSw); go_simp; try (with_reducible rfl))⟩) (by assumption) ?_
  (try simp only [Act.put]); (try simp only [List.setIfInBounds_toArray]); (try simp only [List.set_cons_succ]); (try simp only [List.set_cons_zero])
  refine wpAnyH_take (i := 7) (oi := _) (v := ?_) rfl (by kernel_rfl) (by kernel_rfl) (by kernel_rfl) (fun _ _ _ h => h) (Or.inl ⟨by rfl, (by intro w hSw; (try dsimp only at hSw); go_simp; try (with_reducible rfl))⟩) (by assumption) ?_
  (try simp only [Act.put]); (try simp only [List.setIfInBounds_toArray]); (try simp only [List.set_cons_succ]); (try simp only [List.set_cons_zero])
  refine wpAnyH_take (i := 8) (oi := _) (v := ?_) rfl (by kernel_rfl) (by kernel_rfl) (by kernel_rfl) (fun _ _ _ h => h) (Or.inl ⟨by rfl, (by intro w hSw; (try dsimp only at hSw); go_simp; try (with_reducible rfl))⟩) (by assumption) ?_
  (try simp only [Act.put]); (try simp only [List.setIfInBounds_toArray]); (try simp only [List.set_cons_succ]); (try simp only [List.set_cons_zero])
  refine wpAnyH_take (i := 9) (oi := _) (v := ?_) rfl (by kernel_rfl) (by kernel_rfl) (by kernel_rfl) (fun _ _ _ h => h) (Or.inl ⟨by rfl, (by intro w hSw; (try dsimp only at hSw); go_simp; try (with_reducible rfl))⟩) (by assumption) ?_
  (try simp only [Act.put]); (try simp only [List.setIfInBounds_toArray]); (try simp only [List.set_cons_succ]); (try simp only [List.set_cons_zero])
  refine wpAnyH_take (i := 10) (oi := _) (v := ?_) rfl (by kernel_rfl) (by kernel_rfl) (by kernel_rfl) (fun _ _ _ h => h) (Or.inl ⟨by rfl, (by intro w hSw; (try dsimp only at hSw); go_simp; try (with_reducible rfl))⟩) (by assumption) ?_
  (try simp only [Act.put]); (try simp only [List.setIfInBounds_toArray]); (try simp only [List.set_cons_succ]); (try simp only [List.set_cons_zero])
  refine wpAnyH_ready (rs := [11]) (by kernel_rfl) (by simp) ?_
  refine AllReadyH.cons (o := _) rfl (fun K hK => ?_) AllReadyH.nil
  go_simp
  refine (must_of hk'.out _ _).mono ?_
  rintro e w' ⟨rfl, rfl⟩
  exact ⟨rfl, rfl, ((Went.refl h).drew).1⟩

set_option maxRecDepth 100000 in
set_option maxHeartbeats 2000000 in
theorem next_yes (g : Nat) (s : ByteArray) (k n : Nat) (w : World) (h : PAt w g s k n) (hk : k < s.size) (hs : s.size ≤ 1000000) :
    Calls Tryz.prog 83 #[.pointer (some ⟨g, 0, none⟩)] w fun e w' => e = .returned (.int .u8 s[k].toNat) ∧ Went g s (k + 1) n w w' := by
  have c0 := h.c0
  have c1 := h.c1
  have f1 := h.fro 1
  have hk' := Lib.hid (show decide (k < s.size) = true by simpa using hk)
  have hq := Lib.hid hk
  have hz := h.lt
  go_enter Tryz.func83, Tryz.ntmps83
  go_wp2_with fail
  go_quiet ((go_at_call 37; exact Calls.quiet_of_same (must_yes _ _)))
  go_wp2_with fail
  go_quiet (fail)
  go_wp2_with fail
  go_ret
  exact ⟨rfl, ((Went.refl h).drewN _).move (k + 1)⟩

theorem sk_blank {s : ByteArray} {k : Nat} (h : k < s.size) (hc : s[k].toNat = 32) : skipP (sfx s k) = skipP (sfx s (k + 1)) := by
  rw [sfx_cons h, skipP, if_pos (UInt8.toNat_inj.1 hc)]
theorem sk_other {s : ByteArray} {k : Nat} (h : k < s.size) (hc : ¬ s[k].toNat = 32) : skipP (sfx s k) = sfx s k := by
  rw [sfx_cons h, skipP, if_neg (fun e => hc (by rw [e]; rfl))]
theorem sk_end {s : ByteArray} {k : Nat} (h : ¬ k < s.size) : skipP (sfx s k) = sfx s k := by rw [sfx_nil h, skipP]

set_option maxRecDepth 100000 in
set_option maxHeartbeats 2000000 in
theorem blanks_any (g : Nat) (s : ByteArray) (k n : Nat) (w : World) (h : PAt w g s k n) (hk : k ≤ s.size) (hs : s.size ≤ 1000000) :
    Calls Tryz.prog 36 #[.pointer (some ⟨g, 0, none⟩)] w fun e w' => e = .returned (.tuple #[]) ∧ ∃ k' : Nat, k' ≤ s.size ∧ sfx s k' = skipP (sfx s k) ∧ Went g s k' n w w' := by
  have hR := Lib.hid (show ∃ k' : Nat, k' ≤ s.size ∧ skipP (sfx s k') = skipP (sfx s k) ∧ Went g s k' n w w from ⟨k, hk, rfl, Went.refl h⟩)
  clear h hk
  go_enter Tryz.func36, Tryz.ntmps36
  go_wp2_with fail
  go_loopw [] (fun wr => Hid (∃ k' : Nat, k' ≤ s.size ∧ skipP (sfx s k') = skipP (sfx s k) ∧ Went g s k' n w wr)) (fun wr => s.size - posOf g wr)
  case atStart => exact hR
  case round =>
    obtain ⟨j, hj, hsk, hA⟩ := hrel.out
    have HS := Lib.hid hsk
    have HA := Lib.hid hA
    have c0 := hA.2.c0
    have c1 := hA.2.c1
    have f1 := hA.2.fro 1
    have hz := hA.2.lt
    have hm := Lib.hid hA.2.pos
    clear hA hsk
    by_cases hlt : j < s.size
    · by_cases hc : s[j].toNat = 32
      · have HK := Lib.hid (sk_blank hlt hc)
        go_wp2_with fail
        have hd : decide (j < s.size) = true := by simpa using hlt
        go_quiet (fail)
        go_wp2_with fail
        have HX := Lib.hid ((HA.out.drewN nq).move (j + 1))
        go_roundw
        case rel => exact Lib.hid ⟨j + 1, by omega, HK.out.symm.trans HS.out, HX.out⟩
        case measure => rw [hm.out]; have hx : posOf g ((wr.drewN nq).setCell ⟨g, 1, none⟩ (.int .i64 (j + 1))) = j + 1 := HX.out.2.pos
                        rw [hx]; omega
      · have e0 : ((s[j].toNat : Int) == 32) = false := by simp; omega
        have HK := Lib.hid (sk_other hlt hc)
        clear hc
        go_wp2_with fail
        have hd : decide (j < s.size) = true := by simpa using hlt
        go_quiet (fail)
        go_wp2_with fail
        refine bodyPost_end (v := .tuple #[]) (by simp [results, Tryz.results36, go_sem]) rfl ⟨rfl, j, hj, HK.out.symm.trans HS.out, HA.out.drewN _⟩
    · have HK := Lib.hid (sk_end hlt)
      go_wp2_with fail
      have hd : decide (j < s.size) = false := by simpa using hlt
      go_quiet (fail)
      go_wp2_with fail
      refine bodyPost_end (v := .tuple #[]) (by simp [results, Tryz.results36, go_sem]) rfl ⟨rfl, j, hj, HK.out.symm.trans HS.out, HA.out.drewN _⟩

/-- What comes behind blanks. -/
theorem accept_any (g : Nat) (s : ByteArray) (k n : Nat) (c : UInt8) (q : Int) (hc : q = c.toNat) (w : World) (h : PAt w g s k n) (hk : k ≤ s.size) (hs : s.size ≤ 1000000) :
    Calls Tryz.prog 79 #[.pointer (some ⟨g, 0, none⟩), .int .u8 q] w fun e w' => e = .returned (.bool (takesP c (skipP (sfx s k)))) ∧ ∃ k' : Nat, k' ≤ s.size ∧ sfx s k' = tailP c (skipP (sfx s k)) ∧ Went g s k' n w w' := by
  have HB := Lib.hid fun W (hW : PAt W g s k n) => blanks_any g s k n W hW hk hs
  have H0 := Lib.hid h
  clear h hk
  go_enter Tryz.func79, Tryz.ntmps79
  go_wp2_with fail
  refine (HB.out _ H0.out).mono ?_
  rintro e w1 ⟨rfl, j, hj, hsk, hA⟩
  have HS := Lib.hid hsk
  have HA := Lib.hid hA
  have c0 := hA.2.c0
  have c1 := hA.2.c1
  have f1 := hA.2.fro 1
  have hz := hA.2.lt
  clear hA hsk
  by_cases hlt : j < s.size
  · by_cases he : s[j] = c
    · have HK := Lib.hid (show takesP c (sfx s j) = true ∧ tailP c (sfx s j) = sfx s (j + 1) by rw [sfx_cons hlt]; simp [takesP, tailP, he])
      have e0 : ((s[j].toNat : Int) == q) = true := by rw [hc, he]; simp
      clear he hc
      go_wp2_with fail
      have hd : decide (j < s.size) = true := by simpa using hlt
      go_quiet (fail)
      go_wp2_with fail
      go_ret
      exact ⟨by rw [← HS.out, HK.out.1]; rfl, j + 1, by omega, by rw [← HS.out, HK.out.2], (HA.out.drewN _).move (j + 1)⟩
    · have HK := Lib.hid (show takesP c (sfx s j) = false ∧ tailP c (sfx s j) = sfx s j by rw [sfx_cons hlt]; simp [takesP, tailP, he])
      have e0 : ((s[j].toNat : Int) == q) = false := by rw [hc]; simp; exact fun e => he (UInt8.toNat_inj.1 (by omega))
      clear he hc
      go_wp2_with fail
      have hd : decide (j < s.size) = true := by simpa using hlt
      go_quiet (fail)
      go_wp2_with fail
      go_ret
      exact ⟨by rw [← HS.out, HK.out.1]; rfl, j, hj, by rw [← HS.out, HK.out.2], HA.out.drewN _⟩
  · have HK := Lib.hid (show takesP c (sfx s j) = false ∧ tailP c (sfx s j) = sfx s j by rw [sfx_nil hlt]; simp [takesP, tailP])
    clear hc
    go_wp2_with fail
    have hd : decide (j < s.size) = false := by simpa using hlt
    go_quiet (fail)
    go_wp2_with fail
    go_ret
    exact ⟨by rw [← HS.out, HK.out.1]; rfl, j, hj, by rw [← HS.out, HK.out.2], HA.out.drewN _⟩
end Go.Proofs.YtfiiaeomlmckfaaGreatDoor
/- Reading: words. -/
namespace Go.Proofs.YtfiiaeomlmckfaaGreatDoor
open Go.RowKit

theorem hasPrefix_le {l p : List UInt8} (h : Lib.hasPrefix l p = true) : p.length ≤ l.length := by
  unfold Lib.hasPrefix at h
  exact (List.isPrefixOf_iff_prefix.1 h).length_le

set_option maxRecDepth 100000 in
set_option maxHeartbeats 2000000 in
theorem acceptName_any (g : Nat) (s p : ByteArray) (k n : Nat) (b : Bool) (w : World) (h : PAt w g s k n) (hk : k ≤ s.size) (hs : s.size ≤ 1000000) (hp : p.size ≤ 1000000) (hb : Lib.hasPrefix (sfx s k) p.data.toList = b) :
    Calls Tryz.prog 85 #[.pointer (some ⟨g, 0, none⟩), .string p] w fun e w' =>
      e = .returned (.bool b) ∧ Went g s (if b then k + p.size else k) n w w' := by
  have H0 := Lib.hid h
  have HC := Lib.hid fun W => show Calls Tryz.prog 103 #[.string (s.extract k s.size), .string p] W fun e w' => e = .returned (.bool b) ∧ w' = W from
    (Tryz.strings_HasPrefix (s.extract k s.size) p W).mono fun e w' he => by rw [sfx_extract, hb] at he; exact he
  have c0 := h.c0
  have c1 := h.c1
  have f1 := h.fro 1
  have hz := h.lt
  have hq : (0 : Int) ≤ (k : Int) ∧ (k : Int) ≤ (s.size : Int) := by omega
  clear h hb
  cases b
  all_goals go_enter Tryz.func85, Tryz.ntmps85
  all_goals go_wp2_with fail
  all_goals go_quiet ((go_at_call 103; exact Calls.quiet_of_same (HC.out _)))
  all_goals go_wp2_with fail
  all_goals go_ret
  · exact ⟨rfl, H0.out |> Went.refl |>.drewN _⟩
  · exact ⟨rfl, ((Went.refl H0.out).drewN _).move (k + p.size)⟩

def cellsOf (x : V) (A : Option Addr) (c : Nat) (K : Option Addr) (d : Nat) : Value := .agg #[.int .i64 x.kind, .int .i64 x.int, .string x.text, .slice A x.items.length c, .slice K x.keys.length d]
/-- What a reader of values leaves. -/
def VPost (g : Nat) (s : ByteArray) (w : World) : Option (V × List UInt8 × Nat) → Ending → World → Prop
  | none, e, w' => e = .panicked boom ∧ w.grownBy w' (some g)
  | some (x, l, n), e, w' => ∃ A c K d k, e = .returned (cellsOf x A c K d) ∧ LiesIn (Fresh w w') w' x A c K d ∧ k ≤ s.size ∧ sfx s k = l ∧ Went g s k n w w'
theorem lies_leaf (P : Nat → Prop) (w : World) (k i : Int) (t : ByteArray) (ht : t.size ≤ maxLen) : LiesIn P w (leaf k i t) none 0 none 0 := by
  unfold maxLen at ht
  simp [leaf, LiesIn, StrsIn, maxLen, ht]
theorem grow_refl (w : World) (r : Option Nat) : w.grownBy w r := ⟨rfl, rfl, rfl, Nat.le_refl _, fun _ _ _ => rfl⟩
theorem Went.alloc {g : Nat} {s : ByteArray} {k n : Nat} {a b : World} (h : Went g s k n a b) (o : Obj) : Went g s k n a (b.alloc o) := ⟨grow_alloc h.1 o, BlockIs.alloc h.2 o⟩
theorem Went.set {g : Nat} {s : ByteArray} {k n : Nat} {a b : World} (h : Went g s k n a b) (hg : g < a.heap.size) (p : Addr) (v : Value) (hp : a.heap.size ≤ p.block) : Went g s k n a (b.setCell p v) := ⟨grow_set_new h.1 p v hp, BlockIs.far h.2 (by omega) v⟩

/-- Behind a reader's call, in a function with a result of its own. -/
theorem after_new {g : Nat} {s : ByteArray} {w w1 : World} (k n : Nat) (hg : g < w.heap.size) (cs : Array Value) (t : TypeId) (h : Went g s k n (w.alloc (.cells cs t)) w1) :
    Hid (Went g s k n (w.alloc (.cells cs t)) w1) ∧ (∀ i, w1.cell? ⟨w.heap.size, i, none⟩ = cs[i]?) ∧ (∀ i, w1.frozen? ⟨w.heap.size, i, none⟩ = false) ∧ w.heap.size + 1 ≤ w1.heap.size := by
  have hb := (BlockIs.new w t cs).grown h.1 (by simp; omega)
  exact ⟨Lib.hid h, hb.cell, hb.frozen, by simpa using h.1.size⟩
theorem Went.old {g : Nat} {s : ByteArray} {k n : Nat} {w w1 : World} {o : Obj} (h : Went g s k n (w.alloc o) w1) (_hg : g < w.heap.size) : Went g s k n w w1 := ⟨grow_trans (World.grownBy_alloc w o _) h.1, h.2⟩
theorem set5 {g : Nat} {s : ByteArray} {k n : Nat} {w w1 : World} (h : Went g s k n w w1) (hg : g < w.heap.size) (a b c d e : Value) :
    Went g s k n w (((((w1.setCell ⟨w.heap.size, 0, none⟩ a).setCell ⟨w.heap.size, 1, none⟩ b).setCell ⟨w.heap.size, 2, none⟩ c).setCell ⟨w.heap.size, 3, none⟩ d).setCell ⟨w.heap.size, 4, none⟩ e) :=
  ((((h.set hg _ _ (Nat.le_refl _)).set hg _ _ (Nat.le_refl _)).set hg _ _ (Nat.le_refl _)).set hg _ _ (Nat.le_refl _)).set hg _ _ (Nat.le_refl _)

set_option maxRecDepth 100000 in
set_option maxHeartbeats 2000000 in
theorem name_any (g : Nat) (s : ByteArray) (k n : Nat) (w : World) (h : PAt w g s k n) (hk : k ≤ s.size) (hs : s.size ≤ 1000000) :
    Calls Tryz.prog 55 #[.pointer (some ⟨g, 0, none⟩)] w (VPost g s w ((nameP (sfx s k)).map fun r => (r.1, r.2, n))) := by
  have hg := h.lt
  have H0 := Lib.hid h
  have HA := Lib.hid fun (W : World) (p : ByteArray) (b : Bool) (hW : PAt W g s k n) (hp : p.size ≤ 1000000) (hb : Lib.hasPrefix (sfx s k) p.data.toList = b) => acceptName_any g s p k n b W hW hk hs hp hb
  clear h
  have hl : ∀ p : ByteArray, Lib.hasPrefix (sfx s k) p.data.toList = true → k + p.size ≤ s.size := by
    intro p hp
    have := hasPrefix_le hp
    rw [sfx_length] at this
    simp at this
    omega
  have HL := Lib.hid hl
  clear hl
  by_cases h1 : Lib.hasPrefix (sfx s k) nullW.data.toList = true
  · have HX := Lib.hid h1
    have HN := Lib.hid (show nameP (sfx s k) = some (leaf 0 0 ⟨#[]⟩, (sfx s k).drop 4) by unfold nameP; rw [if_pos h1])
    clear h1
    go_enter Tryz.func55, Tryz.ntmps55
    go_wp2_with fail
    refine (HA.out _ nullW true (BlockIs.alloc H0.out _) (by decide) HX.out).mono ?_
    rintro e w1 ⟨rfl, hw1⟩
    obtain ⟨HW, hc, hf, hz⟩ := after_new (if true then k + nullW.size else k) n hg _ _ hw1
    clear hw1
    go_wp2_with fail
    refine bodyPost_ret (v := cellsOf (leaf 0 0 ⟨#[]⟩) none 0 none 0) (by simp [results, Tryz.results55, go_sem, cellsOf, leaf, V.kind, V.int, V.text, V.items, V.keys, hc]) rfl ?_
    rw [HN.out]
    exact ⟨none, 0, none, 0, k + 4, rfl, lies_leaf _ _ _ _ _ (by decide), HL.out nullW HX.out, (sfx_drop s k 4).symm, set5 (HW.out.old hg) hg _ _ _ _ _⟩
  by_cases h2 : Lib.hasPrefix (sfx s k) falseW.data.toList = true
  · have HX := Lib.hid h2
    have HX1 := Lib.hid (show Lib.hasPrefix (sfx s k) nullW.data.toList = false by simpa using h1)
    have HN := Lib.hid (show nameP (sfx s k) = some (leaf 1 0 ⟨#[]⟩, (sfx s k).drop 5) by unfold nameP; rw [if_neg h1, if_pos h2])
    clear h1 h2
    go_enter Tryz.func55, Tryz.ntmps55
    go_wp2_with fail
    refine (HA.out _ nullW false (BlockIs.alloc H0.out _) (by decide) HX1.out).mono ?_
    rintro e w1 ⟨rfl, hw1⟩
    obtain ⟨HW1, hc1, hf1, hz1⟩ := after_new (if false then k + nullW.size else k) n hg _ _ hw1
    clear hw1
    go_wp2_with fail
    refine (HA.out _ falseW true HW1.out.2 (by decide) HX.out).mono ?_
    rintro e w2 ⟨rfl, hw2⟩
    obtain ⟨HW, hc, hf, hz⟩ := after_new (if true then k + falseW.size else k) n hg _ _ (HW1.out.trans hw2)
    clear hw2 hc1 hf1 hz1
    go_wp2_with fail
    refine bodyPost_ret (v := cellsOf (leaf 1 0 ⟨#[]⟩) none 0 none 0) (by simp [results, Tryz.results55, go_sem, cellsOf, leaf, V.kind, V.int, V.text, V.items, V.keys, hc]) rfl ?_
    rw [HN.out]
    exact ⟨none, 0, none, 0, k + 5, rfl, lies_leaf _ _ _ _ _ (by decide), HL.out falseW HX.out, (sfx_drop s k 5).symm, set5 (HW.out.old hg) hg _ _ _ _ _⟩
  by_cases h3 : Lib.hasPrefix (sfx s k) trueW.data.toList = true
  · have HX := Lib.hid h3
    have HX1 := Lib.hid (show Lib.hasPrefix (sfx s k) nullW.data.toList = false by simpa using h1)
    have HX2 := Lib.hid (show Lib.hasPrefix (sfx s k) falseW.data.toList = false by simpa using h2)
    have HN := Lib.hid (show nameP (sfx s k) = some (leaf 1 1 ⟨#[]⟩, (sfx s k).drop 4) by unfold nameP; rw [if_neg h1, if_neg h2, if_pos h3])
    clear h1 h2 h3
    go_enter Tryz.func55, Tryz.ntmps55
    go_wp2_with fail
    refine (HA.out _ nullW false (BlockIs.alloc H0.out _) (by decide) HX1.out).mono ?_
    rintro e w1 ⟨rfl, hw1⟩
    obtain ⟨HW1, hc1, hf1, hz1⟩ := after_new (if false then k + nullW.size else k) n hg _ _ hw1
    clear hw1
    go_wp2_with fail
    refine (HA.out _ falseW false HW1.out.2 (by decide) HX2.out).mono ?_
    rintro e w2 ⟨rfl, hw2⟩
    obtain ⟨HW2, hc2, hf2, hz2⟩ := after_new (if false then k + falseW.size else k) n hg _ _ (HW1.out.trans hw2)
    clear hw2 hc1 hf1 hz1
    go_wp2_with fail
    refine (HA.out _ trueW true HW2.out.2 (by decide) HX.out).mono ?_
    rintro e w3 ⟨rfl, hw3⟩
    obtain ⟨HW, hc, hf, hz⟩ := after_new (if true then k + trueW.size else k) n hg _ _ (HW2.out.trans hw3)
    clear hw3 hc2 hf2 hz2
    go_wp2_with (go_at_call 37; refine (must_yes _ _).mono ?_; rintro e w' ⟨rfl, rfl⟩)
    refine bodyPost_ret (v := cellsOf (leaf 1 1 ⟨#[]⟩) none 0 none 0) (by simp [results, Tryz.results55, go_sem, cellsOf, leaf, V.kind, V.int, V.text, V.items, V.keys, hc]) rfl ?_
    rw [HN.out]
    exact ⟨none, 0, none, 0, k + 4, rfl, lies_leaf _ _ _ _ _ (by decide), HL.out trueW HX.out, (sfx_drop s k 4).symm, set5 (HW.out.old hg) hg _ _ _ _ _⟩
  have HX1 := Lib.hid (show Lib.hasPrefix (sfx s k) nullW.data.toList = false by simpa using h1)
  have HX2 := Lib.hid (show Lib.hasPrefix (sfx s k) falseW.data.toList = false by simpa using h2)
  have HX3 := Lib.hid (show Lib.hasPrefix (sfx s k) trueW.data.toList = false by simpa using h3)
  have HN := Lib.hid (show nameP (sfx s k) = none by unfold nameP; rw [if_neg h1, if_neg h2, if_neg h3])
  clear h1 h2 h3
  go_enter Tryz.func55, Tryz.ntmps55
  go_wp2_with fail
  refine (HA.out _ nullW false (BlockIs.alloc H0.out _) (by decide) HX1.out).mono ?_
  rintro e w1 ⟨rfl, hw1⟩
  obtain ⟨HW1, hc1, hf1, hz1⟩ := after_new (if false then k + nullW.size else k) n hg _ _ hw1
  clear hw1
  go_wp2_with fail
  refine (HA.out _ falseW false HW1.out.2 (by decide) HX2.out).mono ?_
  rintro e w2 ⟨rfl, hw2⟩
  obtain ⟨HW2, hc2, hf2, hz2⟩ := after_new (if false then k + falseW.size else k) n hg _ _ (HW1.out.trans hw2)
  clear hw2 hc1 hf1 hz1
  go_wp2_with fail
  refine (HA.out _ trueW false HW2.out.2 (by decide) HX3.out).mono ?_
  rintro e w3 ⟨rfl, hw3⟩
  obtain ⟨HW, hc, hf, hz⟩ := after_new (if false then k + trueW.size else k) n hg _ _ (HW2.out.trans hw3)
  clear hw3 hc2 hf2 hz2
  go_wp2_with (go_at_call 37; refine (must_no _ _).mono ?_; rintro e w' ⟨rfl, rfl⟩)
  refine ⟨rfl, ?_⟩
  rw [HN.out]
  exact ⟨rfl, (HW.out.old hg).1⟩
end Go.Proofs.YtfiiaeomlmckfaaGreatDoor

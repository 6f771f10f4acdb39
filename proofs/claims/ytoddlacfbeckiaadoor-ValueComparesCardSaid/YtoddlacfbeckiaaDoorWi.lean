/- Reading: the signs. -/
import Derived.Test.YtoddlacfbeckiaaDoorPq
import Derived.Test.YtoddlacfbeckiaaDoorMb
import Derived.Test.YtoddlacfbeckiaaDoorRa
import Derived.Deep.RegionHeld3
import Derived.Deep.Light
namespace Go.Proofs.YtoddlacfbeckiaaDoor
open Go.RowKit

/-- The panic by which a text is refused. -/
def boom : List PanicEntry := [{ v := .iface 27 (.int .i64 14), recovered := false }]
/-- Where a reader stands. -/
def PAt (w : World) (g : Nat) (s : ByteArray) (k n : Nat) : Prop := Blk w g 65 #[.string s, .int .i64 k, .int .i64 n]
def posOf (g : Nat) (w : World) : Nat := match w.cell? ⟨g, 1, none⟩ with | some (.int _ i) => i.toNat | _ => 0
theorem PAt.pos {w : World} {g : Nat} {s : ByteArray} {k n : Nat} (h : PAt w g s k n) : posOf g w = k := by
  have := Blk.cell h 1
  simp at this
  simp [posOf, this]
theorem PAt.lt {w : World} {g : Nat} {s : ByteArray} {k n : Nat} (h : PAt w g s k n) : g < w.heap.size := Blk.lt h
theorem PAt.c0 {w : World} {g : Nat} {s : ByteArray} {k n : Nat} (h : PAt w g s k n) : w.cell? ⟨g, 0, none⟩ = some (.string s) := by
  have := Blk.cell h 0; simpa using this
theorem PAt.c1 {w : World} {g : Nat} {s : ByteArray} {k n : Nat} (h : PAt w g s k n) : w.cell? ⟨g, 1, none⟩ = some (.int .i64 k) := by
  have := Blk.cell h 1; simpa using this
theorem PAt.c2 {w : World} {g : Nat} {s : ByteArray} {k n : Nat} (h : PAt w g s k n) : w.cell? ⟨g, 2, none⟩ = some (.int .i64 n) := by
  have := Blk.cell h 2; simpa using this
theorem PAt.fro {w : World} {g : Nat} {s : ByteArray} {k n : Nat} (h : PAt w g s k n) (i : Nat) : w.frozen? ⟨g, i, none⟩ = false := Blk.frozen h i
theorem PAt.move {w : World} {g : Nat} {s : ByteArray} {k n : Nat} (h : PAt w g s k n) (m : Nat) : PAt (w.setCell ⟨g, 1, none⟩ (.int .i64 m)) g s m n := by
  have := Blk.set_ h 1 (.int .i64 m); simpa [PAt] using this
theorem PAt.count {w : World} {g : Nat} {s : ByteArray} {k n : Nat} (h : PAt w g s k n) (m : Nat) : PAt (w.setCell ⟨g, 2, none⟩ (.int .i64 m)) g s k m := by
  have := Blk.set_ h 2 (.int .i64 m); simpa [PAt] using this

set_option maxHeartbeats 1000000 in
theorem must_yes (p : Value) (w : World) :
    Calls Tryd.prog 50 #[p, .bool true] w fun e w' => e = .returned (.tuple #[]) ∧ w' = w := by
  go_enter Tryd.func50, Tryd.ntmps50
  go_wp2_with fail
  exact bodyPost_end (v := .tuple #[]) (by simp [results, Tryd.results50, go_sem]) rfl ⟨rfl, rfl⟩
set_option maxHeartbeats 1000000 in
theorem must_no (p : Value) (w : World) :
    Calls Tryd.prog 50 #[p, .bool false] w fun e w' => e = .panicked boom ∧ w' = w := by
  go_enter Tryd.func50, Tryd.ntmps50
  go_wp2_with fail
  exact ⟨rfl, rfl, rfl⟩
theorem must_of {b : Bool} (h : b = false) (p : Value) (w : World) :
    Calls Tryd.prog 50 #[p, .bool b] w fun e w' => e = .panicked boom ∧ w' = w := by
  subst h; exact must_no p w
theorem must_on {b : Bool} (h : b = true) (p : Value) (w : World) :
    Calls Tryd.prog 50 #[p, .bool b] w fun e w' => e = .returned (.tuple #[]) ∧ w' = w := by
  subst h; exact must_yes p w

/-- A step of a reader. -/
def Went (g : Nat) (s : ByteArray) (k n : Nat) (w w' : World) : Prop := w.grownBy w' (some g) ∧ PAt w' g s k n
theorem Went.refl {g : Nat} {s : ByteArray} {k n : Nat} {w : World} (h : PAt w g s k n) : Went g s k n w w := ⟨⟨rfl, rfl, rfl, Nat.le_refl _, fun _ _ _ => rfl⟩, h⟩
theorem Went.trans {g : Nat} {s : ByteArray} {k n k' n' : Nat} {a b c : World} (h : Went g s k n a b) (h' : Went g s k' n' b c) : Went g s k' n' a c := ⟨grow_trans h.1 h'.1, h'.2⟩
theorem Went.drewN {g : Nat} {s : ByteArray} {k n : Nat} {a b : World} (h : Went g s k n a b) (m : Nat) : Went g s k n a (b.drewN m) := ⟨grow_drewN h.1 m, h.2⟩
theorem Went.drew {g : Nat} {s : ByteArray} {k n : Nat} {a b : World} (h : Went g s k n a b) : Went g s k n a b.drew := ⟨grow_drew h.1, h.2⟩
theorem Went.move {g : Nat} {s : ByteArray} {k n : Nat} {a b : World} (h : Went g s k n a b) (m : Nat) : Went g s m n a (b.setCell ⟨g, 1, none⟩ (.int .i64 m)) := ⟨grow_set h.1 _ _ rfl, h.2.move m⟩
theorem Went.count {g : Nat} {s : ByteArray} {k n : Nat} {a b : World} (h : Went g s k n a b) (m : Nat) : Went g s k m a (b.setCell ⟨g, 2, none⟩ (.int .i64 m)) := ⟨grow_set h.1 _ _ rfl, h.2.count m⟩

set_option maxRecDepth 100000 in
set_option maxHeartbeats 2000000 in
theorem next_no (g : Nat) (s : ByteArray) (k n : Nat) (w : World) (h : PAt w g s k n) (hk : ¬ k < s.size) :
    Calls Tryd.prog 93 #[.pointer (some ⟨g, 0, none⟩)] w fun e w' => e = .panicked boom ∧ w.grownBy w' (some g) := by
  have c0 := h.c0
  have c1 := h.c1
  have hk' := Lib.hid (show decide (k < s.size) = false by simpa using hk)
  clear hk
  go_enter Tryd.func93, Tryd.ntmps93
  go_wp2_with fail
  refine wp_region_held_drew (S := fun w' => w'.cell? ⟨g, 0, none⟩ = some (.string s) ∧ w'.cell? ⟨g, 1, none⟩ = some (.int .i64 k)) (by kernel_rfl) (show _ ∧ _ from ⟨c0, c1⟩) (fun hHeld => ?_)
  refine wpAnyH_take (i := 0) (oi := _) (v := ?_) rfl (by kernel_rfl) (by kernel_rfl) (by kernel_rfl) (fun _ _ _ h => h) (Or.inl ⟨by rfl, (by intro w hSw; (try dsimp only at hSw); go_simp; try (with_reducible rfl))⟩) (by assumption) ?_
  try simp only [Act.put, List.setIfInBounds_toArray, List.set_cons_zero, List.set_cons_succ]
  refine wpAnyH_take (i := 1) (oi := _) (v := ?_) rfl (by kernel_rfl) (by kernel_rfl) (by kernel_rfl) (fun _ _ _ h => h) (Or.inl ⟨by rfl, (by intro w hSw; (try dsimp only at hSw); go_simp; try (with_reducible rfl))⟩) (by assumption) ?_
  try simp only [Act.put, List.setIfInBounds_toArray, List.set_cons_zero, List.set_cons_succ]
  refine wpAnyH_take (i := 2) (oi := _) (v := ?_) rfl (by kernel_rfl) (by kernel_rfl) (by kernel_rfl) (fun _ _ _ h => h) (Or.inl ⟨by rfl, (by intro w hSw; (try dsimp only at hSw); go_simp; try (with_reducible rfl))⟩) (by assumption) ?_
  try simp only [Act.put, List.setIfInBounds_toArray, List.set_cons_zero, List.set_cons_succ]
  refine wpAnyH_take (i := 3) (oi := _) (v := ?_) rfl (by kernel_rfl) (by kernel_rfl) (by kernel_rfl) (fun _ _ _ h => h) (Or.inl ⟨by rfl, (by intro w hSw; (try dsimp only at hSw); go_simp; try (with_reducible rfl))⟩) (by assumption) ?_
  try simp only [Act.put, List.setIfInBounds_toArray, List.set_cons_zero, List.set_cons_succ]
  refine wpAnyH_take (i := 4) (oi := _) (v := ?_) rfl (by kernel_rfl) (by kernel_rfl) (by kernel_rfl) (fun _ _ _ h => h) (Or.inl ⟨by rfl, (by intro w hSw; (try dsimp only at hSw); go_simp; try (with_reducible rfl))⟩) (by assumption) ?_
  try simp only [Act.put, List.setIfInBounds_toArray, List.set_cons_zero, List.set_cons_succ]
  refine wpAnyH_take (i := 5) (oi := _) (v := ?_) rfl (by kernel_rfl) (by kernel_rfl) (by kernel_rfl) (fun _ _ _ h => h) (Or.inl ⟨by rfl, (by intro w hSw; (try dsimp only at hSw); go_simp; try (with_reducible rfl))⟩) (by assumption) ?_
  try simp only [Act.put, List.setIfInBounds_toArray, List.set_cons_zero, List.set_cons_succ]
  refine wpAnyH_take (i := 6) (oi := _) (v := ?_) rfl (by kernel_rfl) (by kernel_rfl) (by kernel_rfl) (fun _ _ _ h => h) (Or.inl ⟨by rfl, (by intro w hSw; (try dsimp only at hSw); go_simp; try (with_reducible rfl))⟩) (by assumption) ?_
  try simp only [Act.put, List.setIfInBounds_toArray, List.set_cons_zero, List.set_cons_succ]
  refine wpAnyH_take (i := 7) (oi := _) (v := ?_) rfl (by kernel_rfl) (by kernel_rfl) (by kernel_rfl) (fun _ _ _ h => h) (Or.inl ⟨by rfl, (by intro w hSw; (try dsimp only at hSw); go_simp; try (with_reducible rfl))⟩) (by assumption) ?_
  try simp only [Act.put, List.setIfInBounds_toArray, List.set_cons_zero, List.set_cons_succ]
  refine wpAnyH_take (i := 8) (oi := _) (v := ?_) rfl (by kernel_rfl) (by kernel_rfl) (by kernel_rfl) (fun _ _ _ h => h) (Or.inl ⟨by rfl, (by intro w hSw; (try dsimp only at hSw); go_simp; try (with_reducible rfl))⟩) (by assumption) ?_
  try simp only [Act.put, List.setIfInBounds_toArray, List.set_cons_zero, List.set_cons_succ]
  refine wpAnyH_take (i := 9) (oi := _) (v := ?_) rfl (by kernel_rfl) (by kernel_rfl) (by kernel_rfl) (fun _ _ _ h => h) (Or.inl ⟨by rfl, (by intro w hSw; (try dsimp only at hSw); go_simp; try (with_reducible rfl))⟩) (by assumption) ?_
  try simp only [Act.put, List.setIfInBounds_toArray, List.set_cons_zero, List.set_cons_succ]
  refine wpAnyH_take (i := 10) (oi := _) (v := ?_) rfl (by kernel_rfl) (by kernel_rfl) (by kernel_rfl) (fun _ _ _ h => h) (Or.inl ⟨by rfl, (by intro w hSw; (try dsimp only at hSw); go_simp; try (with_reducible rfl))⟩) (by assumption) ?_
  try simp only [Act.put, List.setIfInBounds_toArray, List.set_cons_zero, List.set_cons_succ]
  refine wpAnyH_ready (rs := [11]) (by kernel_rfl) (by simp) ?_
  refine AllReadyH.cons (o := _) rfl (fun K hK => ?_) AllReadyH.nil
  go_simp
  refine (must_of hk'.out _ _).mono ?_
  rintro e w' ⟨rfl, rfl⟩
  exact ⟨rfl, rfl, ((Went.refl h).drew).1⟩

set_option maxRecDepth 100000 in
set_option maxHeartbeats 2000000 in
theorem next_yes (g : Nat) (s : ByteArray) (k n : Nat) (w : World) (h : PAt w g s k n) (hk : k < s.size) (hs : s.size ≤ 1000000) :
    Calls Tryd.prog 93 #[.pointer (some ⟨g, 0, none⟩)] w fun e w' => e = .returned (.int .u8 s[k].toNat) ∧ Went g s (k + 1) n w w' := by
  have c0 := h.c0
  have c1 := h.c1
  have f1 := h.fro 1
  have hk' := Lib.hid (show decide (k < s.size) = true by simpa using hk)
  have hq := Lib.hid hk
  have hz := h.lt
  go_enter Tryd.func93, Tryd.ntmps93
  go_wp2_with fail
  go_quiet ((go_at_call 50; exact Calls.quiet_of_same (must_yes _ _)))
  go_wp2_with fail
  go_quiet (fail)
  go_wp2_with fail
  go_ret
  exact ⟨rfl, ((Went.refl h).drewN _).move (k + 1)⟩

theorem sk_blank {s : ByteArray} {k : Nat} (h : k < s.size) (hc : s[k].toNat = 32) : skipP (sfx s k) = skipP (sfx s (k + 1)) := by
  rw [sfx_cons h, skipP, if_pos (UInt8.toNat_inj.1 hc)]
theorem sk_other {s : ByteArray} {k : Nat} (h : k < s.size) (hc : ¬ s[k].toNat = 32) : skipP (sfx s k) = sfx s k := by
  rw [sfx_cons h, skipP, if_neg (fun e => hc (by rw [e]; rfl))]
theorem sk_end {s : ByteArray} {k : Nat} (h : ¬ k < s.size) : skipP (sfx s k) = sfx s k := by rw [sfx_nil h, skipP]

set_option maxRecDepth 100000 in
set_option maxHeartbeats 2000000 in
theorem blanks_any (g : Nat) (s : ByteArray) (k n : Nat) (w : World) (h : PAt w g s k n) (hk : k ≤ s.size) (hs : s.size ≤ 1000000) :
    Calls Tryd.prog 49 #[.pointer (some ⟨g, 0, none⟩)] w fun e w' => e = .returned (.tuple #[]) ∧ ∃ k' : Nat, k' ≤ s.size ∧ sfx s k' = skipP (sfx s k) ∧ Went g s k' n w w' := by
  have hR := Lib.hid (show ∃ k' : Nat, k' ≤ s.size ∧ skipP (sfx s k') = skipP (sfx s k) ∧ Went g s k' n w w from ⟨k, hk, rfl, Went.refl h⟩)
  clear h hk
  go_enter Tryd.func49, Tryd.ntmps49
  go_wp2_with fail
  go_loopw [] (fun wr => Hid (∃ k' : Nat, k' ≤ s.size ∧ skipP (sfx s k') = skipP (sfx s k) ∧ Went g s k' n w wr)) (fun wr => s.size - posOf g wr)
  case atStart => exact hR
  case round =>
    obtain ⟨j, hj, hsk, hA⟩ := hrel.out
    have HS := Lib.hid hsk
    have HA := Lib.hid hA
    have c0 := hA.2.c0
    have c1 := hA.2.c1
    have f1 := hA.2.fro 1
    have hz := hA.2.lt
    have hm := Lib.hid hA.2.pos
    clear hA hsk
    by_cases hlt : j < s.size
    · by_cases hc : s[j].toNat = 32
      · have HK := Lib.hid (sk_blank hlt hc)
        go_wp2_with fail
        have hd : decide (j < s.size) = true := by simpa using hlt
        go_quiet (fail)
        go_wp2_with fail
        have HX := Lib.hid ((HA.out.drewN nq).move (j + 1))
        go_roundw
        case rel => exact Lib.hid ⟨j + 1, by omega, HK.out.symm.trans HS.out, HX.out⟩
        case measure => rw [hm.out]; have hx : posOf g ((wr.drewN nq).setCell ⟨g, 1, none⟩ (.int .i64 (j + 1))) = j + 1 := HX.out.2.pos
                        rw [hx]; omega
      · have e0 : ((s[j].toNat : Int) == 32) = false := by simp; omega
        have HK := Lib.hid (sk_other hlt hc)
        clear hc
        go_wp2_with fail
        have hd : decide (j < s.size) = true := by simpa using hlt
        go_quiet (fail)
        go_wp2_with fail
        refine bodyPost_end (v := .tuple #[]) (by simp [results, Tryd.results49, go_sem]) rfl ⟨rfl, j, hj, HK.out.symm.trans HS.out, HA.out.drewN _⟩
    · have HK := Lib.hid (sk_end hlt)
      go_wp2_with fail
      have hd : decide (j < s.size) = false := by simpa using hlt
      go_quiet (fail)
      go_wp2_with fail
      refine bodyPost_end (v := .tuple #[]) (by simp [results, Tryd.results49, go_sem]) rfl ⟨rfl, j, hj, HK.out.symm.trans HS.out, HA.out.drewN _⟩

/-- What comes behind blanks. -/
theorem accept_any (g : Nat) (s : ByteArray) (k n : Nat) (c : UInt8) (q : Int) (hc : q = c.toNat) (w : World) (h : PAt w g s k n) (hk : k ≤ s.size) (hs : s.size ≤ 1000000) :
    Calls Tryd.prog 89 #[.pointer (some ⟨g, 0, none⟩), .int .u8 q] w fun e w' => e = .returned (.bool (takesP c (skipP (sfx s k)))) ∧ ∃ k' : Nat, k' ≤ s.size ∧ sfx s k' = tailP c (skipP (sfx s k)) ∧ Went g s k' n w w' := by
  have HB := Lib.hid fun W (hW : PAt W g s k n) => blanks_any g s k n W hW hk hs
  have H0 := Lib.hid h
  clear h hk
  go_enter Tryd.func89, Tryd.ntmps89
  go_wp2_with fail
  refine (HB.out _ H0.out).mono ?_
  rintro e w1 ⟨rfl, j, hj, hsk, hA⟩
  have HS := Lib.hid hsk
  have HA := Lib.hid hA
  have c0 := hA.2.c0
  have c1 := hA.2.c1
  have f1 := hA.2.fro 1
  have hz := hA.2.lt
  clear hA hsk
  by_cases hlt : j < s.size
  · by_cases he : s[j] = c
    · have HK := Lib.hid (show takesP c (sfx s j) = true ∧ tailP c (sfx s j) = sfx s (j + 1) by rw [sfx_cons hlt]; simp [takesP, tailP, he])
      have e0 : ((s[j].toNat : Int) == q) = true := by rw [hc, he]; simp
      clear he hc
      go_wp2_with fail
      have hd : decide (j < s.size) = true := by simpa using hlt
      go_quiet (fail)
      go_wp2_with fail
      go_ret
      exact ⟨by rw [← HS.out, HK.out.1]; rfl, j + 1, by omega, by rw [← HS.out, HK.out.2], (HA.out.drewN _).move (j + 1)⟩
    · have HK := Lib.hid (show takesP c (sfx s j) = false ∧ tailP c (sfx s j) = sfx s j by rw [sfx_cons hlt]; simp [takesP, tailP, he])
      have e0 : ((s[j].toNat : Int) == q) = false := by rw [hc]; simp; exact fun e => he (UInt8.toNat_inj.1 (by omega))
      clear he hc
      go_wp2_with fail
      have hd : decide (j < s.size) = true := by simpa using hlt
      go_quiet (fail)
      go_wp2_with fail
      go_ret
      exact ⟨by rw [← HS.out, HK.out.1]; rfl, j, hj, by rw [← HS.out, HK.out.2], HA.out.drewN _⟩
  · have HK := Lib.hid (show takesP c (sfx s j) = false ∧ tailP c (sfx s j) = sfx s j by rw [sfx_nil hlt]; simp [takesP, tailP])
    clear hc
    go_wp2_with fail
    have hd : decide (j < s.size) = false := by simpa using hlt
    go_quiet (fail)
    go_wp2_with fail
    go_ret
    exact ⟨by rw [← HS.out, HK.out.1]; rfl, j, hj, by rw [← HS.out, HK.out.2], HA.out.drewN _⟩
end Go.Proofs.YtoddlacfbeckiaaDoor

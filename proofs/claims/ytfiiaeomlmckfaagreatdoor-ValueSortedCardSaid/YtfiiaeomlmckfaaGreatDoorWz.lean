/- Reading: a value. -/
import Derived.Test.YtfiiaeomlmckfaaGreatDoorWu
import Derived.Recover
namespace Go.Proofs.YtfiiaeomlmckfaaGreatDoor
open Go.RowKit

theorem lies_put {w w3 w4 : World} {x : V} {A K : Option Addr} {c q : Nat} (h : LiesIn (Fresh w3 w4) w4 x A c K q) (hs : w.heap.size + 1 ≤ w3.heap.size) (a b e d f : Value) : LiesIn (Fresh w (put5 w4 w.heap.size 0 a b e d f)) (put5 w4 w.heap.size 0 a b e d f) x A c K q :=
  LiesIn.keep (fun i _ hb => World.cell?_of_block (put5_heap _ _ _ _ _ _ _ _ (show i ≠ w.heap.size by have := hb.1; omega))) (fun _ hb => ⟨by have := hb.1; omega, by rw [put5_size]; exact hb.2⟩) x h
theorem vp_zero {n : Nat} {l : List UInt8} : valueP 0 n l = none := rfl
theorem vp_many {L n : Nat} {l : List UInt8} (h : ¬ n + 1 ≤ 60) : valueP (L + 1) n l = none := by rw [valueP, if_neg h]
theorem vp_end {L n : Nat} {l : List UInt8} (h : n + 1 ≤ 60) (h2 : skipP l = []) : valueP (L + 1) n l = none := by rw [valueP, if_pos h, h2]
theorem vp_cons {L n : Nat} {l r : List UInt8} {c : UInt8} (h : n + 1 ≤ 60) (h2 : skipP l = c :: r) : valueP (L + 1) n l = (if c = 91 then (seriesP (stepL (valueP L)) 93 91 [] (n + 1) (c :: r)).map fun q => (V.mk 4 0 ⟨#[]⟩ q.1 [], q.2)
        else if c = 123 then (seriesP (stepO (valueP L)) 125 123 ([], []) (n + 1) (c :: r)).map fun q => (V.mk 5 0 ⟨#[]⟩ q.1.2 q.1.1, q.2)
        else if c = 34 then (quotedP (c :: r)).map fun q => (leaf 3 0 ⟨q.1.toArray⟩, q.2, n + 1)
        else if c = 110 ∨ c = 102 ∨ c = 116 then (nameP (c :: r)).map fun q => (q.1, q.2, n + 1)
        else numberP (c :: r) (n + 1)) := by
  rw [valueP, if_pos h, h2]

set_option maxRecDepth 100000 in
set_option maxHeartbeats 4000000 in
theorem value_no (g : Nat) (s : ByteArray) (d k n : Nat) (hd : d ≤ 7) (w : World) (hP : PAt w g s k n) (_hk : k ≤ s.size) (hn : n ≤ 60) (hbad : ¬ (n + 1 ≤ 60 ∧ d ≤ 6)) :
    Calls Tryz.prog 35 #[.pointer (some ⟨g, 0, none⟩), .int .i64 d] w fun e w' => e = .panicked boom ∧ w.grownBy w' (some g) := by
  have hg := hP.lt
  have c2 := hP.c2
  have f2 := hP.fro 2
  have HW := Lib.hid (((Went.refl hP).count (n + 1)).alloc (.cells zeroF 35))
  have hw1 : IntKind.i64.wrap ((n : Int) + 1) = (n : Int) + 1 := by rw [IntKind.wrap_i64]; omega
  by_cases h1 : (n : Int) + 1 ≤ 60
  · have h2 : ¬ (d : Int) ≤ 6 := by omega
    clear hP hbad
    go_enter Tryz.func35, Tryz.ntmps35
    go_wp2_with (go_at_call 37; refine (must_no _ _).mono ?_; rintro e w' ⟨rfl, rfl⟩)
    exact ⟨rfl, rfl, HW.out.1⟩
  · clear hP hbad
    go_enter Tryz.func35, Tryz.ntmps35
    go_wp2_with (go_at_call 37; refine (must_no _ _).mono ?_; rintro e w' ⟨rfl, rfl⟩)
    exact ⟨rfl, rfl, HW.out.1⟩

theorem Went.put {g : Nat} {s : ByteArray} {k n : Nat} {w w0 w4 : World} {o : Obj} (hG : w.grownBy w0 (some g)) (hg : g < w.heap.size) (h : Went g s k n (w0.alloc o) w4) {a b e d f : Value} : Went g s k n w (put5 w4 w.heap.size 0 a b e d f) := by
  have h1 : Went g s k n w w4 := ⟨grow_trans hG (grow_trans (World.grownBy_alloc w0 o _) h.1), h.2⟩
  exact set5 h1 hg _ _ _ _ _

set_option maxRecDepth 100000 in
set_option maxHeartbeats 4000000 in
theorem value_yes (g : Nat) (s : ByteArray) (hs : s.size ≤ 1000000) (L d k n : Nat) (hd : d ≤ 6) (w : World) (hP : PAt w g s k n) (hk : k ≤ s.size) (hn : n + 1 ≤ 60)
    (hlist : ∀ k n W, PAt W g s k n → k ≤ s.size → n ≤ 60 → Calls Tryz.prog 52 #[.pointer (some ⟨g, 0, none⟩), .int .i64 d] W (VPost g s W ((seriesP (stepL (valueP L)) 93 91 [] n (sfx s k)).map fun q => (V.mk 4 0 ⟨#[]⟩ q.1 [], q.2))))
    (hobj : ∀ k n W, PAt W g s k n → k ≤ s.size → n ≤ 60 → Calls Tryz.prog 53 #[.pointer (some ⟨g, 0, none⟩), .int .i64 d] W (VPost g s W ((seriesP (stepO (valueP L)) 125 123 ([], []) n (sfx s k)).map fun q => (V.mk 5 0 ⟨#[]⟩ q.1.2 q.1.1, q.2)))) :
    Calls Tryz.prog 35 #[.pointer (some ⟨g, 0, none⟩), .int .i64 d] w (VPost g s w (valueP (L + 1) n (sfx s k))) := by
  have hg := hP.lt
  have c2 := hP.c2
  have f2 := hP.fro 2
  obtain ⟨w0, hw0⟩ : ∃ w0, w0 = w.setCell ⟨g, 2, none⟩ (.int .i64 ((n : Int) + 1)) := ⟨_, rfl⟩
  have HW0 := Lib.hid hw0
  have HP0 := Lib.hid (show PAt w0 g s k (n + 1) by rw [hw0]; exact ((Went.refl hP).count (n + 1)).2)
  have HG := Lib.hid (show w.grownBy w0 (some g) by rw [hw0]; exact ((Went.refl hP).count (n + 1)).1)
  have HS0 := Lib.hid (show w0.heap.size = w.heap.size by rw [hw0]; simp [World.setCell])
  have hg0 : g < w0.heap.size := by rw [HS0.out]; exact hg
  have HLI := Lib.hid hlist
  have HOB := Lib.hid hobj
  have hw1 : IntKind.i64.wrap ((n : Int) + 1) = (n : Int) + 1 := by rw [IntKind.wrap_i64]; omega
  have h1 : (n : Int) + 1 ≤ 60 := by omega
  have h2 : (d : Int) ≤ 6 := by omega
  clear hP hw0 hlist hobj
  obtain ⟨R, hR⟩ : ∃ R, R = valueP (L + 1) n (sfx s k) := ⟨_, rfl⟩
  rw [← hR]
  have HR := Lib.hid hR
  clear hR
  go_enter Tryz.func35, Tryz.ntmps35
  go_wp2_with (go_at_call 37; refine (must_yes _ _).mono ?_; rintro e w' ⟨rfl, rfl⟩)
  rw [← HW0.out]
  refine (blanks_any g s k (n + 1) _ (HP0.out.alloc _) hk hs).mono ?_
  rintro e w3 ⟨rfl, k1, hk1, hsk1, hw3⟩
  have HS1 := Lib.hid hsk1
  have HW3 := Lib.hid hw3
  have hz3 : w.heap.size + 1 ≤ w3.heap.size := by have := hw3.1.size; rw [← HS0.out]; simpa using this
  have c0 := hw3.2.c0
  have c1 := hw3.2.c1
  clear hw3 hsk1 c2 f2
  by_cases hlt : k1 < s.size
  · have HV := Lib.hid (HR.out.trans (vp_cons (L := L) hn (HS1.out.symm.trans (sfx_cons hlt))))
    have hcons := Lib.hid (sfx_cons hlt)
    go_wp2_with fail
    go_quiet ((go_at_call 37; exact Calls.quiet_of_same (must_yes _ _)))
    go_wp2_with fail
    by_cases h91 : s[k1].toNat = 91
    · have HE := Lib.hid (show (seriesP (stepL (valueP L)) 93 91 [] (n + 1) (sfx s k1)).map (fun q => (V.mk 4 0 ⟨#[]⟩ q.1 [], q.2)) = R by rw [HV.out, if_pos (UInt8.toNat_inj.1 h91), hcons.out])
      have e0 : ((s[k1].toNat : Int) == 91) = true := by simp; omega
      clear h91
      have HC := Lib.hid fun m => show Calls Tryz.prog 52 #[.pointer (some ⟨g, 0, none⟩), .int .i64 d] (w3.drewN m) (VPost g s (w3.drewN m) R) by rw [← HE.out]; exact HLI.out k1 (n + 1) (w3.drewN m) (HW3.out.drewN m).2 hk1 hn
      go_quiet (fail)
      go_wp2_with fail
      refine (HC.out _).mono ?_
      intro e w4 hp
      rcases R with _ | ⟨x, l, n'⟩
      · obtain ⟨rfl, hp⟩ := hp
        exact ⟨rfl, rfl, grow_trans HG.out (grow_trans (Went.old (HW3.out.drewN _) hg0).1 hp)⟩
      obtain ⟨A, c, K, q, k4, rfl, hL, hk4, hsk4, hW4⟩ := hp
      have HL := Lib.hid hL
      obtain ⟨HW4, z, fz, hz4⟩ := after_new k4 n' hg0 _ _ ((HW3.out.drewN _).trans hW4)
      rw [HS0.out] at z fz
      clear hL hW4
      unfold cellsOf
      go_wp2_with fail
      refine bodyPost_ret (v := cellsOf x A c K q) (by simp [results, Tryz.results35, go_sem, cellsOf, z]) rfl ?_
      exact ⟨A, c, K, q, k4, rfl, lies_put HL.out hz3 _ _ _ _ _, hk4, hsk4, Went.put HG.out hg HW4.out⟩
    have e0 : ((s[k1].toNat : Int) == 91) = false := by simp; omega
    have n91 := Lib.hid (show ¬ s[k1] = 91 from fun e => h91 (by rw [e]; rfl))
    clear h91
    by_cases h123 : s[k1].toNat = 123
    · have HE := Lib.hid (show (seriesP (stepO (valueP L)) 125 123 ([], []) (n + 1) (sfx s k1)).map (fun q => (V.mk 5 0 ⟨#[]⟩ q.1.2 q.1.1, q.2)) = R by rw [HV.out, if_neg n91.out, if_pos (UInt8.toNat_inj.1 h123), hcons.out])
      have e1 : ((s[k1].toNat : Int) == 123) = true := by simp; omega
      clear h123
      have HC := Lib.hid fun m => show Calls Tryz.prog 53 #[.pointer (some ⟨g, 0, none⟩), .int .i64 d] (w3.drewN m) (VPost g s (w3.drewN m) R) by rw [← HE.out]; exact HOB.out k1 (n + 1) (w3.drewN m) (HW3.out.drewN m).2 hk1 hn
      go_quiet (fail)
      go_wp2_with fail
      refine (HC.out _).mono ?_
      intro e w4 hp
      rcases R with _ | ⟨x, l, n'⟩
      · obtain ⟨rfl, hp⟩ := hp
        exact ⟨rfl, rfl, grow_trans HG.out (grow_trans (Went.old (HW3.out.drewN _) hg0).1 hp)⟩
      obtain ⟨A, c, K, q, k4, rfl, hL, hk4, hsk4, hW4⟩ := hp
      have HL := Lib.hid hL
      obtain ⟨HW4, z, fz, hz4⟩ := after_new k4 n' hg0 _ _ ((HW3.out.drewN _).trans hW4)
      rw [HS0.out] at z fz
      clear hL hW4
      unfold cellsOf
      go_wp2_with fail
      refine bodyPost_ret (v := cellsOf x A c K q) (by simp [results, Tryz.results35, go_sem, cellsOf, z]) rfl ?_
      exact ⟨A, c, K, q, k4, rfl, lies_put HL.out hz3 _ _ _ _ _, hk4, hsk4, Went.put HG.out hg HW4.out⟩
    have e1 : ((s[k1].toNat : Int) == 123) = false := by simp; omega
    have n123 := Lib.hid (show ¬ s[k1] = 123 from fun e => h123 (by rw [e]; rfl))
    clear h123
    by_cases h34 : s[k1].toNat = 34
    · have HE := Lib.hid (show (quotedP (sfx s k1)).map (fun q => (leaf 3 0 ⟨q.1.toArray⟩, q.2, n + 1)) = R by rw [HV.out, if_neg n91.out, if_neg n123.out, if_pos (UInt8.toNat_inj.1 h34), hcons.out])
      have e2 : ((s[k1].toNat : Int) == 34) = true := by simp; omega
      clear h34
      go_quiet (fail)
      go_wp2_with fail
      refine (quoted_any g s k1 (n + 1) _ (HW3.out.drewN _).2 hk1 hs).mono ?_
      intro e w4 hp
      rcases hq : quotedP (sfx s k1) with _ | ⟨t, l⟩
      · rw [hq] at hp
        obtain ⟨rfl, hp⟩ := hp
        refine ⟨rfl, ?_⟩
        rw [← HE.out, hq]
        exact ⟨rfl, grow_trans HG.out (grow_trans (Went.old (HW3.out.drewN _) hg0).1 hp)⟩
      rw [hq] at hp
      obtain ⟨rfl, k4, hk4, hsk4, hW4⟩ := hp
      obtain ⟨HW4, z, fz, hz4⟩ := after_new k4 (n + 1) hg0 _ _ ((HW3.out.drewN _).trans hW4)
      rw [HS0.out] at z fz
      have HQ := Lib.hid hq
      clear hW4 hq
      go_wp2_with fail
      refine bodyPost_ret (v := cellsOf (leaf 3 0 ⟨t.toArray⟩) none 0 none 0) (by simp [results, Tryz.results35, go_sem, cellsOf, leaf, V.kind, V.int, V.text, V.items, V.keys, z]) rfl ?_
      rw [← HE.out, HQ.out]
      exact ⟨none, 0, none, 0, k4, rfl, lies_leaf _ _ _ _ _ (by have := quotedP_100 HQ.out; show t.toArray.size ≤ maxLen; unfold maxLen; simp; omega), hk4, hsk4, Went.put HG.out hg HW4.out⟩
    have e2 : ((s[k1].toNat : Int) == 34) = false := by simp; omega
    have n34 := Lib.hid (show ¬ s[k1] = 34 from fun e => h34 (by rw [e]; rfl))
    clear h34
    by_cases hw : s[k1].toNat = 110 ∨ s[k1].toNat = 102 ∨ s[k1].toNat = 116
    · have HE := Lib.hid (show (nameP (sfx s k1)).map (fun q => (q.1, q.2, n + 1)) = R by
        rw [HV.out, if_neg n91.out, if_neg n123.out, if_neg n34.out, if_pos (hw.imp (fun h => UInt8.toNat_inj.1 h) (fun h => h.imp (fun h => UInt8.toNat_inj.1 h) (fun h => UInt8.toNat_inj.1 h))), hcons.out])
      have hWn := Lib.hid hw
      clear hw
      rcases hWn.out with hx | hx | hx
      · have e3 : ((s[k1].toNat : Int) == 110) = true := by simp; omega
        clear hx
        have HC := Lib.hid fun m => show Calls Tryz.prog 55 #[.pointer (some ⟨g, 0, none⟩)] (w3.drewN m) (VPost g s (w3.drewN m) R) by rw [← HE.out]; exact name_any g s k1 (n + 1) (w3.drewN m) (HW3.out.drewN m).2 hk1 hs
        go_quiet (fail)
        go_wp2_with fail
        refine (HC.out _).mono ?_
        intro e w4 hp
        rcases R with _ | ⟨x, l, n'⟩
        · obtain ⟨rfl, hp⟩ := hp
          exact ⟨rfl, rfl, grow_trans HG.out (grow_trans (Went.old (HW3.out.drewN _) hg0).1 hp)⟩
        obtain ⟨A, c, K, q, k4, rfl, hL, hk4, hsk4, hW4⟩ := hp
        have HL := Lib.hid hL
        obtain ⟨HW4, z, fz, hz4⟩ := after_new k4 n' hg0 _ _ ((HW3.out.drewN _).trans hW4)
        rw [HS0.out] at z fz
        clear hL hW4
        unfold cellsOf
        go_wp2_with fail
        refine bodyPost_ret (v := cellsOf x A c K q) (by simp [results, Tryz.results35, go_sem, cellsOf, z]) rfl ?_
        exact ⟨A, c, K, q, k4, rfl, lies_put HL.out hz3 _ _ _ _ _, hk4, hsk4, Went.put HG.out hg HW4.out⟩
      · have e3 : ((s[k1].toNat : Int) == 110) = false := by simp; omega
        have e4 : ((s[k1].toNat : Int) == 102) = true := by simp; omega
        clear hx
        have HC := Lib.hid fun m => show Calls Tryz.prog 55 #[.pointer (some ⟨g, 0, none⟩)] (w3.drewN m) (VPost g s (w3.drewN m) R) by rw [← HE.out]; exact name_any g s k1 (n + 1) (w3.drewN m) (HW3.out.drewN m).2 hk1 hs
        go_quiet (fail)
        go_wp2_with fail
        refine (HC.out _).mono ?_
        intro e w4 hp
        rcases R with _ | ⟨x, l, n'⟩
        · obtain ⟨rfl, hp⟩ := hp
          exact ⟨rfl, rfl, grow_trans HG.out (grow_trans (Went.old (HW3.out.drewN _) hg0).1 hp)⟩
        obtain ⟨A, c, K, q, k4, rfl, hL, hk4, hsk4, hW4⟩ := hp
        have HL := Lib.hid hL
        obtain ⟨HW4, z, fz, hz4⟩ := after_new k4 n' hg0 _ _ ((HW3.out.drewN _).trans hW4)
        rw [HS0.out] at z fz
        clear hL hW4
        unfold cellsOf
        go_wp2_with fail
        refine bodyPost_ret (v := cellsOf x A c K q) (by simp [results, Tryz.results35, go_sem, cellsOf, z]) rfl ?_
        exact ⟨A, c, K, q, k4, rfl, lies_put HL.out hz3 _ _ _ _ _, hk4, hsk4, Went.put HG.out hg HW4.out⟩
      · have e3 : ((s[k1].toNat : Int) == 110) = false := by simp; omega
        have e4 : ((s[k1].toNat : Int) == 102) = false := by simp; omega
        have e5 : ((s[k1].toNat : Int) == 116) = true := by simp; omega
        clear hx
        have HC := Lib.hid fun m => show Calls Tryz.prog 55 #[.pointer (some ⟨g, 0, none⟩)] (w3.drewN m) (VPost g s (w3.drewN m) R) by rw [← HE.out]; exact name_any g s k1 (n + 1) (w3.drewN m) (HW3.out.drewN m).2 hk1 hs
        go_quiet (fail)
        go_wp2_with fail
        refine (HC.out _).mono ?_
        intro e w4 hp
        rcases R with _ | ⟨x, l, n'⟩
        · obtain ⟨rfl, hp⟩ := hp
          exact ⟨rfl, rfl, grow_trans HG.out (grow_trans (Went.old (HW3.out.drewN _) hg0).1 hp)⟩
        obtain ⟨A, c, K, q, k4, rfl, hL, hk4, hsk4, hW4⟩ := hp
        have HL := Lib.hid hL
        obtain ⟨HW4, z, fz, hz4⟩ := after_new k4 n' hg0 _ _ ((HW3.out.drewN _).trans hW4)
        rw [HS0.out] at z fz
        clear hL hW4
        unfold cellsOf
        go_wp2_with fail
        refine bodyPost_ret (v := cellsOf x A c K q) (by simp [results, Tryz.results35, go_sem, cellsOf, z]) rfl ?_
        exact ⟨A, c, K, q, k4, rfl, lies_put HL.out hz3 _ _ _ _ _, hk4, hsk4, Went.put HG.out hg HW4.out⟩
    · have HE := Lib.hid (show numberP (sfx s k1) (n + 1) = R by
        rw [HV.out, if_neg n91.out, if_neg n123.out, if_neg n34.out, if_neg (fun h => hw (h.imp (fun h => by rw [h]; rfl) (fun h => h.imp (fun h => by rw [h]; rfl) (fun h => by rw [h]; rfl)))), hcons.out])
      have e3 : ((s[k1].toNat : Int) == 110) = false := by simp; omega
      have e4 : ((s[k1].toNat : Int) == 102) = false := by simp; omega
      have e5 : ((s[k1].toNat : Int) == 116) = false := by simp; omega
      clear hw
      have HC := Lib.hid fun m => show Calls Tryz.prog 56 #[.pointer (some ⟨g, 0, none⟩)] (w3.drewN m) (VPost g s (w3.drewN m) R) by rw [← HE.out]; exact number_any g s k1 (n + 1) (w3.drewN m) (HW3.out.drewN m).2 hk1 hs
      go_quiet (fail)
      go_wp2_with fail
      refine (HC.out _).mono ?_
      intro e w4 hp
      rcases R with _ | ⟨x, l, n'⟩
      · obtain ⟨rfl, hp⟩ := hp
        exact ⟨rfl, rfl, grow_trans HG.out (grow_trans (Went.old (HW3.out.drewN _) hg0).1 hp)⟩
      obtain ⟨A, c, K, q, k4, rfl, hL, hk4, hsk4, hW4⟩ := hp
      have HL := Lib.hid hL
      obtain ⟨HW4, z, fz, hz4⟩ := after_new k4 n' hg0 _ _ ((HW3.out.drewN _).trans hW4)
      rw [HS0.out] at z fz
      clear hL hW4
      unfold cellsOf
      go_wp2_with fail
      refine bodyPost_ret (v := cellsOf x A c K q) (by simp [results, Tryz.results35, go_sem, cellsOf, z]) rfl ?_
      exact ⟨A, c, K, q, k4, rfl, lies_put HL.out hz3 _ _ _ _ _, hk4, hsk4, Went.put HG.out hg HW4.out⟩
  · have HV := Lib.hid (HR.out.trans (vp_end (L := L) hn (HS1.out.symm.trans (sfx_nil hlt))))
    have hk' := Lib.hid (show decide (k1 < s.size) = false by simpa using hlt)
    clear hlt
    go_wp2_with fail
    refine wp_region_held_drew (S := fun w' => w'.cell? ⟨g, 0, none⟩ = some (.string s) ∧ w'.cell? ⟨g, 1, none⟩ = some (.int .i64 k1)) (by kernel_rfl) (show _ ∧ _ from ⟨c0, c1⟩) (fun hHeld => ?_)
    refine wpAnyH_take (i := 0) (oi := _) (v := ?_) rfl (by kernel_rfl) (by kernel_rfl) (by kernel_rfl) (fun _ _ _ h => h) (Or.inl ⟨by rfl, (by intro w hSw; (try dsimp only at hSw); go_simp; try (with_reducible rfl))⟩) (by assumption) ?_
    (try simp only [Act.put]); (try simp only [List.setIfInBounds_toArray]); (try simp only [List.set_cons_succ]); (try simp only [List.set_cons_zero])
    refine wpAnyH_take (i := 1) (oi := _) (v := ?_) rfl (by kernel_rfl) (by kernel_rfl) (by kernel_rfl) (fun _ _ _ h => h) (Or.inl ⟨by rfl, (by intro w hSw; (try dsimp only at hSw); go_simp; try (with_reducible rfl))⟩) (by assumption) ?_
    (try simp only [Act.put]); (try simp only [List.setIfInBounds_toArray]); (try simp only [List.set_cons_succ]); (try simp only [List.set_cons_zero])
    refine wpAnyH_take (i := 2) (oi := _) (v := ?_) rfl (by kernel_rfl) (by kernel_rfl) (by kernel_rfl) (fun _ _ _ h => h) (Or.inl ⟨by rfl, (by intro w hSw; (try dsimp only at hSw); go_simp; try (with_reducible rfl))⟩) (by assumption) ?_
    (try simp only [Act.put]); (try simp only [List.setIfInBounds_toArray]); (try simp only [List.set_cons_succ]); (try simp only [List.set_cons_zero])
    refine wpAnyH_take (i := 3) (oi := _) (v := ?_) rfl (by kernel_rfl) (by kernel_rfl) (by kernel_rfl) (fun _ _ _ h => h) (Or.inl ⟨by rfl, (by intro w hSw; (try dsimp only at hSw); go_simp; try (with_reducible rfl))⟩) (by assumption) ?_
    (try simp only [Act.put]); (try simp only [List.setIfInBounds_toArray]); (try simp only [List.set_cons_succ]); (try simp only [List.set_cons_zero])
    refine wpAnyH_take (i := 4) (oi := _) (v := ?_) rfl (by kernel_rfl) (by kernel_rfl) (by kernel_rfl) (fun _ _ _ h => h) (Or.inl ⟨by rfl, (by intro w hSw; (try dsimp only at hSw); go_simp; try (with_reducible rfl))⟩) (by assumption) ?_
    (try simp only [Act.put]); (try simp only [List.setIfInBounds_toArray]); (try simp only [List.set_cons_succ]); (try simp only [List.set_cons_zero])
    refine wpAnyH_take (i := 5) (oi := _) (v := ?_) rfl (by kernel_rfl) (by kernel_rfl) (by kernel_rfl) (fun _ _ _ h => h) (Or.inl ⟨by rfl, (by intro w hSw; (try dsimp only at hSw); go_simp; try (with_reducible rfl))⟩) (by assumption) ?_
    (try simp only [Act.put]); (try simp only [List.setIfInBounds_toArray]); (try simp only [List.set_cons_succ]); (try simp only [List.set_cons_zero])
    refine wpAnyH_take (i := 6) (oi := _) (v := ?_) rfl (by kernel_rfl) (by kernel_rfl) (by kernel_rfl) (fun _ _ _ h => h) (Or.inl ⟨by rfl, (by intro w hSw; (try dsimp only at hSw); go_simp; try (with_reducible rfl))⟩) (by assumption) ?_
    (try simp only [Act.put]); (try simp only [List.setIfInBounds_toArray]); (try simp only [List.set_cons_succ]); (try simp only [List.set_cons_zero])
    refine wpAnyH_take (i := 7) (oi := _) (v := ?_) rfl (by kernel_rfl) (by kernel_rfl) (by kernel_rfl) (fun _ _ _ h => h) (Or.inl ⟨by rfl, (by intro w hSw; (try dsimp only at hSw); go_simp; try (with_reducible rfl))⟩) (by assumption) ?_
    (try simp only [Act.put]); (try simp only [List.setIfInBounds_toArray]); (try simp only [List.set_cons_succ]); (try simp only [List.set_cons_zero])
    refine wpAnyH_take (i := 8) (oi := _) (v := ?_) rfl (by kernel_rfl) (by kernel_rfl) (by kernel_rfl) (fun _ _ _ h => h) (Or.inl ⟨by rfl, (by intro w hSw; (try dsimp only at hSw); go_simp; try (with_reducible rfl))⟩) (by assumption) ?_
    (try simp only [Act.put]); (try simp only [List.setIfInBounds_toArray]); (try simp only [List.set_cons_succ]); (try simp only [List.set_cons_zero])
    refine wpAnyH_take (i := 9) (oi := _) (v := ?_) rfl (by kernel_rfl) (by kernel_rfl) (by kernel_rfl) (fun _ _ _ h => h) (Or.inl ⟨by rfl, (by intro w hSw; (try dsimp only at hSw); go_simp; try (with_reducible rfl))⟩) (by assumption) ?_
    (try simp only [Act.put]); (try simp only [List.setIfInBounds_toArray]); (try simp only [List.set_cons_succ]); (try simp only [List.set_cons_zero])
    refine wpAnyH_take (i := 10) (oi := _) (v := ?_) rfl (by kernel_rfl) (by kernel_rfl) (by kernel_rfl) (fun _ _ _ h => h) (Or.inl ⟨by rfl, (by intro w hSw; (try dsimp only at hSw); go_simp; try (with_reducible rfl))⟩) (by assumption) ?_
    (try simp only [Act.put]); (try simp only [List.setIfInBounds_toArray]); (try simp only [List.set_cons_succ]); (try simp only [List.set_cons_zero])
    refine wpAnyH_ready (rs := [11]) (by kernel_rfl) (by simp) ?_
    refine AllReadyH.cons (o := _) rfl (fun K hK => ?_) AllReadyH.nil
    go_simp
    refine (must_of hk'.out _ _).mono ?_
    rintro e w' ⟨rfl, rfl⟩
    refine ⟨rfl, ?_⟩
    rw [HV.out]
    exact ⟨rfl, grow_trans HG.out (grow_drew (Went.old HW3.out hg0).1)⟩
end Go.Proofs.YtfiiaeomlmckfaaGreatDoor
/- Reading: values of whatever depth. -/
namespace Go.Proofs.YtfiiaeomlmckfaaGreatDoor
open Go.RowKit

theorem value_all (g : Nat) (s : ByteArray) (hs : s.size ≤ 1000000) : ∀ (L d k n : Nat) (w : World), L + d = 7 → PAt w g s k n → k ≤ s.size → n ≤ 60 →
    Calls Tryz.prog 35 #[.pointer (some ⟨g, 0, none⟩), .int .i64 d] w (VPost g s w (valueP L n (sfx s k)))
  | 0, d, k, n, w, hL, hP, hk, hn => by
    refine (value_no g s d k n (by omega) w hP hk hn (by omega)).mono ?_
    rintro e w' ⟨rfl, h⟩
    rw [vp_zero]
    exact ⟨rfl, h⟩
  | L + 1, d, k, n, w, hL, hP, hk, hn => by
    by_cases h1 : n + 1 ≤ 60
    · have hval : ∀ (k n : Nat) (W : World), PAt W g s k n → k ≤ s.size → n ≤ 60 → Calls Tryz.prog 35 #[.pointer (some ⟨g, 0, none⟩), .int .i64 ((d : Int) + 1)] W (VPost g s W (valueP L n (sfx s k))) := by
        intro k n W hP hk hn
        rw [show ((d : Int) + 1) = ((d + 1 : Nat) : Int) by omega]
        exact value_all g s hs L (d + 1) k n W (by omega) hP hk hn
      exact value_yes g s hs L d k n (by omega) w hP hk h1
        (fun k n W hP hk hn => list_any g s hs d (by omega) (valueP L) (valueP_more L) (valueP_ok L) hval k n W hP hk hn)
        (fun k n W hP hk hn => object_any g s hs d (by omega) (valueP L) (valueP_more L) (valueP_ok L) hval k n W hP hk hn)
    · refine (value_no g s d k n (by omega) w hP hk hn (fun h => h1 h.1)).mono ?_
      rintro e w' ⟨rfl, h⟩
      rw [vp_many h1]
      exact ⟨rfl, h⟩
set_option maxHeartbeats 2000000 in
theorem catch_panicking (a b : Nat) (hab : ¬ a = b) (c0 c1 c2 c3 c4 d0 : Value) (u : TypeId) (pv : Value) (older : List PanicEntry) (w : World) (h0 : w.cell? ⟨a, 0, none⟩ = some c0) (h1 : w.cell? ⟨a, 1, none⟩ = some c1) (h2 : w.cell? ⟨a, 2, none⟩ = some c2) (h3 : w.cell? ⟨a, 3, none⟩ = some c3) (h4 : w.cell? ⟨a, 4, none⟩ = some c4) (h5 : w.cell? ⟨b, 0, none⟩ = some d0)
    (f0 : w.frozen? ⟨a, 0, none⟩ = false) (f1 : w.frozen? ⟨a, 1, none⟩ = false) (f2 : w.frozen? ⟨a, 2, none⟩ = false) (f3 : w.frozen? ⟨a, 3, none⟩ = false) (f4 : w.frozen? ⟨a, 4, none⟩ = false) (f5 : w.frozen? ⟨b, 0, none⟩ = false) :
    CallsD Tryz.prog 34 #[.pointer (some ⟨a, 0, none⟩), .pointer (some ⟨b, 0, none⟩)] (.panicking ({ v := .iface u pv, recovered := false } :: older)) w fun e u' w' =>
      e = .returned (.tuple #[]) ∧ u' = .panicking ({ v := .iface u pv, recovered := true } :: older) ∧ w' = (put5 w a 0 (.int .i64 0) (.int .i64 0) (.string ⟨#[]⟩) (.slice none 0 0) (.slice none 0 0)).setCell ⟨b, 0, none⟩ (.int .i64 14) := by
  unfold put5
  refine callsD_of_wpS Tryz.func34 rfl fun c₀ cs hu => ?_
  apply wpS_seq
  apply wpS_region
  simp [wpOpsS, go_sem, recoverD, hu, Tryz.ntmps34, Exit.thenS]
  refine wpS_cond (t := true) (by simp [Act.eval, Array.replicate]) ?_
  simp only [if_true]
  apply wpS_region
  simp [wpOpsS, go_sem, h0, h1, h2, h3, h4, h5, f0, f1, f2, f3, f4, f5, bodyPostS, results, Tryz.results34]

set_option maxHeartbeats 2000000 in
theorem catch_idle (p q : Value) (w : World) :
    CallsD Tryz.prog 34 #[p, q] .returning w fun e u' w' => e = .returned (.tuple #[]) ∧ u' = .returning ∧ w' = w := by
  refine callsD_of_wpS Tryz.func34 rfl fun c₀ cs hu => ?_
  apply wpS_seq
  apply wpS_region
  simp [wpOpsS, go_sem, recoverD, hu, Tryz.ntmps34, Exit.thenS]
  refine wpS_cond (t := false) (by simp [Act.eval, Array.replicate]) ?_
  simp only [Bool.false_eq_true, if_false]
  refine wpS_of_wp (wp_skip ?_)
  cases c₀
  simp_all [bodyPostS, results, Tryz.results34]
end Go.Proofs.YtfiiaeomlmckfaaGreatDoor

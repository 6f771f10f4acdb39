/- Reading a text whole: the contract. -/
import Derived.Test.YtfiiaeomlmckfaaGreatDoorWz
import Derived.Test.YtfiiaeomlmckfaaGreatDoorRg
import Derived.Test.YtfiiaeomlmckfaaGreatDoorWf
import Derived.Test.YtfiiaeomlmckfaaGreatDoorRk
namespace Go.Proofs.YtfiiaeomlmckfaaGreatDoor
open Go.RowKit

/-- What reading leaves. -/
def PPost (w : World) : Option V → Ending → World → Prop
  | none, e, w' => e = .returned (.tuple #[cellsOf (leaf 0 0 ⟨#[]⟩) none 0 none 0, .int .i64 14]) ∧ Below w.heap.size w w'
  | some x, e, w' => ∃ A c K q, e = .returned (.tuple #[cellsOf x A c K q, .int .i64 0]) ∧ LiesIn (Fresh w w') w' x A c K q ∧ Below w.heap.size w w'
theorem parse_some {s : ByteArray} {x : V} {l : List UInt8} {n : Nat} (h : valueP 6 0 (sfx s 0) = some (x, l, n)) : parseP s.data.toList = if skipP l = [] then some x else none := by
  unfold sfx at h
  rw [List.drop_zero] at h
  rw [parseP, h]
theorem parse_none {s : ByteArray} (h : valueP 6 0 (sfx s 0) = none) : parseP s.data.toList = none := by
  unfold sfx at h
  rw [List.drop_zero] at h
  rw [parseP, h]

theorem below_set {a b : World} {B : Nat} (h : Below B a b) (p : Addr) (v : Value) (hp : B ≤ p.block) : Below B a (b.setCell p v) := h.trans ⟨rfl, rfl, rfl, by simp [World.setCell], fun i hi => Below.heap_setCell b p v i (by omega)⟩
theorem below_put5 {a b : World} {B g : Nat} (h : Below B a b) (hg : B ≤ g) (v0 v1 v2 v3 v4 : Value) : Below B a (put5 b g 0 v0 v1 v2 v3 v4) :=
  below_set (below_set (below_set (below_set (below_set h _ _ hg) _ _ hg) _ _ hg) _ _ hg) _ _ hg
theorem below_drew {a b : World} {B : Nat} (h : Below B a b) : Below B a b.drew := ⟨h.os, h.tape, h.output, h.size, h.block⟩
theorem parse_done {w W2 w3 : World} {x : V} {A K : Option Addr} {c q m : Nat} (hL : LiesIn (fun b => w.heap.size + 3 ≤ b ∧ b < W2.heap.size) W2 x A c K q) (hW : W2.grownBy w3 (some (w.heap.size + 2))) (hB : Below w.heap.size w w3) :
    PPost w (some x) (.returned (.tuple #[.agg #[.int .i64 x.kind, .int .i64 x.int, .string x.text, .slice A x.items.length c, .slice K x.keys.length q], .int .i64 0])) ((put5 (w3.drewN m) w.heap.size 0 (.int .i64 x.kind) (.int .i64 x.int) (.string x.text) (.slice A x.items.length c) (.slice K x.keys.length q)).setCell ⟨w.heap.size + 1, 0, none⟩ (.int .i64 0)) := by
  have hsz : ((put5 (w3.drewN m) w.heap.size 0 (.int .i64 x.kind) (.int .i64 x.int) (.string x.text) (.slice A x.items.length c) (.slice K x.keys.length q)).setCell ⟨w.heap.size + 1, 0, none⟩ (.int .i64 0)).heap.size = w3.heap.size := by
    have := put5_size (w3.drewN m) w.heap.size 0 (.int .i64 x.kind) (.int .i64 x.int) (.string x.text) (.slice A x.items.length c) (.slice K x.keys.length q)
    simp only [World.setCell, Array.size_modify]
    exact this
  have hs := hW.size
  refine ⟨A, c, K, q, rfl, LiesIn.keep (fun b o hb => World.cell?_of_block ?_) (fun b hb => ⟨by have := hb.1; omega, by rw [hsz]; have := hb.2; omega⟩) x hL, below_set (below_put5 (below_drewN hB m) (Nat.le_refl _) _ _ _ _ _) _ _ (Nat.le_succ _)⟩
  have h1 := hb.1
  rw [Below.heap_setCell _ _ _ _ (show b ≠ w.heap.size + 1 by omega), put5_heap _ _ _ _ _ _ _ _ (show b ≠ w.heap.size by omega)]
  exact hW.block b hb.2 (by simp; omega)
theorem leaves_same {P : Program} {fn : Func} {t t' : Array Value} {R : Ending → World → Prop} (h : results fn t = results fn t') : ∀ (ds : List Deferred) (u : FrameMode) (w : World), Leaves P fn t R ds u w = Leaves P fn t' R ds u w
  | [], .returning, w => by simp only [Leaves, h]
  | [], .panicking _, w => rfl
  | [], .run, _ => rfl
  | d :: ds, u, w => by
    have ih := leaves_same (P := P) (R := R) h ds
    simp only [Leaves, ih]
theorem door_put {R : Ending → World → Prop} {c : List PanicEntry} {a : Act} {w : World} {v : Value} {d : Nat} {K : Act → World → Prop} (h : Exit.then K (bodyPostD Tryz.prog Tryz.f20 R) (.panic c) (a.put (some (d + 4)) v) w) : Exit.then K (bodyPostD Tryz.prog Tryz.f20 R) (.panic c) a w := by
  show Leaves _ _ _ _ _ _ _
  have h' : Leaves Tryz.prog Tryz.f20 (a.put (some (d + 4)) v).tmps R (a.put (some (d + 4)) v).defers (.panicking c) w := h
  rw [leaves_same (t' := a.tmps)] at h'
  · exact h'
  · simp [results, Tryz.results20, Act.put, Array.getD_eq_getD_getElem?, Array.getElem?_setIfInBounds]
set_option maxRecDepth 100000 in
set_option maxHeartbeats 4000000 in
theorem parse_any (s : ByteArray) (hs : s.size ≤ 1000000) (w : World) : Calls Tryz.prog 20 #[.string s] w (PPost w (parseP s.data.toList)) := by
  have hmf : ∀ (fn : Fn) (first cap : Array Value) (w : World), (Instr.makeFunc fn first cap).run Tryz.prog w = .ok (.func fn first cap) w := fun _ _ _ _ => rfl
  obtain ⟨R, hR⟩ : ∃ R, R = parseP s.data.toList := ⟨_, rfl⟩
  rw [← hR]
  have HR := Lib.hid hR
  clear hR
  have HV := Lib.hid fun (W : World) (hW : PAt W (w.heap.size + 2) s 0 0) => show Calls Tryz.prog 35 #[.pointer (some ⟨w.heap.size + 2, 0, none⟩), .int .i64 1] W (VPost (w.heap.size + 2) s W (valueP 6 0 (sfx s 0))) from value_all (w.heap.size + 2) s hs 6 1 0 0 W rfl hW (Nat.zero_le _) (by omega)
  have HB := Lib.hid fun (W : World) (k n : Nat) (hW : PAt W (w.heap.size + 2) s k n) (hk : k ≤ s.size) => blanks_any (w.heap.size + 2) s k n W hW hk hs
  go_enter_defers Tryz.func20, Tryz.ntmps20
  go_wp2_with fail
  obtain ⟨W0, hW0⟩ : ∃ W0, W0 = ((w.alloc (.cells zeroF 35)).alloc (.cells #[.int .i64 0] 24)).alloc (.cells #[.string s, .int .i64 0, .int .i64 0] 62) := ⟨_, rfl⟩
  have hP0 : PAt W0 (w.heap.size + 2) s 0 0 := by rw [hW0]; exact BlockIs.newAt _ _ _ (by simp)
  have hB0 : BlockIs W0 w.heap.size 35 zeroF := by rw [hW0]; exact ((BlockIs.new w _ _).alloc _).alloc _
  have hB1 : BlockIs W0 (w.heap.size + 1) 24 #[.int .i64 0] := by rw [hW0]; exact (BlockIs.newAt _ _ _ (by simp)).alloc _
  have hL0 : Below w.heap.size w W0 := by rw [hW0]; exact below_grow (grow_alloc (grow_alloc (grow_alloc (grow_refl w none) _) _) _) (Nat.le_refl _) (by simp)
  have hs0 : W0.heap.size = w.heap.size + 3 := by rw [hW0]; simp
  refine Calls.mono (show Calls _ _ _ _ (VPost (w.heap.size + 2) s W0 (valueP 6 0 (sfx s 0))) by rw [hW0]; exact HV.out _ (hW0 ▸ hP0)) ?_
  clear hW0
  intro e w1 hp
  rcases hst : valueP 6 0 (sfx s 0) with _ | ⟨x, l, n⟩
  · rw [hst] at hp
    obtain ⟨rfl, hp⟩ := hp
    have hN := Lib.hid (HR.out.trans (parse_none hst))
    have b0 := hB0.grown hp (by simp)
    have b1 := hB1.grown hp (by simp)
    have HL := Lib.hid (hL0.trans (below_grow hp (by omega) (fun r hr => by cases hr; omega)))
    have z0 : w1.cell? ⟨w.heap.size, 0, none⟩ = some (.int .i64 0) := by simpa [zeroF] using b0.cell 0
    have z1 : w1.cell? ⟨w.heap.size, 1, none⟩ = some (.int .i64 0) := by simpa [zeroF] using b0.cell 1
    have z2 : w1.cell? ⟨w.heap.size, 2, none⟩ = some (.string ⟨#[]⟩) := by simpa [zeroF] using b0.cell 2
    have z3 : w1.cell? ⟨w.heap.size, 3, none⟩ = some (.slice none 0 0) := by simpa [zeroF] using b0.cell 3
    have z4 : w1.cell? ⟨w.heap.size, 4, none⟩ = some (.slice none 0 0) := by simpa [zeroF] using b0.cell 4
    have e0 : w1.cell? ⟨w.heap.size + 1, 0, none⟩ = some (.int .i64 0) := by simpa using b1.cell 0
    refine leaves_cons (f := 34) (args := #[.pointer (some ⟨w.heap.size, 0, none⟩), .pointer (some ⟨w.heap.size + 1, 0, none⟩)]) (by simp) (by simp [go_sem]) ?_
    refine (catch_panicking w.heap.size (w.heap.size + 1) (by omega) _ _ _ _ _ _ _ _ _ w1 z0 z1 z2 z3 z4 e0 (b0.frozen 0) (b0.frozen 1) (b0.frozen 2) (b0.frozen 3) (b0.frozen 4) (b1.frozen 0)).mono ?_
    rintro e u' w'' ⟨rfl, rfl, rfl⟩
    simp [Leaves, settle, results, Tryz.results20, go_sem, put5, z0, z1, z2, z3, z4, e0]
    rw [hN.out]
    exact ⟨rfl, below_set (below_put5 HL.out (Nat.le_refl _) _ _ _ _ _) _ _ (Nat.le_succ _)⟩
  rw [hst] at hp
  obtain ⟨A, c, K, q, k, rfl, hL, hk, hsk, hW⟩ := hp
  have hn60 := (valueP_ok _ _ _ _ _ _ hst).2
  have HS := Lib.hid (HR.out.trans (parse_some hst))
  have b0 := hB0.grown hW.1 (by simp)
  have b1 := hB1.grown hW.1 (by simp)
  have hb1 := hL0.trans (below_grow hW.1 (B := w.heap.size) (by omega) (fun r hr => by cases hr; omega))
  obtain ⟨W2, hW2⟩ : ∃ W2, W2 = put5 w1 w.heap.size 0 (.int .i64 x.kind) (.int .i64 x.int) (.string x.text) (.slice A x.items.length c) (.slice K x.keys.length q) := ⟨_, rfl⟩
  have hs1 := hW.1.size
  have hfar : ∀ b, b ≠ w.heap.size → W2.heap[b]? = w1.heap[b]? := fun b hb => by rw [hW2]; exact put5_heap _ _ _ _ _ _ _ _ hb
  have hs2 : W2.heap.size = w1.heap.size := by rw [hW2]; exact put5_size _ _ _ _ _ _ _ _
  have d0 : BlockIs W2 w.heap.size 35 #[.int .i64 x.kind, .int .i64 x.int, .string x.text, .slice A x.items.length c, .slice K x.keys.length q] := by
    rw [hW2]
    have := ((((b0.set_ 0 (.int .i64 x.kind)).set_ 1 (.int .i64 x.int)).set_ 2 (.string x.text)).set_ 3 (.slice A x.items.length c)).set_ 4 (.slice K x.keys.length q)
    simpa [zeroF, put5] using this
  have d1 : BlockIs W2 (w.heap.size + 1) 24 #[.int .i64 0] := (hfar _ (by omega)).trans b1
  have dP : PAt W2 (w.heap.size + 2) s k n := (hfar _ (by omega)).trans hW.2
  have dL : LiesIn (fun b => w.heap.size + 3 ≤ b ∧ b < W2.heap.size) W2 x A c K q := LiesIn.keep (fun i _ hb => World.cell?_of_block (hfar i (by have := hb.1; omega))) (fun i hb => ⟨by have := hb.1; omega, by have := hb.2; omega⟩) x hL
  have dB : Below w.heap.size w W2 := by rw [hW2]; exact below_put5 hb1 (Nat.le_refl _) _ _ _ _ _
  have z0 : w1.cell? ⟨w.heap.size, 0, none⟩ = some (.int .i64 0) := by simpa [zeroF] using b0.cell 0
  have z1 : w1.cell? ⟨w.heap.size, 1, none⟩ = some (.int .i64 0) := by simpa [zeroF] using b0.cell 1
  have z2 : w1.cell? ⟨w.heap.size, 2, none⟩ = some (.string ⟨#[]⟩) := by simpa [zeroF] using b0.cell 2
  have z3 : w1.cell? ⟨w.heap.size, 3, none⟩ = some (.slice none 0 0) := by simpa [zeroF] using b0.cell 3
  have z4 : w1.cell? ⟨w.heap.size, 4, none⟩ = some (.slice none 0 0) := by simpa [zeroF] using b0.cell 4
  have f0 := b0.frozen 0
  have f1 := b0.frozen 1
  have f2 := b0.frozen 2
  have f3 := b0.frozen 3
  have f4 := b0.frozen 4
  have hsz2 : w.heap.size + 3 ≤ W2.heap.size := by omega
  have HX := Lib.hid (And.intro hsk (And.intro hW2 (show PAt (put5 w1 w.heap.size 0 (.int .i64 x.kind) (.int .i64 x.int) (.string x.text) (.slice A x.items.length c) (.slice K x.keys.length q)) (w.heap.size + 2) s k n by rw [← hW2]; exact dP)))
  have HD := Lib.hid (And.intro d0 (And.intro d1 (And.intro dL dB)))
  clear hst hL hW hB0 hB1 hP0 hL0 hb1 b0 b1 hs1 hfar d0 d1 dL dB hsk hW2 hs0
  unfold cellsOf
  go_wp2_with fail
  refine Calls.mono (show Calls _ _ _ _ (fun e w' => e = Ending.returned (Value.tuple #[]) ∧ ∃ k', k' ≤ s.size ∧ sfx s k' = skipP (sfx s k) ∧ Went (w.heap.size + 2) s k' n W2 w') by rw [HX.out.2.1]; exact HB.out _ k n HX.out.2.2 hk) ?_
  rintro e w3 ⟨rfl, k1, hk1, hsk1, hW3⟩
  have HS1 := Lib.hid hsk1
  have HW3 := Lib.hid hW3
  have c0 := hW3.2.c0
  have c1 := hW3.2.c1
  have g0 := HD.out.1.grown hW3.1 (by simp)
  have g1 := HD.out.2.1.grown hW3.1 (by simp)
  have HL3 := Lib.hid (HD.out.2.2.2.trans (below_grow hW3.1 (B := w.heap.size) (by omega) (fun r hr => by cases hr; omega)))
  have hs3 := hW3.1.size
  clear z0 z1 z2 z3 z4 f0 f1 f2 f3 f4 hW3 hsk1 dP
  by_cases hall : k1 = s.size
  · have e0 : ((k1 : Int) == (s.size : Int)) = true := by simp; omega
    have HS2 := Lib.hid (show R = some x by rw [HS.out, if_pos]; rw [← HX.out.1, ← HS1.out]; exact sfx_nil (by omega))
    clear hall
    have z0 : w3.cell? ⟨w.heap.size, 0, none⟩ = some (.int .i64 x.kind) := by simpa using g0.cell 0
    have z1 : w3.cell? ⟨w.heap.size, 1, none⟩ = some (.int .i64 x.int) := by simpa using g0.cell 1
    have z2 : w3.cell? ⟨w.heap.size, 2, none⟩ = some (.string x.text) := by simpa using g0.cell 2
    have z3 : w3.cell? ⟨w.heap.size, 3, none⟩ = some (.slice A x.items.length c) := by simpa using g0.cell 3
    have z4 : w3.cell? ⟨w.heap.size, 4, none⟩ = some (.slice K x.keys.length q) := by simpa using g0.cell 4
    have e1 : w3.cell? ⟨w.heap.size + 1, 0, none⟩ = some (.int .i64 0) := by simpa using g1.cell 0
    have f0 := g0.frozen 0
    have f1 := g0.frozen 1
    have f2 := g0.frozen 2
    have f3 := g0.frozen 3
    have f4 := g0.frozen 4
    have f5 := g1.frozen 0
    clear g0 g1
    go_wp2_with fail
    go_quiet ((go_at_call 37; exact Calls.quiet_of_same (must_yes _ _)))
    go_wp2_with fail
    refine leaves_cons (f := 34) (args := #[.pointer (some ⟨w.heap.size, 0, none⟩), .pointer (some ⟨w.heap.size + 1, 0, none⟩)]) (by simp) (by simp [go_sem]) ?_
    refine (catch_idle _ _ _).mono ?_
    rintro e u' w'' ⟨rfl, rfl, rfl⟩
    simp [Leaves, settle, results, Tryz.results20, go_sem, z0, z1, z2, z3, z4, e1]
    rw [HS2.out]
    have hE := parse_done (m := nq) HD.out.2.2.1 HW3.out.1 HL3.out
    unfold put5 at hE
    exact hE
  · have hno := Lib.hid (show ((k1 : Int) == (s.size : Int)) = false by simp; omega)
    have hN := Lib.hid (show R = none by rw [HS.out, if_neg]; rw [← HX.out.1, ← HS1.out, sfx_cons (show k1 < s.size by omega)]; simp)
    have z0 : w3.cell? ⟨w.heap.size, 0, none⟩ = some (.int .i64 x.kind) := by simpa using g0.cell 0
    have z1 : w3.cell? ⟨w.heap.size, 1, none⟩ = some (.int .i64 x.int) := by simpa using g0.cell 1
    have z2 : w3.cell? ⟨w.heap.size, 2, none⟩ = some (.string x.text) := by simpa using g0.cell 2
    have z3 : w3.cell? ⟨w.heap.size, 3, none⟩ = some (.slice A x.items.length c) := by simpa using g0.cell 3
    have z4 : w3.cell? ⟨w.heap.size, 4, none⟩ = some (.slice K x.keys.length q) := by simpa using g0.cell 4
    have e1 : w3.cell? ⟨w.heap.size + 1, 0, none⟩ = some (.int .i64 0) := by simpa using g1.cell 0
    clear hall
    go_wp2_with fail
    refine wp_region_held_drew (S := fun w' => w'.cell? ⟨w.heap.size + 1 + 1, 0, none⟩ = some (.string s) ∧ w'.cell? ⟨w.heap.size + 1 + 1, 1, none⟩ = some (.int .i64 k1)) (by kernel_rfl) (show _ ∧ _ from ⟨c0, c1⟩) (fun hHeld => ?_)
    refine wpAnyH_take (i := 0) (oi := _) (v := ?_) rfl (by kernel_rfl) (by kernel_rfl) (by kernel_rfl) (fun _ _ _ h => door_put h) (Or.inl ⟨by rfl, (by intro w hSw; (try dsimp only at hSw); go_simp; try (with_reducible rfl))⟩) (by assumption) ?_
    (try simp only [Act.put]); (try simp only [List.setIfInBounds_toArray]); (try simp only [List.set_cons_succ]); (try simp only [List.set_cons_zero])
    refine wpAnyH_take (i := 1) (oi := _) (v := ?_) rfl (by kernel_rfl) (by kernel_rfl) (by kernel_rfl) (fun _ _ _ h => door_put h) (Or.inl ⟨by rfl, (by intro w hSw; (try dsimp only at hSw); go_simp; try (with_reducible rfl))⟩) (by assumption) ?_
    (try simp only [Act.put]); (try simp only [List.setIfInBounds_toArray]); (try simp only [List.set_cons_succ]); (try simp only [List.set_cons_zero])
    refine wpAnyH_take (i := 2) (oi := _) (v := ?_) rfl (by kernel_rfl) (by kernel_rfl) (by kernel_rfl) (fun _ _ _ h => door_put h) (Or.inl ⟨by rfl, (by intro w hSw; (try dsimp only at hSw); go_simp; try (with_reducible rfl))⟩) (by assumption) ?_
    (try simp only [Act.put]); (try simp only [List.setIfInBounds_toArray]); (try simp only [List.set_cons_succ]); (try simp only [List.set_cons_zero])
    refine wpAnyH_take (i := 3) (oi := _) (v := ?_) rfl (by kernel_rfl) (by kernel_rfl) (by kernel_rfl) (fun _ _ _ h => door_put h) (Or.inl ⟨by rfl, (by intro w hSw; (try dsimp only at hSw); go_simp; try (with_reducible rfl))⟩) (by assumption) ?_
    (try simp only [Act.put]); (try simp only [List.setIfInBounds_toArray]); (try simp only [List.set_cons_succ]); (try simp only [List.set_cons_zero])
    refine wpAnyH_take (i := 4) (oi := _) (v := ?_) rfl (by kernel_rfl) (by kernel_rfl) (by kernel_rfl) (fun _ _ _ h => door_put h) (Or.inl ⟨by rfl, (by intro w hSw; (try dsimp only at hSw); go_simp; try (with_reducible rfl))⟩) (by assumption) ?_
    (try simp only [Act.put]); (try simp only [List.setIfInBounds_toArray]); (try simp only [List.set_cons_succ]); (try simp only [List.set_cons_zero])
    refine wpAnyH_take (i := 5) (oi := _) (v := ?_) rfl (by kernel_rfl) (by kernel_rfl) (by kernel_rfl) (fun _ _ _ h => door_put h) (Or.inl ⟨by rfl, (by intro w hSw; (try dsimp only at hSw); go_simp; try (with_reducible rfl))⟩) (by assumption) ?_
    (try simp only [Act.put]); (try simp only [List.setIfInBounds_toArray]); (try simp only [List.set_cons_succ]); (try simp only [List.set_cons_zero])
    refine wpAnyH_take (i := 6) (oi := _) (v := ?_) rfl (by kernel_rfl) (by kernel_rfl) (by kernel_rfl) (fun _ _ _ h => door_put h) (Or.inl ⟨by rfl, (by intro w hSw; (try dsimp only at hSw); go_simp; try (with_reducible rfl))⟩) (by assumption) ?_
    (try simp only [Act.put]); (try simp only [List.setIfInBounds_toArray]); (try simp only [List.set_cons_succ]); (try simp only [List.set_cons_zero])
    refine wpAnyH_take (i := 7) (oi := _) (v := ?_) rfl (by kernel_rfl) (by kernel_rfl) (by kernel_rfl) (fun _ _ _ h => door_put h) (Or.inl ⟨by rfl, (by intro w hSw; (try dsimp only at hSw); go_simp; try (with_reducible rfl))⟩) (by assumption) ?_
    (try simp only [Act.put]); (try simp only [List.setIfInBounds_toArray]); (try simp only [List.set_cons_succ]); (try simp only [List.set_cons_zero])
    refine wpAnyH_take (i := 8) (oi := _) (v := ?_) rfl (by kernel_rfl) (by kernel_rfl) (by kernel_rfl) (fun _ _ _ h => door_put h) (Or.inl ⟨by rfl, (by intro w hSw; (try dsimp only at hSw); go_simp; try (with_reducible rfl))⟩) (by assumption) ?_
    (try simp only [Act.put]); (try simp only [List.setIfInBounds_toArray]); (try simp only [List.set_cons_succ]); (try simp only [List.set_cons_zero])
    refine wpAnyH_take (i := 9) (oi := _) (v := ?_) rfl (by kernel_rfl) (by kernel_rfl) (by kernel_rfl) (fun _ _ _ h => door_put h) (Or.inl ⟨by rfl, (by intro w hSw; (try dsimp only at hSw); go_simp; try (with_reducible rfl))⟩) (by assumption) ?_
    (try simp only [Act.put]); (try simp only [List.setIfInBounds_toArray]); (try simp only [List.set_cons_succ]); (try simp only [List.set_cons_zero])
    refine wpAnyH_take (i := 10) (oi := _) (v := ?_) rfl (by kernel_rfl) (by kernel_rfl) (by kernel_rfl) (fun _ _ _ h => door_put h) (Or.inl ⟨by rfl, (by intro w hSw; (try dsimp only at hSw); go_simp; try (with_reducible rfl))⟩) (by assumption) ?_
    (try simp only [Act.put]); (try simp only [List.setIfInBounds_toArray]); (try simp only [List.set_cons_succ]); (try simp only [List.set_cons_zero])
    refine wpAnyH_ready (rs := [11]) (by kernel_rfl) (by simp) ?_
    refine AllReadyH.cons (o := _) rfl (fun K hK => ?_) AllReadyH.nil
    go_simp
    refine (must_of hno.out _ _).mono ?_
    rintro e w' ⟨rfl, rfl⟩
    refine leaves_cons (f := 34) (args := #[.pointer (some ⟨w.heap.size, 0, none⟩), .pointer (some ⟨w.heap.size + 1, 0, none⟩)]) (by simp) (by simp [go_sem]) ?_
    refine (catch_panicking w.heap.size (w.heap.size + 1) (by omega) _ _ _ _ _ _ _ _ _ w3.drew z0 z1 z2 z3 z4 e1 (g0.frozen 0) (g0.frozen 1) (g0.frozen 2) (g0.frozen 3) (g0.frozen 4) (g1.frozen 0)).mono ?_
    rintro e u' w'' ⟨rfl, rfl, rfl⟩
    simp [Leaves, settle, results, Tryz.results20, go_sem, put5, z0, z1, z2, z3, z4, e1]
    rw [hN.out]
    have hE := below_drew (below_set (below_put5 HL3.out (Nat.le_refl _) (.int .i64 0) (.int .i64 0) (.string ⟨#[]⟩) (.slice none 0 0) (.slice none 0 0)) ⟨w.heap.size + 1, 0, none⟩ (.int .i64 14) (Nat.le_succ _))
    unfold put5 at hE
    exact ⟨rfl, hE⟩
end Go.Proofs.YtfiiaeomlmckfaaGreatDoor
/- The makers of values. -/
namespace Go.Proofs.YtfiiaeomlmckfaaGreatDoor
open Go.RowKit

set_option maxHeartbeats 1000000 in
theorem refNull_any (w : World) :
    Calls Tryz.prog 17 #[] w fun e w' => e = .returned (.agg #[.int .i64 0, .int .i64 0, .string ⟨#[]⟩, .slice none 0 0, .slice none 0 0]) ∧ Below w.heap.size w w' := by
  go_enter Tryz.func17, Tryz.ntmps17
  go_wp2_with fail
  refine bodyPost_ret (v := .agg #[.int .i64 0, .int .i64 0, .string ⟨#[]⟩, .slice none 0 0, .slice none 0 0]) (by simp [results, Tryz.results17, go_sem]) rfl ?_
  exact ⟨rfl, (Below.refl _ _).alloc (Nat.le_refl _) _⟩
set_option maxHeartbeats 1000000 in
theorem refList_any (A : Option Addr) (n c : Nat) (w : World) :
    Calls Tryz.prog 15 #[.slice A n c] w fun e w' => e = .returned (.agg #[.int .i64 4, .int .i64 0, .string ⟨#[]⟩, .slice A n c, .slice none 0 0]) ∧ Below w.heap.size w w' := by
  go_enter Tryz.func15, Tryz.ntmps15
  go_wp2_with fail
  refine bodyPost_ret (v := .agg #[.int .i64 4, .int .i64 0, .string ⟨#[]⟩, .slice A n c, .slice none 0 0]) (by simp [results, Tryz.results15, go_sem]) rfl ?_
  exact ⟨rfl, (Below.refl _ _).alloc (Nat.le_refl _) _⟩
set_option maxHeartbeats 1000000 in
theorem refObject_any (K A : Option Addr) (m d n c : Nat) (w : World) :
    Calls Tryz.prog 14 #[.slice K m d, .slice A n c] w fun e w' => e = .returned (.agg #[.int .i64 5, .int .i64 0, .string ⟨#[]⟩, .slice A n c, .slice K m d]) ∧ Below w.heap.size w w' := by
  go_enter Tryz.func14, Tryz.ntmps14
  go_wp2_with fail
  refine bodyPost_ret (v := .agg #[.int .i64 5, .int .i64 0, .string ⟨#[]⟩, .slice A n c, .slice K m d]) (by simp [results, Tryz.results14, go_sem]) rfl ?_
  exact ⟨rfl, (Below.refl _ _).alloc (Nat.le_refl _) _⟩

/-- The values of the chapter's examples. -/
def numT (n : Int) : V := .mk 2 n ⟨#[]⟩ [] []
def nullT : V := .mk 0 0 ⟨#[]⟩ [] []
def exA : V := .mk 5 0 ⟨#[]⟩ [.mk 4 0 ⟨#[]⟩ [numT 1, nullT] []] [⟨#[97]⟩]
def exB : V := .mk 4 0 ⟨#[]⟩ [numT 2] []
def exC : V := .mk 4 0 ⟨#[]⟩ [numT 2, nullT] []
def exD : V := .mk 5 0 ⟨#[]⟩ [numT 2, numT 1] [⟨#[97]⟩, ⟨#[98]⟩]
def numC (n : Int) : List Value := [.int .i64 2, .int .i64 n, .string ⟨#[]⟩, .slice none 0 0, .slice none 0 0]
def nullC : List Value := [.int .i64 0, .int .i64 0, .string ⟨#[]⟩, .slice none 0 0, .slice none 0 0]
theorem exA_facts : exA.valid = true ∧ exA.write = [123, 34, 97, 34, 58, 91, 49, 44, 110, 117, 108, 108, 93, 125] ∧ exA.nodes = 4 ∧ exA.depth = 3 := by decide +kernel
theorem exBC : exB.valid = true ∧ exC.valid = true ∧ exB.cmp exC = -1 := by decide +kernel
theorem exD_parse : parseP [123, 32, 34, 98, 34, 58, 49, 32, 44, 32, 34, 97, 34, 58, 50, 32, 125] = some exD := by kernel_rfl
theorem ex_bad : parseP [48, 49] = none := by kernel_rfl
theorem sz0 : (⟨#[]⟩ : ByteArray).size ≤ maxLen := by decide
theorem sz97 : (⟨#[97]⟩ : ByteArray).size ≤ maxLen := by decide
theorem sz98 : (⟨#[98]⟩ : ByteArray).size ≤ maxLen := by decide
theorem lies_num (W : World) (B : Nat) (n : Int) : Lies W B (numT n) none 0 none 0 := ⟨sz0, Nat.le_refl _, by simp [maxLen], ⟨Nat.le_refl _, by simp [maxLen], .inl rfl⟩, .inl rfl⟩
theorem lies_null (W : World) (B : Nat) : Lies W B nullT none 0 none 0 := ⟨sz0, Nat.le_refl _, by simp [maxLen], ⟨Nat.le_refl _, by simp [maxLen], .inl rfl⟩, .inl rfl⟩
theorem lies_exA {W : World} {B kb jb ib : Nat} {t0 t1 t2 : TypeId} (h0 : BlockIs W kb t0 #[.string ⟨#[97]⟩]) (h1 : BlockIs W jb t1 (numC 1 ++ nullC).toArray) (h2 : BlockIs W ib t2 #[.int .i64 4, .int .i64 0, .string ⟨#[]⟩, .slice (some ⟨jb, 0, none⟩) 2 2, .slice none 0 0]) (b0 : kb < B) (b1 : jb < B) (b2 : ib < B) :
    Lies W B exA (some ⟨ib, 0, none⟩) 1 (some ⟨kb, 0, none⟩) 1 := by
  have hj : LiesFrom W B [numT 1, nullT] jb 0 := ⟨⟨none, 0, none, 0, h1.cell 0, h1.cell 1, h1.cell 2, h1.cell 3, h1.cell 4, lies_num W B 1⟩, ⟨none, 0, none, 0, h1.cell 5, h1.cell 6, h1.cell 7, h1.cell 8, h1.cell 9, lies_null W B⟩, trivial⟩
  have hl : Lies W B (.mk 4 0 ⟨#[]⟩ [numT 1, nullT] []) (some ⟨jb, 0, none⟩) 2 none 0 := ⟨sz0, by simp, by simp [maxLen], ⟨by simp, by simp [maxLen], .inl rfl⟩, .inr ⟨jb, 0, rfl, b1, hj⟩⟩
  exact ⟨sz0, by simp, by simp [maxLen], ⟨by simp, by simp [maxLen], .inr ⟨kb, 0, rfl, b0, h0.cell 0, sz97, trivial⟩⟩, .inr ⟨ib, 0, rfl, b2, ⟨some ⟨jb, 0, none⟩, 2, none, 0, h2.cell 0, h2.cell 1, h2.cell 2, h2.cell 3, h2.cell 4, hl⟩, trivial⟩⟩
theorem lies_exB {W : World} {B jb : Nat} {t1 : TypeId} (h1 : BlockIs W jb t1 (numC 2).toArray) (b1 : jb < B) : Lies W B exB (some ⟨jb, 0, none⟩) 1 none 0 :=
  ⟨sz0, by simp, by simp [maxLen], ⟨by simp, by simp [maxLen], .inl rfl⟩, .inr ⟨jb, 0, rfl, b1, ⟨none, 0, none, 0, h1.cell 0, h1.cell 1, h1.cell 2, h1.cell 3, h1.cell 4, lies_num W B 2⟩, trivial⟩⟩
theorem lies_exC {W : World} {B jb : Nat} {t1 : TypeId} (h1 : BlockIs W jb t1 (numC 2 ++ nullC).toArray) (b1 : jb < B) : Lies W B exC (some ⟨jb, 0, none⟩) 2 none 0 :=
  ⟨sz0, by simp, by simp [maxLen], ⟨by simp, by simp [maxLen], .inl rfl⟩, .inr ⟨jb, 0, rfl, b1, ⟨none, 0, none, 0, h1.cell 0, h1.cell 1, h1.cell 2, h1.cell 3, h1.cell 4, lies_num W B 2⟩, ⟨none, 0, none, 0, h1.cell 5, h1.cell 6, h1.cell 7, h1.cell 8, h1.cell 9, lies_null W B⟩, trivial⟩⟩
theorem lies_exD {W : World} {B kb jb : Nat} {t0 t1 : TypeId} (h0 : BlockIs W kb t0 #[.string ⟨#[97]⟩, .string ⟨#[98]⟩]) (h1 : BlockIs W jb t1 (numC 2 ++ numC 1).toArray) (b0 : kb < B) (b1 : jb < B) : Lies W B exD (some ⟨jb, 0, none⟩) 2 (some ⟨kb, 0, none⟩) 2 :=
  ⟨sz0, by simp, by simp [maxLen], ⟨by simp, by simp [maxLen], .inr ⟨kb, 0, rfl, b0, h0.cell 0, sz97, h0.cell 1, sz98, trivial⟩⟩, .inr ⟨jb, 0, rfl, b1, ⟨none, 0, none, 0, h1.cell 0, h1.cell 1, h1.cell 2, h1.cell 3, h1.cell 4, lies_num W B 2⟩, ⟨none, 0, none, 0, h1.cell 5, h1.cell 6, h1.cell 7, h1.cell 8, h1.cell 9, lies_num W B 1⟩, trivial⟩⟩
theorem text_exA (W : World) (A K : Option Addr) (c d : Nat) (h : Lies W W.heap.size exA A c K d) (hp : Pow W) :
    Calls Tryz.prog 18 #[.agg #[.int .i64 5, .int .i64 0, .string ⟨#[]⟩, .slice A 1 c, .slice K 1 d]] W fun e w' => e = .returned (.tuple #[.string ⟨#[123, 34, 97, 34, 58, 91, 49, 44, 110, 117, 108, 108, 93, 125]⟩, .int .i64 0]) ∧ Below W.heap.size W w' :=
  (show Calls Tryz.prog 18 #[.agg #[.int .i64 5, .int .i64 0, .string ⟨#[]⟩, .slice A 1 c, .slice K 1 d]] W (TextPost exA W) from text_any exA W A K c d h hp).mono fun e w' he => by
    obtain ⟨he, hb⟩ := he
    rw [exA_facts.1, exA_facts.2.1] at he
    exact ⟨he, hb⟩
theorem size_exA (W : World) (A K : Option Addr) (c d : Nat) (h : Lies W W.heap.size exA A c K d) :
    Calls Tryz.prog 19 #[.agg #[.int .i64 5, .int .i64 0, .string ⟨#[]⟩, .slice A 1 c, .slice K 1 d]] W fun e w' => e = .returned (.tuple #[.int .i64 4, .int .i64 3, .int .i64 0]) ∧ Below W.heap.size W w' :=
  (show Calls Tryz.prog 19 #[.agg #[.int .i64 5, .int .i64 0, .string ⟨#[]⟩, .slice A 1 c, .slice K 1 d]] W (SizePost exA W) from size_any exA W A K c d h).mono fun e w' he => by
    obtain ⟨he, hb⟩ := he
    rw [exA_facts.1, exA_facts.2.2.1, exA_facts.2.2.2] at he
    exact ⟨he, hb⟩
theorem cmp_exBC (W : World) (A A' : Option Addr) (c c' : Nat) (h : Lies W W.heap.size exB A c none 0) (h' : Lies W W.heap.size exC A' c' none 0) :
    Calls Tryz.prog 13 #[.agg #[.int .i64 4, .int .i64 0, .string ⟨#[]⟩, .slice A 1 c, .slice none 0 0], .agg #[.int .i64 4, .int .i64 0, .string ⟨#[]⟩, .slice A' 2 c', .slice none 0 0]] W fun e w' => e = .returned (.tuple #[.int .i64 (-1), .int .i64 0]) ∧ Below W.heap.size W w' :=
  (show Calls Tryz.prog 13 #[.agg #[.int .i64 4, .int .i64 0, .string ⟨#[]⟩, .slice A 1 c, .slice none 0 0], .agg #[.int .i64 4, .int .i64 0, .string ⟨#[]⟩, .slice A' 2 c', .slice none 0 0]] W (CmpPost exB exC W) from compare_any exB exC W A none c 0 A' none c' 0 h h').mono fun e w' he => by
    obtain ⟨he, hb⟩ := he
    rw [exBC.1, exBC.2.1, exBC.2.2] at he
    exact ⟨he, hb⟩
theorem parse_exD (W : World) :
    Calls Tryz.prog 20 #[.string ⟨#[123, 32, 34, 98, 34, 58, 49, 32, 44, 32, 34, 97, 34, 58, 50, 32, 125]⟩] W fun e w' => ∃ A c K q, e = .returned (.tuple #[.agg #[.int .i64 5, .int .i64 0, .string ⟨#[]⟩, .slice A 2 c, .slice K 2 q], .int .i64 0]) ∧ Lies w' w'.heap.size exD A c K q ∧ Below W.heap.size W w' :=
  (parse_any ⟨#[123, 32, 34, 98, 34, 58, 49, 32, 44, 32, 34, 97, 34, 58, 50, 32, 125]⟩ (by decide) W).mono fun e w' he => by
    rw [show parseP (⟨#[123, 32, 34, 98, 34, 58, 49, 32, 44, 32, 34, 97, 34, 58, 50, 32, 125]⟩ : ByteArray).data.toList = some exD from exD_parse] at he
    obtain ⟨A, c, K, q, he, hl, hb⟩ := he
    exact ⟨A, c, K, q, he, LiesIn.lies (fun b h => h.2) exD hl, hb⟩
theorem parse_bad (W : World) :
    Calls Tryz.prog 20 #[.string ⟨#[48, 49]⟩] W fun e w' => e = .returned (.tuple #[.agg #[.int .i64 0, .int .i64 0, .string ⟨#[]⟩, .slice none 0 0, .slice none 0 0], .int .i64 14]) ∧ Below W.heap.size W w' :=
  (parse_any ⟨#[48, 49]⟩ (by decide) W).mono fun e w' he => by
    rw [show parseP (⟨#[48, 49]⟩ : ByteArray).data.toList = none from ex_bad] at he
    exact he
theorem same_exD (W : World) (A K A' K' : Option Addr) (c d c' d' : Nat) (h : Lies W W.heap.size exD A c K d) (h' : Lies W W.heap.size exD A' c' K' d') :
    Calls Tryz.prog 21 #[.agg #[.int .i64 5, .int .i64 0, .string ⟨#[]⟩, .slice A 2 c, .slice K 2 d], .agg #[.int .i64 5, .int .i64 0, .string ⟨#[]⟩, .slice A' 2 c', .slice K' 2 d']] W fun e w' => e = .returned (.bool true) ∧ Below W.heap.size W w' :=
  (show Calls Tryz.prog 21 #[.agg #[.int .i64 5, .int .i64 0, .string ⟨#[]⟩, .slice A 2 c, .slice K 2 d], .agg #[.int .i64 5, .int .i64 0, .string ⟨#[]⟩, .slice A' 2 c', .slice K' 2 d']] W (SamePost (exD = exD) W) from same_any exD.nodes exD exD W A K c d A' K' c' d' (Nat.le_refl _) h h').mono fun e w' he => by
    obtain ⟨b, he, hb, hw⟩ := he
    rw [hb.2 rfl] at he
    exact ⟨he, hw⟩
/-- What lies in old blocks lies there still. -/
theorem lies_on {w w' : World} {x : V} {A K : Option Addr} {c d : Nat} (h : Lies w w.heap.size x A c K d) (hb : Below w.heap.size w w') : Lies w' w'.heap.size x A c K d := Lies.keep (bcell hb) hb.size _ h
theorem lies_alloc {w : World} {x : V} {A K : Option Addr} {c d : Nat} (h : Lies w w.heap.size x A c K d) (o : Obj) : Lies (w.alloc o) (w.alloc o).heap.size x A c K d := lies_on h ((Below.refl _ _).alloc (Nat.le_refl _) _)
theorem below_on {w a b : World} (h : Below w.heap.size w a) (hb : Below a.heap.size a b) : Below w.heap.size w b := h.trans (hb.mono h.size)
theorem below_al {w a : World} (h : Below w.heap.size w a) (o : Obj) : Below w.heap.size w (a.alloc o) := h.alloc h.size o
theorem Pow.on {w a : World} (h : Pow w) (hb : Below w.heap.size w a) : Pow a := h.below hb h.lt
end Go.Proofs.YtfiiaeomlmckfaaGreatDoor

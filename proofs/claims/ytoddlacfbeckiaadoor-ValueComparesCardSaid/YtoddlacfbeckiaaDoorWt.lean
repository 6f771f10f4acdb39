/- Reading: a list, whole. -/
import Derived.Test.YtoddlacfbeckiaaDoorWs
namespace Go.Proofs.YtoddlacfbeckiaaDoor
open Go.RowKit

theorem list_result {w W : World} {g : Nat} {d : Int} {acc : List V} {n : Nat} {row : Value} {css : List (List Value)} (h : LInvR w g d acc n row css W) :
    ∃ A c, row = .slice A acc.length c ∧ ∀ W', (∀ b, w.heap.size + 4 ≤ b → b < W.heap.size → W'.heap[b]? = W.heap[b]?) → W.heap.size ≤ W'.heap.size → LiesIn (Fresh w W') W' (V.mk 4 0 ⟨#[]⟩ acc []) A c none 0 := by
  obtain ⟨h1, h2, h3, h4, h5, h6, h7, h8, h9⟩ := h
  have hr : RowsIn (fun b => w.heap.size + 4 ≤ b ∧ b < W.heap.size) W acc css := h9.keep (fun _ _ _ => rfl) (fun b hb => ⟨hb.1, hb.2.1⟩)
  obtain ⟨A, c, rfl, hc1, hc2, hA⟩ := rows_lie hr h8 (fun b hb => World.ownsRow.lt h8 b hb)
  refine ⟨A, c, rfl, fun W' hW hs => ?_⟩
  rw [LiesIn]
  refine ⟨by decide, hc1, hc2, ⟨Nat.le_refl _, by simp [maxLen], .inl rfl⟩, hA.imp id ?_⟩
  rintro ⟨b, o, hAe, hb, hf⟩
  exact ⟨b, o, hAe, ⟨by have := hb.1; omega, by have := hb.2; omega⟩, LiesFromIn.keep (fun b' o' hb' => World.cell?_of_block (hW b' hb'.1 hb'.2)) (fun b' hb' => ⟨by have := hb'.1; omega, by have := hb'.2; omega⟩) acc hb hf⟩
theorem list_start (w : World) (g : Nat) (d : Int) (n : Nat) :
    LInv w g d [] n ((((w.alloc (.cells #[.pointer (some ⟨g, 0, none⟩)] 63)).alloc (.cells #[.int .i64 d] 3)).alloc (.cells zeroF 25)).alloc (.cells #[.int .i64 4, .int .i64 0, .string ⟨#[]⟩, .slice none 0 0, .slice none 0 0] 25)) := by
  refine ⟨.slice none 0 0, [], grow_alloc (grow_alloc (grow_alloc (grow_alloc (grow_refl w _) _) _) _) _, by simp, ?_, ?_, ?_, Nat.zero_le _, ?_, World.ownsRow_nil _ _ _ _, trivial⟩
  · exact (((Blk.new w _ _).alloc _).alloc _).alloc _
  · exact ((Blk.newAt _ _ _ (by simp)).alloc _).alloc _
  · exact (Blk.newAt _ _ _ (by simp)).alloc _
  · exact Blk.newAt _ _ _ (by simp)
theorem PAt.alloc {w : World} {g : Nat} {s : ByteArray} {k n : Nat} (h : PAt w g s k n) (o : Obj) : PAt (w.alloc o) g s k n := Blk.alloc h o

set_option maxRecDepth 100000 in
set_option maxHeartbeats 4000000 in
theorem list_any (g : Nat) (s : ByteArray) (hs : s.size ≤ 1000000) (d : Nat) (hd : d ≤ 6) (f : Nat → List UInt8 → Option (V × List UInt8 × Nat)) (hmore : ∀ n l x l' n', f n l = some (x, l', n') → n < n') (hok : ∀ n l x l' n', f n l = some (x, l', n') → l'.length ≤ l.length ∧ n' ≤ 60)
    (hval : ∀ (k n : Nat) (W : World), PAt W g s k n → k ≤ s.size → n ≤ 60 → Calls Tryd.prog 48 #[.pointer (some ⟨g, 0, none⟩), .int .i64 ((d : Int) + 1)] W (VPost g s W (f n (sfx s k))))
    (k n : Nat) (w : World) (hP : PAt w g s k n) (hk : k ≤ s.size) (hn : n ≤ 60) :
    Calls Tryd.prog 68 #[.pointer (some ⟨g, 0, none⟩), .int .i64 d] w (VPost g s w ((seriesP (stepL f) 93 91 [] n (sfx s k)).map fun q => (V.mk 4 0 ⟨#[]⟩ q.1 [], q.2))) := by
  have hg := hP.lt
  have HP := Lib.hid hP
  have HN := Lib.hid (show ∀ (args : Array Value) (W : World), (callFunc 87 args).run Tryd.prog W = .ok (.enter 87 args) W from enters_of Tryd.func87 (by kernel_rfl) rfl)
  have HS := Lib.hid fun (W : World) (hW : PAt W g s k n) (hI : LInv w g d [] n W) => series_any (stepL f) 91 93 91 93 rfl rfl (LInv w g d) (fun W' => w.grownBy W' (some g)) g s 87 (some ⟨w.heap.size, 0, none⟩) (some ⟨w.heap.size + 1, 0, none⟩) (some ⟨w.heap.size + 3, 0, none⟩) HN.out
    (fun st k n W W' hI hW => hI.keep hg hW.1 (Nat.le_refl _)) (fun st n W W' hI hW => by obtain ⟨row, css, hI⟩ := hI; exact grow_trans hI.1 hW) (stepL_ok hok)
    (fun st k n W hI hP hk hn => item_list g s d hd f w hg hmore hval st k n W hI hP hk hn) hs [] k n W hW hk hn hI
  clear hP hval hok
  have hmf : ∀ (fn : Fn) (first cap : Array Value) (w : World), (Instr.makeFunc fn first cap).run Tryd.prog w = .ok (.func fn first cap) w := fun _ _ _ _ => rfl
  go_enter Tryd.func68, Tryd.ntmps68
  go_wp2_with fail
  refine (HS.out _ ((((PAt.alloc HP.out _).alloc _).alloc _).alloc _) (list_start w g d n)).mono ?_
  intro e w2 hp
  rcases hst : seriesP (stepL f) 93 91 [] n (sfx s k) with _ | ⟨acc, l, n'⟩
  · rw [hst] at hp
    obtain ⟨rfl, hp⟩ := hp
    refine ⟨rfl, ?_⟩
    rw [hst]
    exact ⟨rfl, hp⟩
  rw [hst] at hp
  obtain ⟨rfl, ⟨row, css, hI⟩, k', hk', hsk, hP'⟩ := hp
  obtain ⟨A, c, rfl, hres⟩ := list_result hI
  obtain ⟨hI1, hI2, hI3, hI4, hI5, hI6, hI7, hI8, hI9⟩ := hI
  have v0 : w2.cell? ⟨w.heap.size + 1 + 1 + 1, 0, none⟩ = some (.int .i64 4) := by simpa using hI7.cell 0
  have v1 : w2.cell? ⟨w.heap.size + 1 + 1 + 1, 1, none⟩ = some (.int .i64 0) := by simpa using hI7.cell 1
  have v2 : w2.cell? ⟨w.heap.size + 1 + 1 + 1, 2, none⟩ = some (.string ⟨#[]⟩) := by simpa using hI7.cell 2
  have v3 : w2.cell? ⟨w.heap.size + 1 + 1 + 1, 3, none⟩ = some (.slice A acc.length c) := by simpa using hI7.cell 3
  have v4 : w2.cell? ⟨w.heap.size + 1 + 1 + 1, 4, none⟩ = some (.slice none 0 0) := by simpa using hI7.cell 4
  have z0 : w2.cell? ⟨w.heap.size + 1 + 1, 0, none⟩ = some (.int .i64 0) := by simpa [zeroF] using hI5.cell 0
  have z1 : w2.cell? ⟨w.heap.size + 1 + 1, 1, none⟩ = some (.int .i64 0) := by simpa [zeroF] using hI5.cell 1
  have z2 : w2.cell? ⟨w.heap.size + 1 + 1, 2, none⟩ = some (.string ⟨#[]⟩) := by simpa [zeroF] using hI5.cell 2
  have z3 : w2.cell? ⟨w.heap.size + 1 + 1, 3, none⟩ = some (.slice none 0 0) := by simpa [zeroF] using hI5.cell 3
  have z4 : w2.cell? ⟨w.heap.size + 1 + 1, 4, none⟩ = some (.slice none 0 0) := by simpa [zeroF] using hI5.cell 4
  have fz : ∀ i, w2.frozen? ⟨w.heap.size + 1 + 1, i, none⟩ = false := fun i => hI5.frozen i
  have g0 := fz 0
  have g1 := fz 1
  have g2 := fz 2
  have g3 := fz 3
  have g4 := fz 4
  have HR := Lib.hid hres
  have HW := Lib.hid (show Went g s k' n' w w2 from ⟨hI1, hP'⟩)
  clear hres hI1 hI2 hI3 hI4 hI5 hI6 hI7 hI8 hI9 hP' fz
  go_wp2_with fail
  refine bodyPost_ret (v := cellsOf (V.mk 4 0 ⟨#[]⟩ acc []) A c none 0) (by simp [results, Tryd.results68, go_sem, cellsOf, V.kind, V.int, V.text, V.items, V.keys, z0, z1, z2, z3, z4]) rfl ?_
  rw [hst]
  refine ⟨A, c, none, 0, k', rfl, HR.out _ (fun b h1 h2 => put5_heap w2 (w.heap.size + 1 + 1) 0 _ _ _ _ _ (by omega)) (Nat.le_of_eq (put5_size w2 (w.heap.size + 1 + 1) 0 _ _ _ _ _).symm), hk', hsk, ?_⟩
  exact ((((HW.out.set hg _ _ (by simp; omega)).set hg _ _ (by simp; omega)).set hg _ _ (by simp; omega)).set hg _ _ (by simp; omega)).set hg _ _ (by simp; omega)
end Go.Proofs.YtoddlacfbeckiaaDoor

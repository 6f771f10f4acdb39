/- Reading: an object, whole. -/
import Derived.Test.YtoddlacfbeckiaaDoorWx
namespace Go.Proofs.YtoddlacfbeckiaaDoor
open Go.RowKit

theorem keys_from {w : World} {b : Nat} : ∀ {keys : List ByteArray} {o : Nat}, (∀ k ∈ keys, k.size ≤ maxLen) → (∀ (j : Nat) (v : Value), (keys.map Value.string)[j]? = some v → w.cell? ⟨b, o + j, none⟩ = some v) → StrsFrom w keys b o
  | [], _, _, _ => trivial
  | k :: r, o, hk, hc => ⟨hc 0 _ rfl, hk k (by simp), keys_from (fun x hx => hk x (by simp [hx])) fun j v hj => by
    have := hc (j + 1) v (by simpa using hj)
    rw [show o + 1 + j = o + (j + 1) by omega]; exact this⟩
theorem object_result {w W : World} {g : Nat} {d : Int} {st : List ByteArray × List V} {n : Nat} {rowK rowI : Value} {css : List (List Value)} (h : OInvR w g d st n rowK rowI css W) :
    ∃ A c K q, rowI = .slice A st.2.length c ∧ rowK = .slice K st.1.length q ∧ ∀ W', (∀ b, w.heap.size + 4 ≤ b → b < W.heap.size → W'.heap[b]? = W.heap[b]?) → W.heap.size ≤ W'.heap.size → LiesIn (Fresh w W') W' (V.mk 5 0 ⟨#[]⟩ st.2 st.1) A c K q := by
  obtain ⟨h1, h2, h3, h4, h5, h6, h7, h8, h9, h10⟩ := h
  have hr : RowsIn (fun b => w.heap.size + 4 ≤ b ∧ b < W.heap.size) W st.2 css := h10.keep (fun _ _ _ => rfl) (fun b hb => ⟨hb.1, hb.2.1⟩)
  obtain ⟨A, c, rfl, hc1, hc2, hA⟩ := rows_lie hr h9 (fun b hb => World.ownsRow.lt h9 b hb)
  have hcK := fun g hg => World.ownsRow.cells h8 (g := g) hg
  obtain ⟨K, q, rfl, hq1, hq2, hK⟩ : ∃ K q, rowK = .slice K st.1.length q ∧ st.1.length ≤ q ∧ q ≤ maxLen ∧ (st.1 = [] ∨ ∃ b, K = some ⟨b, 0, none⟩ ∧ (w.heap.size + 4 ≤ b ∧ b < W.heap.size) ∧ StrsFrom W st.1 b 0) := by
    have hlt := fun b hb => World.ownsRow.lt h8 b hb
    obtain ⟨hl, ⟨rfl, h0⟩ | ⟨g', cap, cur, rfl, hB, hb, hn, hm, hs, ht⟩⟩ := h8
    · exact ⟨none, 0, by rw [h0], by omega, by simp [maxLen], .inl (List.length_eq_zero_iff.1 h0)⟩
    · refine ⟨_, _, rfl, hn, hm, .inr ⟨g', rfl, hlt g' rfl, keys_from h6.2.2.2 fun j v hj => ?_⟩⟩
      have := hcK g' rfl j v hj
      rw [Addr.add_lit] at this
      exact this
  refine ⟨A, c, K, q, rfl, rfl, fun W' hW hs => ?_⟩
  have hf : ∀ b, w.heap.size + 4 ≤ b ∧ b < W.heap.size → Fresh w W' b := fun b hb => ⟨by have := hb.1; omega, by have := hb.2; omega⟩
  have hce : ∀ b o, w.heap.size + 4 ≤ b ∧ b < W.heap.size → W'.cell? ⟨b, o, none⟩ = W.cell? ⟨b, o, none⟩ := fun b o hb => World.cell?_of_block (hW b hb.1 hb.2)
  rw [LiesIn]
  refine ⟨by decide, hc1, hc2, ⟨hq1, hq2, hK.imp id ?_⟩, hA.imp id ?_⟩
  · rintro ⟨b, hKe, hb, hfr⟩
    exact ⟨b, 0, hKe, hf b hb, hfr.keep fun o => hce b o hb⟩
  · rintro ⟨b, o, hAe, hb, hfr⟩
    exact ⟨b, o, hAe, hf b hb, LiesFromIn.keep hce hf st.2 hb hfr⟩
theorem object_start (w : World) (g : Nat) (d : Int) (n : Nat) :
    OInv w g d ([], []) n ((((w.alloc (.cells #[.pointer (some ⟨g, 0, none⟩)] 63)).alloc (.cells #[.int .i64 d] 3)).alloc (.cells zeroF 25)).alloc (.cells #[.int .i64 5, .int .i64 0, .string ⟨#[]⟩, .slice none 0 0, .slice none 0 0] 25)) := by
  refine ⟨.slice none 0 0, .slice none 0 0, [], grow_alloc (grow_alloc (grow_alloc (grow_alloc (grow_refl w _) _) _) _) _, by simp, ?_, ?_, ?_, ⟨Nat.zero_le _, rfl, List.Pairwise.nil, fun k hk => by cases hk⟩, ?_, World.ownsRow_nil _ _ _ _, World.ownsRow_nil _ _ _ _, trivial⟩
  · exact (((Blk.new w _ _).alloc _).alloc _).alloc _
  · exact ((Blk.newAt _ _ _ (by simp)).alloc _).alloc _
  · exact (Blk.newAt _ _ _ (by simp)).alloc _
  · exact Blk.newAt _ _ _ (by simp)

set_option maxRecDepth 100000 in
set_option maxHeartbeats 4000000 in
theorem object_any (g : Nat) (s : ByteArray) (hs : s.size ≤ 1000000) (d : Nat) (hd : d ≤ 6) (f : Nat → List UInt8 → Option (V × List UInt8 × Nat)) (hmore : ∀ n l x l' n', f n l = some (x, l', n') → n < n') (hok : ∀ n l x l' n', f n l = some (x, l', n') → l'.length ≤ l.length ∧ n' ≤ 60)
    (hval : ∀ (k n : Nat) (W : World), PAt W g s k n → k ≤ s.size → n ≤ 60 → Calls Tryd.prog 48 #[.pointer (some ⟨g, 0, none⟩), .int .i64 ((d : Int) + 1)] W (VPost g s W (f n (sfx s k))))
    (k n : Nat) (w : World) (hP : PAt w g s k n) (hk : k ≤ s.size) (hn : n ≤ 60) :
    Calls Tryd.prog 69 #[.pointer (some ⟨g, 0, none⟩), .int .i64 d] w (VPost g s w ((seriesP (stepO f) 125 123 ([], []) n (sfx s k)).map fun q => (V.mk 5 0 ⟨#[]⟩ q.1.2 q.1.1, q.2))) := by
  have hg := hP.lt
  have HP := Lib.hid hP
  have HN := Lib.hid (show ∀ (args : Array Value) (W : World), (callFunc 88 args).run Tryd.prog W = .ok (.enter 88 args) W from enters_of Tryd.func88 (by kernel_rfl) rfl)
  have HS := Lib.hid fun (W : World) (hW : PAt W g s k n) (hI : OInv w g d ([], []) n W) => series_any (stepO f) 123 125 123 125 rfl rfl (OInv w g d) (fun W' => w.grownBy W' (some g)) g s 88 (some ⟨w.heap.size, 0, none⟩) (some ⟨w.heap.size + 1, 0, none⟩) (some ⟨w.heap.size + 3, 0, none⟩) HN.out
    (fun st k n W W' hI hW => hI.keep hg hW.1 (Nat.le_refl _)) (fun st n W W' hI hW => by obtain ⟨rowK, rowI, css, hI⟩ := hI; exact grow_trans hI.1 hW) (stepO_ok hok)
    (fun st k n W hI hP hk hn => item_object g s hs d hd f w hg hmore hok hval st k n W hI hP hk hn) hs ([], []) k n W hW hk hn hI
  clear hP hval hok
  have hmf : ∀ (fn : Fn) (first cap : Array Value) (w : World), (Instr.makeFunc fn first cap).run Tryd.prog w = .ok (.func fn first cap) w := fun _ _ _ _ => rfl
  go_enter Tryd.func69, Tryd.ntmps69
  go_wp2_with fail
  refine (HS.out _ ((((PAt.alloc HP.out _).alloc _).alloc _).alloc _) (object_start w g d n)).mono ?_
  intro e w2 hp
  rcases hst : seriesP (stepO f) 125 123 ([], []) n (sfx s k) with _ | ⟨acc, l, n'⟩
  · rw [hst] at hp
    obtain ⟨rfl, hp⟩ := hp
    refine ⟨rfl, ?_⟩
    rw [hst]
    exact ⟨rfl, hp⟩
  rw [hst] at hp
  obtain ⟨rfl, ⟨rowK, rowI, css, hI⟩, k', hk', hsk, hP'⟩ := hp
  obtain ⟨A, c, K, q, rfl, rfl, hres⟩ := object_result hI
  obtain ⟨hI1, hI2, hI3, hI4, hI5, hI6, hI7, hI8, hI9, hI10⟩ := hI
  have v0 : w2.cell? ⟨w.heap.size + 1 + 1 + 1, 0, none⟩ = some (.int .i64 5) := by simpa using hI7.cell 0
  have v1 : w2.cell? ⟨w.heap.size + 1 + 1 + 1, 1, none⟩ = some (.int .i64 0) := by simpa using hI7.cell 1
  have v2 : w2.cell? ⟨w.heap.size + 1 + 1 + 1, 2, none⟩ = some (.string ⟨#[]⟩) := by simpa using hI7.cell 2
  have v3 : w2.cell? ⟨w.heap.size + 1 + 1 + 1, 3, none⟩ = some (.slice A acc.2.length c) := by simpa using hI7.cell 3
  have v4 : w2.cell? ⟨w.heap.size + 1 + 1 + 1, 4, none⟩ = some (.slice K acc.1.length q) := by simpa using hI7.cell 4
  have z0 : w2.cell? ⟨w.heap.size + 1 + 1, 0, none⟩ = some (.int .i64 0) := by simpa [zeroF] using hI5.cell 0
  have z1 : w2.cell? ⟨w.heap.size + 1 + 1, 1, none⟩ = some (.int .i64 0) := by simpa [zeroF] using hI5.cell 1
  have z2 : w2.cell? ⟨w.heap.size + 1 + 1, 2, none⟩ = some (.string ⟨#[]⟩) := by simpa [zeroF] using hI5.cell 2
  have z3 : w2.cell? ⟨w.heap.size + 1 + 1, 3, none⟩ = some (.slice none 0 0) := by simpa [zeroF] using hI5.cell 3
  have z4 : w2.cell? ⟨w.heap.size + 1 + 1, 4, none⟩ = some (.slice none 0 0) := by simpa [zeroF] using hI5.cell 4
  have fz : ∀ i, w2.frozen? ⟨w.heap.size + 1 + 1, i, none⟩ = false := fun i => hI5.frozen i
  have g0 := fz 0
  have g1 := fz 1
  have g2 := fz 2
  have g3 := fz 3
  have g4 := fz 4
  have HR := Lib.hid hres
  have HW := Lib.hid (show Went g s k' n' w w2 from ⟨hI1, hP'⟩)
  clear hres hI1 hI2 hI3 hI4 hI5 hI6 hI7 hI8 hI9 hI10 hP' fz
  go_wp2_with fail
  refine bodyPost_ret (v := cellsOf (V.mk 5 0 ⟨#[]⟩ acc.2 acc.1) A c K q) (by simp [results, Tryd.results69, go_sem, cellsOf, V.kind, V.int, V.text, V.items, V.keys, z0, z1, z2, z3, z4]) rfl ?_
  rw [hst]
  refine ⟨A, c, K, q, k', rfl, HR.out _ (fun b h1 h2 => put5_heap w2 (w.heap.size + 1 + 1) 0 _ _ _ _ _ (by omega)) (Nat.le_of_eq (put5_size w2 (w.heap.size + 1 + 1) 0 _ _ _ _ _).symm), hk', hsk, ?_⟩
  exact ((((HW.out.set hg _ _ (by simp; omega)).set hg _ _ (by simp; omega)).set hg _ _ (by simp; omega)).set hg _ _ (by simp; omega)).set hg _ _ (by simp; omega)
end Go.Proofs.YtoddlacfbeckiaaDoor

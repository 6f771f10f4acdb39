/- The specification's sort: rows that are collected. -/
import Derived.Test.YtfiiaeomlmckfaaGreatDoorNa
import Derived.Test.YtfiiaeomlmckfaaGreatDoorMb
import Derived.Test.YtfiiaeomlmckfaaGreatDoorRk
import Derived.Deep.AppendLies
import Derived.Deep.RegionHeld3
namespace Go.Proofs.YtfiiaeomlmckfaaGreatDoor
open Go.RowKit

/-- Values collected in a row of the call's own; what hangs on them is elder. -/
structure Coll (w0 : World) (acc : List V) (rI : Value) (css : List (List Value)) (W : World) : Prop where
  old : Below w0.heap.size w0 W
  items : W.ownsRow w0.heap.size 35 5 rI acc.length css.flatten
  rows : RowsIn (fun b => b < w0.heap.size) W acc css
section
variable {w0 W W' w5 : World} {acc : List V} {rI : Value} {css : List (List Value)} {y : V} {A K : Option Addr} {c d g' cap : Nat}
theorem Coll.start (w0 : World) : Coll w0 [] (.slice none 0 0) [] w0 := ⟨Below.refl _ _, World.ownsRow_nil _ _ _ _, trivial⟩
theorem Coll.below (h : Coll w0 acc rI css W) (hb : Below W.heap.size W W') : Coll w0 acc rI css W' := by
  refine ⟨below_on h.old hb, World.ownsRow.kept h.items (grown_none hb) ?_, h.rows.keep (fun b o hlt => bcell hb b o (by have := h.old.size; omega)) fun _ h => h⟩
  cases rI.ownBlock
  · exact .inl rfl
  · exact .inr (by simp)
theorem Coll.push (h : Coll w0 acc rI css W) (hy : LiesIn (fun b => b < w0.heap.size) W y A c K d) (o : Obj) (hgrow : (W.alloc o).grownBy w5 rI.ownBlock)
    (hown : w5.ownsRow w0.heap.size 35 5 (.slice (some ⟨g', 0, none⟩) (acc.length + 1) cap) (acc.length + 1) (css.flatten ++ fieldsL y A c K d)) :
    Coll w0 (acc ++ [y]) (.slice (some ⟨g', 0, none⟩) (acc.length + 1) cap) (css ++ [fieldsL y A c K d]) w5 := by
  have hr := fun b hb => (World.ownsRow.lt h.items b hb).1
  have hs := h.old.size
  have hold : ∀ b, b < w0.heap.size → w5.heap[b]? = W.heap[b]? := fun b hb => by
    rw [hgrow.block b (by simp; omega) (fun e => by have := hr b e.symm; omega), Below.heap_alloc _ _ _ (by omega)]
  have hk : ∀ b o, b < w0.heap.size → w5.cell? ⟨b, o, none⟩ = W.cell? ⟨b, o, none⟩ := fun b o hb => World.cell?_of_block (hold b hb)
  refine ⟨⟨hgrow.os.trans h.old.os, hgrow.tape.trans h.old.tape, hgrow.output.trans h.old.output, ?_, fun b hb => (hold b hb).trans (h.old.block b hb)⟩, ?_, ?_⟩
  · have := hgrow.size; simp at this; omega
  · rw [List.length_append, List.flatten_append]; simpa [fieldsL] using hown
  · exact RowsIn.append (ys := [y]) (dss := [fieldsL y A c K d]) ⟨⟨_, _, _, _, rfl, LiesIn.keep (fun b o hb => hk b o hb) (fun _ h => h) y hy⟩, trivial⟩ (h.rows.keep (fun b o hb => hk b o hb) fun _ h => h)
theorem Coll.done (h : Coll w0 acc rI css W) : ∃ A c, rI = .slice A acc.length c ∧ LiesL W W.heap.size A c acc := by
  have hr : RowsIn (fun b => b < W.heap.size) W acc css := h.rows.keep (fun _ _ _ => rfl) (fun b hb => by have := h.old.size; omega)
  obtain ⟨A, c, rfl, h1, h2, h3⟩ := rows_lie hr h.items (fun b hb => (World.ownsRow.lt h.items b hb).2)
  refine ⟨A, c, rfl, h1, h2, h3.imp id ?_⟩
  rintro ⟨b, o, hA, hb, hf⟩
  exact ⟨b, o, hA, hb, LiesFromIn.lies (fun _ h => h) _ hf⟩
end
mutual
theorem Lies.inn {w : World} {B : Nat} : ∀ (x : V) {A c K d}, Lies w B x A c K d → LiesIn (fun b => b < B) w x A c K d
  | .mk _ _ _ items _, _, _, _, _, h => by
    obtain ⟨h1, h2, h3, h4, h5⟩ := h
    refine ⟨h1, h2, h3, ⟨h4.1, h4.2.1, h4.2.2⟩, h5.imp id ?_⟩
    rintro ⟨b, o, hA, hb, hf⟩
    exact ⟨b, o, hA, hb, LiesFrom.inn items hf⟩
theorem LiesFrom.inn {w : World} {B : Nat} : ∀ (l : List V) {b o}, LiesFrom w B l b o → LiesFromIn (fun b => b < B) w l b o
  | [], _, _, _ => trivial
  | x :: r, b, o, h => by
    obtain ⟨⟨A, c, K, d, e0, e1, e2, e3, e4, hx⟩, hr⟩ := h
    exact ⟨⟨A, c, K, d, e0, e1, e2, e3, e4, Lies.inn x hx⟩, LiesFrom.inn r hr⟩
end
theorem LiesL.on {w w' : World} {A : Option Addr} {c : Nat} {l : List V} (h : LiesL w w.heap.size A c l) (hb : Below w.heap.size w w') : LiesL w' w'.heap.size A c l := h.keep (bcell hb) hb.size
theorem LiesL.low {w w' : World} {A : Option Addr} {c : Nat} {l : List V} (h : LiesL w w.heap.size A c l) (hb : Below w.heap.size w w') : LiesL w' w.heap.size A c l := h.keep (bcell hb) (Nat.le_refl _)
theorem LiesL.elem {w : World} {B : Nat} {A : Option Addr} {c k : Nat} {l : List V} {y : V} (h : LiesL w B A c l) (hy : l[k]? = some y) :
    ∃ b o A' c' K' d', A = some ⟨b, o, none⟩ ∧ b < B ∧ (w.cell? ⟨b, o + k * 5, none⟩ = some (.int .i64 y.kind) ∧ w.cell? ⟨b, o + k * 5 + 1, none⟩ = some (.int .i64 y.int) ∧ w.cell? ⟨b, o + k * 5 + 2, none⟩ = some (.string y.text) ∧
      w.cell? ⟨b, o + k * 5 + 3, none⟩ = some (.slice A' y.items.length c') ∧ w.cell? ⟨b, o + k * 5 + 4, none⟩ = some (.slice K' y.keys.length d')) ∧ Lies w B y A' c' K' d' := by
  have hk : k < l.length := (List.getElem?_eq_some_iff.1 hy).1
  obtain ⟨b, o, hA, hb, hf⟩ := h.at_ hk
  obtain ⟨A', c', K', d', e0, e1, e2, e3, e4, hl⟩ := hf.at_ hy
  exact ⟨b, o, A', c', K', d', hA, hb, ⟨e0, e1, e2, e3, e4⟩, hl⟩

set_option maxRecDepth 100000 in
set_option maxHeartbeats 1000000 in
theorem allValid_any (l : List V) (w : World) (A : Option Addr) (c : Nat) (h : LiesL w w.heap.size A c l) :
    Calls Tryz.prog 11 #[.slice A l.length c] w fun e w' => e = .returned (.bool (l.all V.valid)) ∧ Below w.heap.size w w' := by
  have HL := Lib.hid h
  obtain ⟨n, hn⟩ : ∃ n, n = l.length := ⟨_, rfl⟩
  have HN := Lib.hid hn
  have hnb : n ≤ 9223372036854775807 := by have := h.1; have := h.2.1; unfold maxLen at *; omega
  rw [← hn]
  clear h hn
  go_enter Tryz.func11, Tryz.ntmps11
  go_wp2_with fail
  go_loopw [3] (fun iv wr => ∃ k : Nat, k ≤ n ∧ iv = .int .i64 k ∧ Hid ((l.take k).all V.valid = true) ∧ Hid (Below w.heap.size w wr)) (fun iv _ => n - (intOf iv).toNat)
  case atStart => exact ⟨0, Nat.zero_le _, rfl, Lib.hid rfl, Lib.hid (Below.refl _ _)⟩
  case round =>
    obtain ⟨k, hk, rfl, HV, HB⟩ := hrel
    have hk0 : 0 ≤ (k : Int) := by omega
    by_cases hlt : k < n
    · have hkn : (k : Int) < n := by omega
      obtain ⟨y, hy⟩ : ∃ y, l[k]? = some y := ⟨_, List.getElem?_eq_getElem (by have := HN.out; omega)⟩
      obtain ⟨b, o, Ay, cy, Ky, dy, rfl, hbB, ⟨e0, e1, e2, e3, e4⟩, hly⟩ := (HL.out.on HB.out).elem hy
      have HC := Lib.hid (refValid_any y wr Ay Ky cy dy hly)
      have HT := Lib.hid (show (l.take (k + 1)).all V.valid = y.valid by rw [List.take_add_one, hy, List.all_append, HV.out]; simp)
      clear hy hly hlt
      cases hv : y.valid
      · rw [hv] at HC HT
        clear hv
        go_wp2_with fail
        refine HC.out.mono ?_
        rintro e w1 ⟨rfl, hb⟩
        have HB2 := Lib.hid (below_on HB.out hb)
        clear hb e0 e1 e2 e3 e4
        go_wp2_with fail
        go_ret
        refine ⟨ret_bool ?_, HB2.out⟩
        symm
        rw [Bool.eq_false_iff]
        intro he
        have h1 := HT.out
        rw [List.all_eq_true] at he
        rw [Bool.eq_false_iff] at h1
        exact h1 (List.all_eq_true.2 fun x hx => he x (List.mem_of_mem_take hx))
      · rw [hv] at HC HT
        clear hv
        go_wp2_with fail
        refine HC.out.mono ?_
        rintro e w1 ⟨rfl, hb⟩
        have HB2 := Lib.hid (below_on HB.out hb)
        clear hb e0 e1 e2 e3 e4
        go_wp2_with fail
        go_roundw
        case rel => exact ⟨k + 1, by omega, by go_num, HT, HB2⟩
        case measure => simp [intOf]; omega
    · have hkn : ¬ ((k : Int) < n) := by omega
      go_wp2_with fail
      go_ret
      refine ⟨ret_bool ?_, HB.out⟩
      have h := HV.out
      rw [List.take_of_length_le (by have := HN.out; omega)] at h
      exact h.symm
end Go.Proofs.YtfiiaeomlmckfaaGreatDoor

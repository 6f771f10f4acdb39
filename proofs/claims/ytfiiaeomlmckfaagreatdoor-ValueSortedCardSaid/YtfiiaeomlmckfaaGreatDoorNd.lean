/- The program's Sort, walked. -/
import Derived.Test.YtfiiaeomlmckfaaGreatDoorNc
import Derived.Test.YtfiiaeomlmckfaaGreatDoorShelf
namespace Go.Proofs.YtfiiaeomlmckfaaGreatDoor
open Go.RowKit

set_option maxHeartbeats 2000000 in
theorem insertion_none (p : Option Addr) (cap : Nat) (fv : Value) (w : World) : Calls Tryz.prog 57 #[.slice p 0 cap, .int .i64 0, .int .i64 0, fv] w fun e w' => e = .returned (.tuple #[]) ∧ w' = w := by
  go_enter Tryz.func57, Tryz.ntmps57
  go_wp2
  refine wp_loop_rounds 1 ?_
  rw [rounds_succ]
  go_wp2
  go_end0
  exact ⟨rfl, rfl⟩
set_option maxRecDepth 100000 in
set_option maxHeartbeats 2000000 in
theorem pdq_none (p : Option Addr) (cap : Nat) (lim : Int) (fv : Value) (w : World) : Calls Tryz.prog 38 #[.slice p 0 cap, .int .i64 0, .int .i64 0, .int .i64 lim, fv] w fun e w' => e = .returned (.tuple #[]) ∧ w' = w := by
  go_enter Tryz.func38, Tryz.ntmps38
  go_wp2_with fail
  refine wp_loop_rounds 1 ?_
  rw [rounds_succ]
  go_wp2_with (go_at_call 57; refine (insertion_none _ _ _ _).mono ?_; rintro e w' ⟨rfl, rfl⟩)
  (try simp only [Exit.inBlock, Exit.then]); refine bodyPost_ret (results_none rfl _ _ _) rfl ?_
  exact ⟨rfl, rfl⟩
set_option maxHeartbeats 2000000 in
theorem sort_none (p : Option Addr) (cap : Nat) (fv : Value) (w : World) : Calls Tryz.prog 24 #[.slice p 0 cap, fv] w fun e w' => e = .returned (.tuple #[]) ∧ w' = w := by
  have hl : ∀ W, Calls Tryz.prog 39 #[.int .u64 0] W fun e w' => e = .returned (.int .i64 (Lib.bitLen 0 : Nat)) ∧ w' = W := fun W => Tryz.bits_Len 0 W (by omega) (by omega)
  go_enter Tryz.func24, Tryz.ntmps24
  go_wp2_with (first | (go_at_call 39; refine (hl _).mono ?_; rintro e w' ⟨rfl, rfl⟩) | (go_at_call 38; refine (pdq_none _ _ _ _ _).mono ?_; rintro e w' ⟨rfl, rfl⟩))
  go_end0
  exact ⟨rfl, rfl⟩

/-- What Sort answers. -/
def SortPost (l : List V) (w : World) (e : Ending) (w' : World) : Prop :=
  if l.all V.valid = true then ∃ v, e = .returned (.tuple #[v, .int .i64 0]) ∧ RowPost (sortV l) v w w' else e = .returned (.tuple #[.slice none 0 0, .int .i64 1]) ∧ Below w.heap.size w w'
theorem nodes60 {x : V} (h : x.valid = true) : x.nodes ≤ 60 := by unfold V.valid V.fits at h; simp at h; exact h.1.2
theorem copies_any : ∀ (N : Nat) (l : List V), V.nodesL l ≤ N → l.length ≤ 1000 → (∀ x ∈ l, x.ok = true ∧ x.nodes ≤ 60) → ∀ (w : World) (A : Option Addr) (c : Nat), LiesL w w.heap.size A c l → Calls Tryz.prog 23 #[.slice A l.length c] w (CopiesPost l w)
  | 0, [], _, _, _, w, A, c, _ => copies_nil A c w
  | 0, x :: r, h, _, _, _, _, _, _ => by have := V.nodes_pos x; simp [V.nodesL] at h; omega
  | N + 1, [], _, _, _, w, A, c, _ => copies_nil A c w
  | N + 1, x :: r, hN, hl, hx, w, A, c, h => copies_step (x :: r) w A c hl (by simp) hx h fun y hy W A c h' => by
    have h1 := V.nodes_mem hy
    have h2 := nodes_items y
    have h3 := length_le_nodesL y.items
    have h4 := (hx y hy).2
    exact copies_any N y.items (by omega) (by omega) (fun z hz => ⟨okItems (hx y hy).1 z hz, by have := V.nodes_mem hz; omega⟩) W A c h'
theorem sort_post {l : List V} {v : Value} {w w1 w2 : World} {g : Nat} {css' : List (List Value)} (hw : Below w.heap.size w w1) (hg : w.heap.size ≤ g) (hr : RowsIn (fun b => g < b ∧ b < w2.heap.size) w2 (sortV l) css') (hb : BlockIs w2 g 35 css'.flatten.toArray) (hgr : w1.grownBy w2 (some g)) (hv : v = .slice (some ⟨g, 0, none⟩) l.length l.length) : RowPost (sortV l) v w w2 := by
  have hl : (sortV l).length = l.length := (sortV_perm l).length_eq
  refine .inr ⟨g, css', by rw [hv, hl], hg, hb.lt, hr, hb, ?_⟩
  exact hw.trans (below_grow hgr hw.size (fun r hr => by cases hr; exact hg))

theorem all_take {l : List V} {k : Nat} {y : V} (hy : l[k]? = some y) (h : (l.take k).all V.valid = true) : (l.take (k + 1)).all V.valid = y.valid := by
  rw [List.take_add_one, hy, List.all_append, h]
  simp
theorem all_no {l : List V} {k : Nat} (h : (l.take (k + 1)).all V.valid = false) : l.all V.valid = false := by
  rw [Bool.eq_false_iff] at h ⊢
  intro he
  apply h
  rw [List.all_eq_true] at he ⊢
  exact fun x hx => he x (List.mem_of_mem_take hx)
set_option maxRecDepth 100000 in
set_option maxHeartbeats 4000000 in
theorem progSort_any (l : List V) (w : World) (A : Option Addr) (c : Nat) (hl : l.length ≤ 1000) (h : LiesL w w.heap.size A c l) :
    Calls Tryz.prog 6 #[.slice A l.length c] w (SortPost l w) := by
  have HL := Lib.hid h
  obtain ⟨n, hn⟩ : ∃ n, n = l.length := ⟨_, rfl⟩
  have HN := Lib.hid hn
  have hnb : n ≤ 1000 := by omega
  rw [← hn]
  clear h hl hn
  go_enter Tryz.func6, Tryz.ntmps6
  go_wp2_with fail
  go_loopw [9] (fun iv wr => ∃ k : Nat, k ≤ n ∧ iv = .int .i64 k ∧ Hid ((l.take k).all V.valid = true) ∧ Hid (Below w.heap.size w wr)) (fun iv _ => n - (intOf iv).toNat)
  case atStart => exact ⟨0, Nat.zero_le _, rfl, Lib.hid rfl, Lib.hid (Below.refl _ _)⟩
  case round =>
    obtain ⟨k, hk, rfl, HV, HB⟩ := hrel
    have hk0 : 0 ≤ (k : Int) := by omega
    by_cases hlt : k < n
    · have hkn : (k : Int) < n := by omega
      obtain ⟨y, hy⟩ : ∃ y, l[k]? = some y := ⟨_, List.getElem?_eq_getElem (by have := HN.out; omega)⟩
      rcases HL.out.2.2 with hnil | ⟨b, o, rfl, hbB, hf⟩
      · rw [hnil] at hy; simp at hy
      obtain ⟨Ay, cy, Ky, dy, e0, e1, e2, e3, e4, hly⟩ := (LiesFrom.keep (bcell HB.out) HB.out.size l hbB hf).at_ hy
      have HY := Lib.hid hy
      have HLY := Lib.hid (lies_alloc (w := wr) hly (.cells #[.int .i64 y.kind, .int .i64 y.int, .string y.text, .slice Ay y.items.length cy, .slice Ky y.keys.length dy] 35))
      have HC := Lib.hid (valid_any y _ Ay Ky cy dy HLY.out)
      have HT := Lib.hid (all_take hy HV.out)
      clear hy hf hly hlt hk
      cases hv : y.valid
      · rw [hv] at HC HT
        clear hv
        go_wp2_with fail
        refine HC.out.mono ?_
        rintro e w1 ⟨rfl, hb⟩
        have HB2 := Lib.hid (below_on (below_al HB.out _) hb)
        clear hb e0 e1 e2 e3 e4
        go_wp2_with fail
        go_ret2
        have hno := all_no HT.out
        show SortPost l w _ _
        unfold SortPost
        rw [if_neg (by rw [hno]; simp)]
        exact ⟨rfl, HB2.out⟩
      · rw [hv] at HC HT
        clear hv
        go_wp2_with fail
        refine HC.out.mono ?_
        rintro e w1 ⟨rfl, hb⟩
        have HB2 := Lib.hid (below_on (below_al HB.out _) hb)
        clear hb e0 e1 e2 e3 e4
        go_wp2_with fail
        go_roundw
        case rel => exact ⟨k + 1, by omega, by go_num, HT, HB2⟩
        case measure => simp [intOf]; omega
    · have hkn : ¬ ((k : Int) < n) := by omega
      have hall : l.all V.valid = true := by
        have h := HV.out
        rw [List.take_of_length_le (by have := HN.out; omega)] at h
        exact h
      have HALL := Lib.hid hall
      have hx : ∀ x ∈ l, x.ok = true ∧ x.nodes ≤ 60 := fun x hx => by
        have := List.all_eq_true.1 hall x hx
        exact ⟨valid_ok this, nodes60 this⟩
      have HX := Lib.hid hx
      have HCP := Lib.hid (copies_any (V.nodesL l) l (Nat.le_refl _) (by have := HN.out; omega) hx wr A c (HL.out.keep (bcell HB.out) HB.out.size))
      rw [← HN.out] at HCP
      clear hall hx HV hkn hk
      go_wp2_with fail
      refine HCP.out.mono ?_
      rintro e w1 ⟨v, rfl, hp⟩
      rcases hp with ⟨h0, rfl, hb⟩ | ⟨g, css, rfl, h1, h2, h3, h4, h5⟩
      · have hn0 : n = 0 := by rw [HN.out, h0]; rfl
        have HB2 := Lib.hid (below_on HB.out hb)
        have H0 := Lib.hid h0
        clear hb HCP h0
        go_wp2_with (go_at_call 24; refine (sort_none _ _ _ _).mono ?_; rintro e w' ⟨rfl, rfl⟩)
        go_ret2
        show SortPost l w _ _
        unfold SortPost
        rw [if_pos HALL.out]
        exact ⟨_, rfl, .inl ⟨by rw [H0.out]; simp [sortV], rfl, HB2.out⟩⟩
      · have HS := Lib.hid (sort_row w1 g l.length css l h3 h4 (fun x hx => (HX.out x hx).1) (by have := HN.out; omega))
        rw [← HN.out] at HS ⊢
        have HB2 := Lib.hid (below_on HB.out h5)
        have HG := Lib.hid (show w.heap.size ≤ g by have := HB.out.size; omega)
        clear h1 h2 h3 h4 h5 HCP
        go_wp2_with (go_at_call 24; refine HS.out.mono ?_; rintro e w' ⟨rfl, css', hr, hbk, hgr⟩)
        go_ret2
        show SortPost l w _ _
        unfold SortPost
        rw [if_pos HALL.out]
        exact ⟨_, rfl, sort_post HB2.out HG.out hr hbk hgr (by first | rfl | (rw [HN.out]; rfl))⟩
end Go.Proofs.YtfiiaeomlmckfaaGreatDoor

/- PROVED: for every two values and every path the law VariantRemoved (Remove takes out what Put laid where nothing was) returns true and leaves its arguments as they read before; the card ties the listed tables of the library to the program's text. Conditions: those of the given row alone (the tables hold what their initialisers lay). -/
import Derived.Test.YtdlmphbaolejcaaDoorTm
import Derived.Test.YtdlmphbaolejcaaDoorTq
import Derived.Test.YtdlmphbaolejcaaDoorVo
import Derived.Test.YtdlmphbaolejcaaDoorYe
import Derived.Test.YtdlmphbaolejcaaDoorZc
import Derived.Test.YtdlmphbaolejcaaDoorZr
namespace Go.Proofs.YtdlmphbaolejcaaDoor
open Go.RowKit

theorem item_find {x y : V} {s : Stp} (h : itemV x s = some y) : (findV x s).2 = true ∧ x.items[whereV x s]? = some y := by
  obtain ⟨i, k⟩ := s
  unfold itemV at h
  by_cases h0 : 0 ≤ i
  · rw [if_pos h0] at h
    split at h
    · rename_i h4
      have hlt := (List.getElem?_eq_some_iff.1 h).1
      refine ⟨by simp [findV, h0, h4]; simp only at hlt; omega, ?_⟩
      simp [whereV, findV, h0]
      exact h
    · cases h
  · rw [if_neg h0] at h
    split at h
    · rename_i hh
      refine ⟨by simp [findV, h0]; exact hh, ?_⟩
      simp [whereV, findV, h0]
      exact h
    · cases h
theorem item_none {x : V} {s : Stp} (hok : x.ok = true) (h : itemV x s = none) : (findV x s).2 = false := by
  cases h2 : (findV x s).2 with
  | false => rfl
  | true =>
    obtain ⟨_, _, _, _, h3⟩ := find_item hok h2
    rw [h] at h3
    cases h3
theorem find_set (x y : V) (n : Nat) (s : Stp) : findV (setIt x n y) s = findV x s := by
  simp [findV, setIt_kind, setIt_items, setIt_keys]
  rfl
theorem kind_of {x : V} {s : Stp} (h : ¬ x.kind = 0) : kindV x s = x := by unfold kindV; rw [if_neg h]
theorem put_last {x z : V} {s : Stp} (hok : x.ok = true) (h45 : x.kind = 4 ∨ x.kind = 5) (hn : itemV x s = none) (hp : (putV x [s] z).2 = 0) : removeV (putV x [s] z).1 [s] = (x, true) := by
  have h0 : ¬ x.kind = 0 := by omega
  have hf := fit_of hok
  have hfn := item_none hok hn
  rw [putV, kind_of h0] at hp ⊢
  split at hp
  · simp at hp
  · rename_i hk
    split at hp
    · simp at hp
    · rename_i hl
      rw [if_neg hk, if_neg hl]
      have hk' : x.kind = holderS s := by simpa using hk
      have hle := where_le hf hk' hl
      have hr : roomV x s = .mk x.kind x.int x.text (x.items.take (whereV x s) ++ nullV :: x.items.drop (whereV x s)) (if x.kind = 5 then x.keys.take (whereV x s) ++ s.2 :: x.keys.drop (whereV x s) else x.keys) := by rw [roomV, if_neg (by simp [hfn])]
      have hl1 : (x.items.take (whereV x s)).length = whereV x s := by rw [List.length_take]; omega
      have hX : setIt (roomV x s) (whereV x s) (putV ((roomV x s).items.getD (whereV x s) nullV) [] z).1 = .mk x.kind x.int x.text (x.items.take (whereV x s) ++ z :: x.items.drop (whereV x s)) (if x.kind = 5 then x.keys.take (whereV x s) ++ s.2 :: x.keys.drop (whereV x s) else x.keys) := by
        rw [hr]
        simp only [setIt, mkK, mkN, mkT, mkI, mkY, putV]
        rw [List.set_append]
        simp [hl1]
      show removeV (setIt (roomV x s) (whereV x s) (putV ((roomV x s).items.getD (whereV x s) nullV) [] z).1) [s] = _
      rw [hX]
      have hw : findV (.mk x.kind x.int x.text (x.items.take (whereV x s) ++ z :: x.items.drop (whereV x s)) (if x.kind = 5 then x.keys.take (whereV x s) ++ s.2 :: x.keys.drop (whereV x s) else x.keys)) s = (((whereV x s : Nat) : Int), true) := by
        obtain ⟨i, k⟩ := s
        by_cases hi : 0 ≤ i
        · have h4 : x.kind = 4 := by rw [hk', holderS, if_neg (by simp only; omega)]
          have hwi : whereV x (i, k) = i.toNat := by simp [whereV, findV, hi]
          unfold findV
          rw [if_pos hi]
          simp only [mkK, mkI, h4, List.length_append, List.length_cons, List.length_take, List.length_drop, hwi] at *
          simp
          omega
        · have h5 : x.kind = 5 := by rw [hk', holderS, if_pos (by simp only; omega)]
          have hwk : whereV x (i, k) = posK k x.keys := by simp [whereV, findV, hi]
          have hnm : ¬ k ∈ x.keys := fun e => by simp [findV, hi, (hasK_iff _ _).2 e] at hfn
          have hle2 := posK_le k x.keys
          unfold findV
          rw [if_neg hi]
          simp only [mkY, if_pos h5, hwk]
          have hat : (x.keys.take (posK k x.keys) ++ k :: x.keys.drop (posK k x.keys))[posK k x.keys]? = some k := by
            rw [List.getElem?_append_right (by rw [List.length_take]; omega), List.length_take, Nat.min_eq_left hle2, Nat.sub_self]
            rfl
          rw [posK_at (rising_ins hf.rise hnm) hat, (hasK_iff _ _).2 (List.mem_of_getElem? hat)]
      rw [removeV, hw, if_pos rfl, if_pos rfl, delV]
      have hw2 : whereV (.mk x.kind x.int x.text (x.items.take (whereV x s) ++ z :: x.items.drop (whereV x s)) (if x.kind = 5 then x.keys.take (whereV x s) ++ s.2 :: x.keys.drop (whereV x s) else x.keys)) s = whereV x s := by
        show (findV _ s).1.toNat = whereV x s
        rw [hw]; rfl
      rw [hw2]
      simp only [mkK, mkN, mkT, mkI, mkY]
      rw [cut_ins hle]
      have hkeys : (if x.kind = 5 then (if x.kind = 5 then x.keys.take (whereV x s) ++ s.2 :: x.keys.drop (whereV x s) else x.keys).take (whereV x s) ++ (if x.kind = 5 then x.keys.take (whereV x s) ++ s.2 :: x.keys.drop (whereV x s) else x.keys).drop (whereV x s + 1) else (if x.kind = 5 then x.keys.take (whereV x s) ++ s.2 :: x.keys.drop (whereV x s) else x.keys)) = x.keys := by
        by_cases h5 : x.kind = 5
        · simp only [if_pos h5]
          exact cut_ins (by rw [hf.five h5]; exact hle) _
        · simp only [if_neg h5]
      have hend : ∀ ks, ks = x.keys → (V.mk x.kind x.int x.text x.items ks, true) = (x, true) := fun ks e => by rw [e, mk_eta]
      exact hend _ hkeys
theorem put_remove (s : Stp) (z : V) : ∀ (q : List Stp) (x y : V), x.ok = true → atV x q = some y → (y.kind = 4 ∨ y.kind = 5) → itemV y s = none → (putV x (q ++ [s]) z).2 = 0 → removeV (putV x (q ++ [s]) z).1 (q ++ [s]) = (x, true)
  | [], x, y, hok, hy, h45, hn, h0 => by
    obtain rfl : x = y := Option.some.inj hy
    exact put_last hok h45 hn h0
  | a :: q, x, y, hok, hy, h45, hn, h0 => by
    rw [atV] at hy
    cases hi : itemV x a with
    | none => rw [hi] at hy; cases hy
    | some y1 =>
      rw [hi] at hy
      obtain ⟨hft, hiw⟩ := item_find hi
      have hf := fit_of hok
      have hk : x.kind = holderS a := by
        obtain ⟨i, k⟩ := a
        by_cases hi0 : 0 ≤ i
        · simp [findV, hi0] at hft
          rw [holderS, if_neg (by simp only; omega)]; exact hft.1
        · rw [holderS, if_pos (by simp only; omega)]
          simp [findV, hi0] at hft
          have hm := (hasK_iff _ _).1 hft
          by_cases h5 : x.kind = 5
          · exact h5
          · rw [hf.none h5] at hm; cases hm
      have hk0 : ¬ x.kind = 0 := by rw [hk, holderS]; split <;> omega
      have hroom : roomV x a = x := by rw [roomV, if_pos hft]
      have hget : x.items.getD (whereV x a) nullV = y1 := by rw [List.getD_eq_getElem?_getD, hiw]; rfl
      have hlt : whereV x a < x.items.length := (List.getElem?_eq_some_iff.1 hiw).1
      rw [List.cons_append] at h0 ⊢
      rw [putV, kind_of hk0] at h0 ⊢
      split at h0
      · simp at h0
      · rename_i hk2
        split at h0
        · simp at h0
        · rename_i hl
          rw [if_neg hk2, if_neg hl]
          rw [hroom, hget] at h0 ⊢
          have ih := put_remove s z q y1 y (okItems hok y1 (item_mem hi)) hy h45 hn h0
          show removeV (setIt x (whereV x a) (putV y1 (q ++ [s]) z).1) (a :: (q ++ [s])) = _
          have hws : whereV (setIt x (whereV x a) (putV y1 (q ++ [s]) z).1) a = whereV x a := by unfold whereV; rw [find_set]
          rw [removeV, find_set, if_pos hft, if_neg (by simp), hws]
          have hg2 : (setIt x (whereV x a) (putV y1 (q ++ [s]) z).1).items.getD (whereV x a) nullV = (putV y1 (q ++ [s]) z).1 := by
            rw [setIt_items, List.getD_eq_getElem?_getD, List.getElem?_set_self hlt]; rfl
          rw [hg2, ih]
          have : setIt (setIt x (whereV x a) (putV y1 (q ++ [s]) z).1) (whereV x a) y1 = x := by
            unfold setIt
            simp only [mkK, mkN, mkT, mkI, mkY]
            rw [List.set_set]
            have e : x.items.set (whereV x a) y1 = x.items := by
              rw [List.getElem?_eq_some_iff] at hiw
              obtain ⟨h1, h2⟩ := hiw
              rw [← h2]
              exact List.set_getElem_self h1
            rw [e, mk_eta]
          rw [this]
end Go.Proofs.YtdlmphbaolejcaaDoor
namespace Go.Proofs.YtdlmphbaolejcaaDoor
open Go.RowKit

theorem getV_is {x : V} {q : List Stp} (hx : x.valid = true) (hq : pathB q = true) : ∃ a is, getV x q = (a, is, 0) ∧ (is = true → atV x q = some a) ∧ (is = false → atV x q = none) := by
  unfold getV
  rw [if_pos (by rw [hx, hq]; rfl)]
  cases atV x q with
  | none => exact ⟨_, _, rfl, fun h => by simp at h, fun _ => rfl⟩
  | some y => exact ⟨_, _, rfl, fun _ => rfl, fun h => by simp at h⟩
theorem pathB_take {p : List Stp} (h : pathB p = true) (n : Nat) : pathB (p.take n) = true := by
  unfold pathB at h ⊢
  rw [Bool.and_eq_true] at h ⊢
  refine ⟨?_, ?_⟩
  · have := h.1
    simp only [decide_eq_true_eq] at this ⊢
    rw [List.length_take]; omega
  · rw [List.all_eq_true] at h ⊢
    exact fun s hs => h.2 s (List.mem_of_mem_take hs)
theorem at_append : ∀ (q : List Stp) (s : Stp) {x y : V}, atV x q = some y → atV x (q ++ [s]) = itemV y s
  | [], s, x, y, h => by
    obtain rfl : x = y := Option.some.inj h
    show (match itemV x s with | none => none | some u => some u) = itemV x s
    cases itemV x s <;> rfl
  | a :: q, s, x, y, h => by
    rw [atV] at h
    rw [List.cons_append, atV]
    cases hi : itemV x a with
    | none => rw [hi] at h; cases h
    | some y1 =>
      rw [hi] at h
      exact at_append q s h
theorem rem_law {x y z u : V} {p : List Stp} {m : Nat} (hm : p.length = m + 1) (hp : pathB p = true) (hx : x.valid = true) (h1 : atV x (p.take m) = some y) (h2 : atV x p = none) (h45 : y.kind = 4 ∨ y.kind = 5) (h : putOut x p z = (u, 0)) : remOut u p = (x, 0) := by
  have hne : p ≠ [] := fun e => by rw [e] at hm; simp at hm
  obtain ⟨q, s, rfl⟩ : ∃ q s, p = q ++ [s] := ⟨p.dropLast, p.getLast hne, (List.dropLast_concat_getLast hne).symm⟩
  have hq : m = q.length := by rw [List.length_append] at hm; simp at hm; omega
  rw [hq, List.take_left] at h1
  rw [at_append q s h1] at h2
  unfold putOut at h
  split at h
  · split at h
    · rename_i h0
      split at h
      · rename_i hy
        have e : u = (putV x (q ++ [s]) z).1 := (Prod.mk.inj h).1.symm
        rw [← e] at hy
        have hr := put_remove s z q x y (valid_nodes hx).1 h1 h45 h2 h0
        rw [← e] at hr
        unfold remOut
        rw [if_pos (by rw [hy, hp]; rfl), if_neg hne, hr]
        rfl
      · have := (Prod.mk.inj h).2; simp at this
    · rename_i h0
      exact absurd (Prod.mk.inj h).2 h0
  · have := (Prod.mk.inj h).2; simp at this
theorem GetPost.form3 {x y : V} {p : List Stp} {b : Bool} {n : Int} (hy : getV x p = (y, b, n)) {w w' : World} {e : Ending} (h : GetPost x p w e w') :
    ∃ A c K d, e = .returned (.tuple #[.agg #[.int .i64 y.kind, .int .i64 y.int, .string y.text, .slice A y.items.length c, .slice K y.keys.length d], .bool b, .int .i64 n]) ∧ Lies w' w'.heap.size y A c K d ∧ Below w.heap.size w w' := by
  unfold GetPost at h
  rw [hy] at h
  exact h
theorem steps_take {w : World} {b : Nat} : ∀ (m : Nat) {l : List Stp} {o : Nat}, StepsFrom w l b o → StepsFrom w (l.take m) b o
  | 0, _, _, _ => trivial
  | _ + 1, [], _, _ => trivial
  | m + 1, _ :: _, _, h => ⟨h.1, h.2.1, h.2.2.1, steps_take m h.2.2.2⟩
theorem plies_take {w : World} {B c : Nat} {A : Option Addr} {p : List Stp} (h : PLies w B A c p) (m : Nat) : PLies w B A c (p.take m) := by
  obtain ⟨h1, h2, h3⟩ := h
  refine ⟨by rw [List.length_take]; omega, h2, ?_⟩
  rcases h3 with rfl | ⟨b, o, hA, hlt, hf⟩
  · exact .inl (by simp)
  · exact .inr ⟨b, o, hA, hlt, steps_take m hf⟩
theorem refPathValid_so (p : List Stp) (w : World) (A : Option Addr) (c : Nat) (h : PLies w w.heap.size A c p) {r : Bool} (hr : pathB p = r) :
    Calls Tryd.prog 24 #[.slice A p.length c] w fun e w' => e = .returned (.bool r) ∧ Below w.heap.size w w' := by
  subst hr
  exact (refPathValid_any p w A c h).mono (by rintro e w' ⟨rfl, rfl⟩; exact ⟨rfl, Below.refl _ _⟩)
theorem refValid_so (x : V) (w : World) (A K : Option Addr) (c d : Nat) (h : Lies w w.heap.size x A c K d) {r : Bool} (hr : x.valid = r) :
    Calls Tryd.prog 23 #[.agg #[.int .i64 x.kind, .int .i64 x.int, .string x.text, .slice A x.items.length c, .slice K x.keys.length d]] w fun e w' => e = .returned (.bool r) ∧ Below w.heap.size w w' := by
  subst hr
  exact refValid_any x w A K c d h
/-- The boxes of the law: the value, what is laid. -/
structure QL (w : World) (cv cx : Array Value) (W : World) : Prop where
  old : Below w.heap.size w W
  bv : BlockIs W w.heap.size 25 cv
  bx : BlockIs W (w.heap.size + 1) 25 cx
section
variable {w W W' : World} {cv cx : Array Value} {g : Nat} {y : V} {A K : Option Addr} {c d : Nat}
theorem QL.start (w : World) (cv cx : Array Value) : QL w cv cx ((w.alloc (.cells cv 25)).alloc (.cells cx 25)) := ⟨below_al (below_al (Below.refl _ w) _) _, (BlockIs.new w _ _).alloc _, BlockIs.newAt _ _ _ (by simp)⟩
theorem QL.on (h : QL w cv cx W) (hb : Below W.heap.size W W') : QL w cv cx W' := ⟨below_on h.old hb, h.bv.below hb h.bv.lt, h.bx.below hb h.bx.lt⟩
/-- And a value of which there is a box. -/
structure QX (g : Nat) (y : V) (A : Option Addr) (c : Nat) (K : Option Addr) (d : Nat) (W : World) : Prop where
  box : Boxed W g y A c K d
  lies : Lies W W.heap.size y A c K d
theorem QX.start (h : Lies W W.heap.size y A c K d) : QX W.heap.size y A c K d (W.alloc (.cells #[.int .i64 y.kind, .int .i64 y.int, .string y.text, .slice A y.items.length c, .slice K y.keys.length d] 25)) := ⟨BlockIs.new W _ _, lies_alloc h _⟩
theorem QX.on (h : QX g y A c K d W) (hb : Below W.heap.size W W') : QX g y A c K d W' := ⟨h.box.on hb, lies_on h.lies hb⟩
end

set_option maxRecDepth 100000 in
set_option maxHeartbeats 1000000 in
theorem law_rem_no (x : V) (p : List Stp) (z : V) (w : World) (A0 K0 : Option Addr) (c0 m0 : Nat) (A1 : Option Addr) (c1 : Nat) (A2 K2 : Option Addr) (c2 m2 : Nat) (hx : Lies w w.heap.size x A0 c0 K0 m0) (hp : PLies w w.heap.size A1 c1 p) (_hz : Lies w w.heap.size z A2 c2 K2 m2) (hpw : Pow w) (hno : x.valid = false ∨ pathB p = false ∨ p.length = 0) :
    Calls Tryd.prog 9 #[aggOf x A0 c0 K0 m0, .slice A1 p.length c1, aggOf z A2 c2 K2 m2] w fun e w' => e = .returned (.bool true) ∧ Below w.heap.size w w' := by
  have HA := Lib.hid fun W (hW : Below w.heap.size w W) => awake2_any W (hpw.on hW)
  have HB0 := Lib.hid (QL.start w #[.int .i64 x.kind, .int .i64 x.int, .string x.text, .slice A0 x.items.length c0, .slice K0 x.keys.length m0] #[.int .i64 z.kind, .int .i64 z.int, .string z.text, .slice A2 z.items.length c2, .slice K2 z.keys.length m2])
  obtain ⟨bx, hbx⟩ : ∃ b, x.valid = b := ⟨_, rfl⟩
  obtain ⟨bp, hbp⟩ : ∃ b, pathB p = b := ⟨_, rfl⟩
  have HV := Lib.hid fun W (hW : Below w.heap.size w W) => refValid_so x W A0 K0 c0 m0 (lies_on hx hW) hbx
  have HQ := Lib.hid fun W (hW : Below w.heap.size w W) => refPathValid_so p W A1 c1 (hp.on hW) hbp
  obtain ⟨n, hn⟩ : ∃ n, n = p.length := ⟨_, rfl⟩
  rw [← hn] at HQ hno ⊢
  rw [hbx, hbp] at hno
  have HNO := Lib.hid hno
  clear hx hp hpw hbx hbp hn hno
  unfold aggOf
  go_enter Tryd.func9, Tryd.ntmps9
  go_wp2_with fail
  refine (HV.out _ HB0.out.old).mono ?_
  rintro e w1 ⟨rfl, h1⟩
  have HB1 := Lib.hid (HB0.out.on h1)
  clear h1 HB0 HV
  cases bx
  case false =>
    go_wp2_with fail
    refine (HA.out _ HB1.out.old).mono ?_
    rintro e w99 ⟨rfl, h99⟩
    have HB99 := Lib.hid (below_on HB1.out.old h99)
    clear h99
    go_wp2_with fail
    go_ret
    exact ⟨rfl, HB99.out⟩
  go_wp2_with fail
  refine (HQ.out _ HB1.out.old).mono ?_
  rintro e w2 ⟨rfl, h2⟩
  have HB2 := Lib.hid (HB1.out.on h2)
  clear h2 HB1 HQ
  cases bp
  case false =>
    go_wp2_with fail
    refine (HA.out _ HB2.out.old).mono ?_
    rintro e w99 ⟨rfl, h99⟩
    have HB99 := Lib.hid (below_on HB2.out.old h99)
    clear h99
    go_wp2_with fail
    go_ret
    exact ⟨rfl, HB99.out⟩
  obtain rfl : n = 0 := by
    rcases HNO.out with h | h | h
    · simp at h
    · simp at h
    · exact h
  go_wp2_with fail
  refine (HA.out _ HB2.out.old).mono ?_
  rintro e w99 ⟨rfl, h99⟩
  have HB99 := Lib.hid (below_on HB2.out.old h99)
  clear h99
  go_wp2_with fail
  go_ret
  exact ⟨rfl, HB99.out⟩

set_option maxRecDepth 100000 in
set_option maxHeartbeats 1000000 in
theorem law_rem_yes (x : V) (p : List Stp) (z : V) (w : World) (A0 K0 : Option Addr) (c0 m0 : Nat) (A1 : Option Addr) (c1 : Nat) (A2 K2 : Option Addr) (c2 m2 : Nat) (hx : Lies w w.heap.size x A0 c0 K0 m0) (hp : PLies w w.heap.size A1 c1 p) (hz : Lies w w.heap.size z A2 c2 K2 m2) (hpw : Pow w) (m : Nat) (hm : p.length = m + 1) (hvx : x.valid = true) (hbp : pathB p = true) :
    Calls Tryd.prog 9 #[aggOf x A0 c0 K0 m0, .slice A1 p.length c1, aggOf z A2 c2 K2 m2] w fun e w' => e = .returned (.bool true) ∧ Below w.heap.size w w' := by
  have HA := Lib.hid fun W (hW : Below w.heap.size w W) => awake2_any W (hpw.on hW)
  have HB0 := Lib.hid (QL.start w #[.int .i64 x.kind, .int .i64 x.int, .string x.text, .slice A0 x.items.length c0, .slice K0 x.keys.length m0] #[.int .i64 z.kind, .int .i64 z.int, .string z.text, .slice A2 z.items.length c2, .slice K2 z.keys.length m2])
  have HV := Lib.hid fun W (hW : Below w.heap.size w W) => refValid_so x W A0 K0 c0 m0 (lies_on hx hW) hvx
  have HQ := Lib.hid fun W (hW : Below w.heap.size w W) => refPathValid_so p W A1 c1 (hp.on hW) hbp
  obtain ⟨y, ok, hg1, hok1, -⟩ := getV_is hvx (pathB_take hbp m)
  obtain ⟨y2, is, hg2, -, his⟩ := getV_is hvx hbp
  have HG1 := Lib.hid fun W (hW : Below w.heap.size w W) => show Calls Tryd.prog 10 #[.agg #[.int .i64 x.kind, .int .i64 x.int, .string x.text, .slice A0 x.items.length c0, .slice K0 x.keys.length m0], .slice A1 m c1] W _ from by
    have := (get_any x (p.take m) W A0 K0 c0 m0 A1 c1 (lies_on hx hW) (plies_take (hp.on hW) m)).mono fun _ _ h' => GetPost.form3 hg1 h'
    rw [show (p.take m).length = m by rw [List.length_take]; omega] at this
    exact this
  have HG2 := Lib.hid fun W (hW : Below w.heap.size w W) => (get_any x p W A0 K0 c0 m0 A1 c1 (lies_on hx hW) (hp.on hW)).mono fun _ _ h' => GetPost.form3 hg2 h'
  have HP := Lib.hid fun W (hW : Below w.heap.size w W) => progPut_any x p z W A0 K0 c0 m0 A1 c1 A2 K2 c2 m2 (lies_on hx hW) (hp.on hW) (lies_on hz hW)
  obtain ⟨out, hout⟩ : ∃ o, putOut x p z = o := ⟨_, rfl⟩
  rw [hout] at HP
  obtain ⟨u, r⟩ := out
  have HR := Lib.hid fun W A K c d (hW : Below w.heap.size w W) (hl : Lies W W.heap.size u A c K d) => progRemove_any u p W A K c d A1 c1 hl (hp.on hW)
  have HLAW := Lib.hid (show ok = true → is = false → (y.kind = 4 ∨ y.kind = 5) → r = 0 → remOut u p = (x, 0) from fun h1 h2 h3 h4 => rem_law hm hbp hvx (hok1 h1) (his h2) h3 (by rw [hout, h4]))
  have HS := Lib.hid fun W A K c d A' K' c' d' (h : Lies W W.heap.size x A c K d) (h' : Lies W W.heap.size x A' c' K' d') => same_is x x W A K c d A' K' c' d' h h' (r := true) (by simp)
  have HXL := Lib.hid fun W (hW : Below w.heap.size w W) => lies_on hx hW
  obtain ⟨rem, hrem⟩ : ∃ rem, rem = remOut u p := ⟨_, rfl⟩
  rw [← hrem] at HR HLAW
  have hmc : (m : Int) ≤ c1 := by have := hp.1; omega
  have hcm : c1 ≤ maxLen := hp.2.1
  unfold maxLen at hcm
  have hm0 : (0 : Int) ≤ m := by omega
  have hmn : m ≤ c1 := by omega
  have k1 : (m : Int) + 1 - 1 = m := by omega
  have k2 : IntKind.i64.wrap (m : Int) = m := by rw [IntKind.wrap_i64]; omega
  have k3 : IntKind.i64.wrap ((m : Int) + 1 - 1) = m := by rw [IntKind.wrap_i64]; omega
  rw [hm] at HQ HG2 HP HR ⊢
  clear hx hp hz hpw hvx hbp hg1 hok1 hg2 his hout hrem hm
  unfold aggOf
  go_enter Tryd.func9, Tryd.ntmps9
  go_wp2_with fail
  refine (HV.out _ HB0.out.old).mono ?_
  rintro e w1 ⟨rfl, h1⟩
  have HB1 := Lib.hid (HB0.out.on h1)
  clear h1 HB0 HV
  go_wp2_with fail
  refine (HQ.out _ HB1.out.old).mono ?_
  rintro e w2 ⟨rfl, h2⟩
  have HB2 := Lib.hid (HB1.out.on h2)
  clear h2 HB1 HQ
  obtain ⟨t0, t1, t2, t3, t4⟩ := five_of HB2.out.bv
  have tl := HB2.out.bv.lt
  go_wp2_with fail
  have hw2 : w.heap.size + 2 ≤ w2.heap.size := by have := HB2.out.bx.lt; omega
  have hn1 : ¬ w.heap.size = w2.heap.size := by omega
  have hn2 : ¬ w2.heap.size = w.heap.size := by omega
  have HZF := Lib.hid (show ∀ w3, Below (w2.alloc (.cells zeroF 25)).heap.size (w2.alloc (.cells zeroF 25)) w3 → BlockIs w3 w2.heap.size 25 #[.int .i64 0, .int .i64 0, .string ⟨#[]⟩, .slice none 0 0, .slice none 0 0] from fun w3 h3 => (BlockIs.new w2 25 zeroF).below h3 (by simp))
  go_region_law (go_simp; go_at_call 10; refine (HG1.out _ (by first | exact HB2.out.old | exact below_on HB2.out.old (Below.refl _ _).drew | exact below_al HB2.out.old _ | exact below_on (below_al HB2.out.old _) (Below.refl _ _).drew)).mono ?_; rintro e w3 ⟨A3, c3, K3, d3, rfl, hl3, h3⟩; first | (have hzf := HZF.out w3 (by first | exact h3 | exact below_on (Below.refl _ _).drew h3); obtain ⟨z0, z1, z2, z3, z4⟩ := five_of hzf; have y0 := BlockIs.frozen hzf 0; have y1 := BlockIs.frozen hzf 1; have y2 := BlockIs.frozen hzf 2; have y3 := BlockIs.frozen hzf 3; have y4 := BlockIs.frozen hzf 4; have zl := BlockIs.lt hzf) | skip)
  all_goals
    first
      | (have hA : Below (w2.alloc (.cells zeroF 25)).heap.size (w2.alloc (.cells zeroF 25)) w3 := by first | exact h3 | exact below_on (Below.refl _ _).drew h3
         have HQ3 := Lib.hid ((HB2.out.on (below_al (Below.refl _ _) (.cells zeroF 25))).on hA)
         have HZ3 := Lib.hid (HZF.out w3 hA)
         obtain ⟨W3, hW3⟩ : ∃ W3, W3 = ((((w3.setCell ⟨w2.heap.size, 0, none⟩ (.int .i64 y.kind)).setCell ⟨w2.heap.size, 1, none⟩ (.int .i64 y.int)).setCell ⟨w2.heap.size, 2, none⟩ (.string y.text)).setCell ⟨w2.heap.size, 3, none⟩ (.slice A3 y.items.length c3)).setCell ⟨w2.heap.size, 4, none⟩ (.slice K3 y.keys.length d3) := ⟨_, rfl⟩
         have HY3 := Lib.hid (show BlockIs W3 w2.heap.size 25 #[.int .i64 y.kind, .int .i64 y.int, .string y.text, .slice A3 y.items.length c3, .slice K3 y.keys.length d3] from by
           rw [hW3]
           simpa using ((((HZ3.out.set_ 0 (.int .i64 y.kind)).set_ 1 (.int .i64 y.int)).set_ 2 (.string y.text)).set_ 3 (.slice A3 y.items.length c3)).set_ 4 (.slice K3 y.keys.length d3))
         have HB3 := Lib.hid (show QL w #[.int .i64 x.kind, .int .i64 x.int, .string x.text, .slice A0 x.items.length c0, .slice K0 x.keys.length m0] #[.int .i64 z.kind, .int .i64 z.int, .string z.text, .slice A2 z.items.length c2, .slice K2 z.keys.length m2] W3 from by
           rw [hW3]
           exact ⟨((((HQ3.out.old.setCell (by simp; omega) _).setCell (by simp; omega) _).setCell (by simp; omega) _).setCell (by simp; omega) _).setCell (by simp; omega) _,
             ((((HQ3.out.bv.far (by simp; omega) _).far (by simp; omega) _).far (by simp; omega) _).far (by simp; omega) _).far (by simp; omega) _,
             ((((HQ3.out.bx.far (by simp; omega) _).far (by simp; omega) _).far (by simp; omega) _).far (by simp; omega) _).far (by simp; omega) _⟩)
         rw [← hW3]
         obtain ⟨bb, hbb⟩ : ∃ bb, bb = w2.heap.size := ⟨_, rfl⟩
         rw [← hbb] at HY3 ⊢
         clear z0 z1 z2 z3 z4 y0 y1 y2 y3 y4 zl hzf HQ3 HZ3 hA h3 hl3 hW3 hbb)
      | (have hB : Below w2.heap.size w2 w3 := by first | exact h3 | exact below_on (Below.refl _ _).drew h3
         have HQ3 := Lib.hid (HB2.out.on hB)
         obtain ⟨W3, hW3⟩ : ∃ W3, W3 = w3.alloc (.cells #[.int .i64 y.kind, .int .i64 y.int, .string y.text, .slice A3 y.items.length c3, .slice K3 y.keys.length d3] 25) := ⟨_, rfl⟩
         have HY3 := Lib.hid (show BlockIs W3 w3.heap.size 25 #[.int .i64 y.kind, .int .i64 y.int, .string y.text, .slice A3 y.items.length c3, .slice K3 y.keys.length d3] from by
           rw [hW3]
           exact BlockIs.new w3 _ _)
         have HB3 := Lib.hid (show QL w #[.int .i64 x.kind, .int .i64 x.int, .string x.text, .slice A0 x.items.length c0, .slice K0 x.keys.length m0] #[.int .i64 z.kind, .int .i64 z.int, .string z.text, .slice A2 z.items.length c2, .slice K2 z.keys.length m2] W3 from by
           rw [hW3]
           exact HQ3.out.on (below_al (Below.refl _ _) _))
         rw [← hW3]
         obtain ⟨bb, hbb⟩ : ∃ bb, bb = w3.heap.size := ⟨_, rfl⟩
         rw [← hbb] at HY3 ⊢
         clear HQ3 hB h3 hl3 hW3 hbb)
    clear t0 t1 t2 t3 t4 tl HB2 HG1 HZF
    obtain ⟨t0, t1, t2, t3, t4⟩ := five_of HB3.out.bv
    have tl := HB3.out.bv.lt
    go_wp2_with fail
    refine (HG2.out _ HB3.out.old).mono ?_
    rintro e w4 ⟨A4, c4, K4, d4, rfl, hl4, h4⟩
    have HB4 := Lib.hid ((HB3.out.on h4).on (below_al (Below.refl _ _) (.cells #[.int .i64 y2.kind, .int .i64 y2.int, .string y2.text, .slice A4 y2.items.length c4, .slice K4 y2.keys.length d4] 25)))
    have HY4 := Lib.hid ((HY3.out.below h4 HY3.out.lt).alloc (.cells #[.int .i64 y2.kind, .int .i64 y2.int, .string y2.text, .slice A4 y2.items.length c4, .slice K4 y2.keys.length d4] 25))
    clear h4 hl4 t0 t1 t2 t3 t4 tl HB3 HY3 HG2
    obtain ⟨s0, s1, s2, s3, s4⟩ := five_of HY4.out
    have sl := HY4.out.lt
    cases ok
    case false =>
      go_wp2_with fail
      refine (HA.out _ HB4.out.old).mono ?_
      rintro e w99 ⟨rfl, h99⟩
      have HB99 := Lib.hid (below_on HB4.out.old h99)
      clear h99
      go_wp2_with fail
      go_ret
      exact ⟨rfl, HB99.out⟩
    cases is
    case true =>
      go_wp2_with fail
      refine (HA.out _ HB4.out.old).mono ?_
      rintro e w99 ⟨rfl, h99⟩
      have HB99 := Lib.hid (below_on HB4.out.old h99)
      clear h99
      go_wp2_with fail
      go_ret
      exact ⟨rfl, HB99.out⟩
    by_cases h45 : y.kind = 4 ∨ y.kind = 5
    case neg =>
      have n4 : ¬ y.kind = 4 := fun e => h45 (.inl e)
      have n5 : ¬ y.kind = 5 := fun e => h45 (.inr e)
      have k5 : (y.kind != 5) = true := by simpa using n5
      have k4 : (y.kind != 4) = true := by simpa using n4
      clear h45
      go_wp2_with fail
      refine (HA.out _ HB4.out.old).mono ?_
      rintro e w99 ⟨rfl, h99⟩
      have HB99 := Lib.hid (below_on HB4.out.old h99)
      clear h99
      go_wp2_with fail
      go_ret
      exact ⟨rfl, HB99.out⟩
    have H45 := Lib.hid h45
    obtain ⟨t0, t1, t2, t3, t4⟩ := five_of HB4.out.bv
    have tl := HB4.out.bv.lt
    obtain ⟨v0, v1, v2, v3, v4⟩ := five_of HB4.out.bx
    have vl := HB4.out.bx.lt
    rcases h45 with h4 | h4
    all_goals
      rw [h4] at s0
      clear h4
      go_wp2_with fail
      refine (HP.out _ HB4.out.old).mono ?_
      rintro e w5 ⟨A5, c5, K5, d5, rfl, hl5, h5⟩
      have HB5 := Lib.hid ((HB4.out.on h5).on (below_al (Below.refl _ _) (.cells #[.int .i64 u.kind, .int .i64 u.int, .string u.text, .slice A5 u.items.length c5, .slice K5 u.keys.length d5] 25)))
      have HW5 := Lib.hid (QX.start hl5)
      clear h5 hl5 s0 s1 s2 s3 s4 sl t0 t1 t2 t3 t4 tl v0 v1 v2 v3 v4 vl HB4 HY4 HP
      unfold aggOf
      by_cases hr : r = 0
      case neg =>
        go_wp2_with fail
        refine (HA.out _ HB5.out.old).mono ?_
        rintro e w99 ⟨rfl, h99⟩
        have HB99 := Lib.hid (below_on HB5.out.old h99)
        clear h99
        go_wp2_with fail
        go_ret
        exact ⟨rfl, HB99.out⟩
      have hrem : rem = (x, 0) := by first | exact HLAW.out (by trivial) (by trivial) H45.out hr | exact HLAW.out (by trivial) (by trivial) H45.out (by trivial) | exact HLAW.out H45.out hr | exact HLAW.out H45.out (by trivial)
      subst hr
      obtain ⟨s0, s1, s2, s3, s4⟩ := HW5.out.box.cells
      have sl := HW5.out.box.lt
      rw [hrem] at HR
      clear HLAW hrem
      go_wp2_with fail
      refine (HR.out _ A5 K5 c5 d5 HB5.out.old HW5.out.lies).mono ?_
      rintro e w6 ⟨A6, c6, K6, d6, rfl, hl6, h6⟩
      have HB6 := Lib.hid ((HB5.out.on h6).on (below_al (Below.refl _ _) (.cells #[.int .i64 x.kind, .int .i64 x.int, .string x.text, .slice A6 x.items.length c6, .slice K6 x.keys.length d6] 25)))
      have HY6 := Lib.hid (QX.start hl6)
      clear h6 hl6 s0 s1 s2 s3 s4 sl HB5 HW5 HR
      unfold aggOf
      obtain ⟨s0, s1, s2, s3, s4⟩ := HY6.out.box.cells
      have sl := HY6.out.box.lt
      obtain ⟨t0, t1, t2, t3, t4⟩ := five_of HB6.out.bv
      have tl := HB6.out.bv.lt
      go_wp2_with fail
      refine (HS.out _ A6 K6 c6 d6 A0 K0 c0 m0 HY6.out.lies (HXL.out _ HB6.out.old)).mono ?_
      rintro e w7 ⟨rfl, h7⟩
      have HB7 := Lib.hid (HB6.out.on h7)
      clear h7 s0 s1 s2 s3 s4 sl t0 t1 t2 t3 t4 tl HB6 HY6
      go_wp2_with fail
      refine (HA.out _ HB7.out.old).mono ?_
      rintro e w99 ⟨rfl, h99⟩
      have HB99 := Lib.hid (below_on HB7.out.old h99)
      clear h99
      go_wp2_with fail
      go_ret
      exact ⟨rfl, HB99.out⟩
theorem law_removed (x : V) (p : List Stp) (z : V) (w : World) (A0 K0 : Option Addr) (c0 m0 : Nat) (A1 : Option Addr) (c1 : Nat) (A2 K2 : Option Addr) (c2 m2 : Nat) (hx : Lies w w.heap.size x A0 c0 K0 m0) (hp : PLies w w.heap.size A1 c1 p) (hz : Lies w w.heap.size z A2 c2 K2 m2) (hpw : Pow w) :
    Calls Tryd.prog 9 #[aggOf x A0 c0 K0 m0, .slice A1 p.length c1, aggOf z A2 c2 K2 m2] w fun e w' => e = .returned (.bool true) ∧ Below w.heap.size w w' := by
  by_cases h : x.valid = true ∧ pathB p = true ∧ ¬ p.length = 0
  · exact law_rem_yes x p z w A0 K0 c0 m0 A1 c1 A2 K2 c2 m2 hx hp hz hpw (p.length - 1) (by have := h.2.2; omega) h.1 h.2.1
  · refine law_rem_no x p z w A0 K0 c0 m0 A1 c1 A2 K2 c2 m2 hx hp hz hpw ?_
    cases h1 : x.valid with
    | false => exact .inl rfl
    | true =>
      cases h2 : pathB p with
      | false => exact .inr (.inl rfl)
      | true => exact .inr (.inr (Classical.byContradiction fun h3 => h ⟨h1, h2, h3⟩))
end Go.Proofs.YtdlmphbaolejcaaDoor
namespace Go.Proofs.YtdlmphbaolejcaaDoor.variantRemoved
open Go.ChangeShapes Go.WideShapes Go.ChangeAt Go.RowKit

set_option maxRecDepth 100000 in
set_option maxHeartbeats 1000000 in
theorem contract (H : Type) (enc : TypeId × Value → H) (W : World) (base : Nat) (args : Array Value) (ds gs : List (DataW H)) (before : List MemPlace)
    (hval : ∀ (j : Nat) t v, Tryd.f9.params[j]? = some t → args[j]? = some v → Value.okWide Tryd.prog W .any base t v)
    (hW : DataW.Whole enc Tryd.prog Tryd.f9.params.toList Rows.variantRemovedSpec.vars false W args.toList ds gs before) (hL : laidMetH Tryd.prog laidL W) :
    Calls Tryd.prog 9 args W fun e W' => ∃ v, e = .returned v ∧ Rows.variantRemovedSpec.post enc Tryd.prog Tryd.f9 false true false false W args v W' := by
  have hW' := hW
  have hlt := hW.lt
  obtain ⟨p, q, hA0, hV, rfl, _, _⟩ := hW
  have hA : DataW.TrodAll enc Tryd.prog W 0 (fun _ => true) true Tryd.f9.params.toList args.toList ds p := hA0
  rw [Tryd.params9] at hA hval
  obtain ⟨v0, vs0, d0, ds0, p0, q0, hargs, rfl, rfl, h0, r0⟩ := trodAll_cons hA
  obtain ⟨v1, vs1, d1, ds1, p1, q1, rfl, rfl, rfl, h1, r1⟩ := trodAll_cons r0
  obtain ⟨v2, vs2, d2, ds2, p2, q2, rfl, rfl, rfl, h2, r2⟩ := trodAll_cons r1
  obtain ⟨rfl, rfl, rfl⟩ := trodAll_nil r2
  obtain rfl : args = #[v0, v1, v2] := by cases args; simp_all
  obtain ⟨rfl, rfl⟩ := trodVars_none hV
  obtain ⟨x0, A0, c0, K0, m0, rfl, hx0⟩ := open_arg (hval 0 25 v0 rfl rfl) h0
  obtain ⟨x1, A1, c1, rfl, hx1⟩ := open_path (hval 1 26 v1 rfl rfl) h1
  obtain ⟨x2, A2, c2, K2, m2, rfl, hx2⟩ := open_arg (hval 2 25 v2 rfl rfl) h2
  clear hA0
  simp only [List.append_nil] at hW' hlt
  refine (law_removed x0 x1 x2 W A0 K0 c0 m0 A1 c1 A2 K2 c2 m2 hx0 hx1 hx2 (pow_of hL)).mono fun e W' ⟨he, hb⟩ => ?_
  subst he
  exact ⟨_, rfl, post_below (pa := p0 ++ (p1 ++ p2)) (pv := []) hW' (fun _ _ _ => trodAll_cons_mk (shut_bool Tryd.underlying4 _) trodAll_mk0)
    (fun sp hsp => by
      rw [Tryd.params9]
      have t2 := trodAll_cons_mk (arg_stays (sp := sp) h2 hb (fun z hz => hlt z (by simp [hz])) (fun z hz => hsp z (by simp [hz]))) trodAll_mk0
      rw [List.append_nil] at t2
      have t1 := trodAll_cons_mk (path_stays (sp := sp) h1 hb (fun z hz => hlt z (by simp [hz])) (fun z hz => hsp z (by simp [hz]))) t2
      have t0 := trodAll_cons_mk (arg_stays (sp := sp) h0 hb (fun z hz => hlt z (by simp [hz])) (fun z hz => hsp z (by simp [hz]))) t1
      exact t0)
    (fun _ _ => rfl) (by simp) hb (ok_one (by kernel_rfl) rfl (okWide_bool_mk Tryd.underlying4 _))⟩

theorem laid_met (os : Os) : laidMet Tryd.prog Rows.variantRemovedRow.laid ((laidWorld os).forCall (fun _ _ => 0) ⟨#[], #[zeroA, .slice none 0 0, zeroA], []⟩).memory :=
  laidMet_of_run' 8 (by kernel_rfl) (by kernel_rfl)
theorem reads (os : Os) {H : Type} (enc : TypeId × Value → H) : ∃ places, DataW.whole enc Tryd.prog ((laidWorld os).forCall (fun _ _ => 0) ⟨#[], #[zeroA, .slice none 0 0, zeroA], []⟩).memory Tryd.f9.params.toList Rows.variantRemovedSpec.vars false #[zeroA, .slice none 0 0, zeroA].toList 8 = some ([zeroD, .nil, zeroD], [], places) :=
  ⟨[], by kernel_rfl⟩

set_option maxRecDepth 100000 in
theorem lifted (os : Os) (started : os.Started) (H : Type) (enc : TypeId × Value → H) (F : Stop.Interp) :
    ReturnsInHanded {} Tryd.checked os 9 .any ((OpenSpec.ofChange Rows.variantRemovedSpec).preRow enc Tryd.prog Tryd.f9 Rows.variantRemovedRow.domain false Rows.variantRemovedRow.laid) (((OpenSpec.ofChange Rows.variantRemovedSpec).at F).post enc Tryd.prog Tryd.f9 false true false false) := by
  obtain ⟨places, hx⟩ := reads os enc
  refine returnsInHanded_of_row (C := Tryd.checked) (s := OpenSpec.ofChange Rows.variantRemovedSpec) own started (by kernel_rfl) Tryd.func9
    (witness_row_at (enc := enc) (C := Tryd.checked) false (laidWorld os) #[zeroA, .slice none 0 0, zeroA] rfl (by kernel_rfl) (by kernel_rfl) (by kernel_rfl)
      (OpenSpec.preRow_of_cond 8 hx (by kernel_rfl) (fun k hk => by cases hk) (by kernel_rfl) (laid_met os))) ?_
  intro W base args ds gs before hval hW _ _ _ hL _ _
  exact contract H enc W base args ds gs before hval hW hL

theorem said : Rows.VariantRemovedSaid :=
  OpenClaim.holds_of_cond 9 Tryd.f9 rfl rfl rfl rfl rfl rfl rfl ⟨rfl, rfl, rfl, rfl, rfl⟩ rfl rfl rfl rfl rfl (by kernel_rfl) Tryd.func9 (by kernel_rfl)
    (of_decide_eq_true (by kernel_rfl)) (by unfold Func.isWrapper; first | (rw [if_pos (by decide +kernel)]; kernel_rfl) | (rw [if_neg (by decide +kernel)]; exact ⟨rfl, rfl⟩))
    (fun os started H enc _ F => by rw [OpenClaim.pre_eq_preRow]; exact lifted os started H enc F)
theorem plain (f : FuncId) (fn : Func) (hf : Tryd.pinned.checked.prog.funcNamed "cirrus/cirruslaw02.VariantRemoved" = some f) (hfn : Tryd.pinned.checked.prog.funcs[f]? = some fn) :
    false = Tryd.pinned.checked.prog.looks [] ∧ ∀ (j : Nat) t, fn.params[j]? = some t → Tryd.pinned.checked.prog.wantsStandIn t = false := by
  obtain rfl : f = 9 := Option.some.inj ((show Tryd.prog.funcNamed "cirrus/cirruslaw02.VariantRemoved" = some 9 by kernel_rfl).symm.trans hf) |>.symm
  obtain rfl : fn = Tryd.f9 := (Option.some.inj (Tryd.func9.symm.trans hfn)).symm
  refine ⟨by kernel_rfl, fun j t ht => ?_⟩
  rw [Tryd.params9] at ht
  match j, ht with
  | 0, ht =>
    obtain rfl : t = 25 := (Option.some.inj ht).symm
    exact (show Tryd.prog.wantsStandIn 25 = false by kernel_rfl)
  | 1, ht =>
    obtain rfl : t = 26 := (Option.some.inj ht).symm
    exact (show Tryd.prog.wantsStandIn 26 = false by kernel_rfl)
  | 2, ht =>
    obtain rfl : t = 25 := (Option.some.inj ht).symm
    exact (show Tryd.prog.wantsStandIn 25 = false by kernel_rfl)
  | j + 3, ht => simp at ht

theorem card : Rows.VariantRemovedCardSaid :=
  Claim7.holds_tied_plain_at .later [] _ _ _ _ said (fun _ h => by cases h) (by kernel_rfl) (fun _ h => by cases h) variantRemoved_row_tie rfl ⟨rfl, rfl⟩ (by kernel_rfl) rfl plain (by kernel_rfl)
end Go.Proofs.YtdlmphbaolejcaaDoor.variantRemoved

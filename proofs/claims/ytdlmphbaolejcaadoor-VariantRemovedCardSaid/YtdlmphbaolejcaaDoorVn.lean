/- The examples of the chapter on paths: what each call of them comes to. -/
import Derived.Test.YtdlmphbaolejcaaDoorVm
import Derived.Test.YtdlmphbaolejcaaDoorVi
import Derived.Deep.RegionHeld3
import Derived.Deep.DrawnRows
namespace Go.Proofs.YtdlmphbaolejcaaDoor
open Go.RowKit

set_option maxHeartbeats 1000000 in
theorem key_any (k : ByteArray) (w : World) : Calls Tryd.prog 36 #[.string k] w fun e w' => e = .returned (.agg #[.int .i64 (-1), .string k]) ∧ Below w.heap.size w w' := by
  go_enter Tryd.func36, Tryd.ntmps36
  go_wp2_with fail
  exact bodyPost_ret (v := .agg #[.int .i64 (-1), .string k]) (by simp [results, Tryd.results36, go_sem]) rfl ⟨rfl, (Below.refl _ _).alloc (Nat.le_refl _) _⟩
/-- A block stays what it is. -/
theorem bi_on {w w' : World} {b : Nat} {t : TypeId} {cs : Array Value} (h : BlockIs w b t cs) (hb : Below w.heap.size w w') : BlockIs w' b t cs := h.below hb h.lt
theorem bi_al {w : World} {b : Nat} {t : TypeId} {cs : Array Value} (h : BlockIs w b t cs) (o : Obj) : BlockIs (w.alloc o) b t cs := h.alloc o
theorem bi_drew {w : World} {b : Nat} {t : TypeId} {cs : Array Value} (h : BlockIs w b t cs) : BlockIs w.drew b t cs := bi_on h (Below.refl _ _).drew
theorem plies1 {w : World} {b : Nat} {t : TypeId} {i : Int} {k : ByteArray} (h : BlockIs w b t #[.int .i64 i, .string k]) (hk : k.size ≤ maxLen) : PLies w w.heap.size (some ⟨b, 0, none⟩) 1 [(i, k)] :=
  ⟨Nat.le_refl _, by simp [maxLen], .inr ⟨b, 0, rfl, h.lt, h.cell 0, h.cell 1, hk, trivial⟩⟩
theorem plies2 {w : World} {b : Nat} {t : TypeId} {i j : Int} {k l : ByteArray} (h : BlockIs w b t #[.int .i64 i, .string k, .int .i64 j, .string l]) (hk : k.size ≤ maxLen) (hl : l.size ≤ maxLen) : PLies w w.heap.size (some ⟨b, 0, none⟩) 2 [(i, k), (j, l)] :=
  ⟨Nat.le_refl _, by simp [maxLen], .inr ⟨b, 0, rfl, h.lt, h.cell 0, h.cell 1, hk, h.cell 2, h.cell 3, hl, trivial⟩⟩
/-- The value of the example. -/
def exN : V := .mk 5 0 ⟨#[]⟩ [.mk 5 0 ⟨#[]⟩ [leaf 2 1 ⟨#[]⟩] [⟨#[121]⟩]] [⟨#[120]⟩]
def pN : List Stp := [(-1, ⟨#[120]⟩), (-1, ⟨#[121]⟩)]
theorem exN_get : getV exN pN = (leaf 2 1 ⟨#[]⟩, true, 0) := by kernel_rfl
theorem exN_get0 : getV exN [(0, ⟨#[]⟩)] = (leaf 0 0 ⟨#[]⟩, false, 0) := by kernel_rfl
theorem exN_put (W : World) (A : Option Addr) (h : PLies W W.heap.size A 2 pN) :
    Calls Tryd.prog 14 #[.agg #[.int .i64 0, .int .i64 0, .string ⟨#[]⟩, .slice none 0 0, .slice none 0 0], .slice A 2 2, .agg #[.int .i64 2, .int .i64 1, .string ⟨#[]⟩, .slice none 0 0, .slice none 0 0]] W fun e w' => ∃ A' c K d, e = .returned (.tuple #[.agg #[.int .i64 5, .int .i64 0, .string ⟨#[]⟩, .slice A' 1 c, .slice K 1 d], .int .i64 0]) ∧ Lies w' w'.heap.size exN A' c K d ∧ Below W.heap.size W w' :=
  put_ok 2 1 ⟨#[]⟩ [⟨#[120]⟩, ⟨#[121]⟩] exN rfl W A 2 sz0 (by decide +kernel) (by decide +kernel) (by decide +kernel) h
theorem exN_getp (W : World) (A K : Option Addr) (c d : Nat) (Ap : Option Addr) (h : Lies W W.heap.size exN A c K d) (hp : PLies W W.heap.size Ap 2 pN) :
    Calls Tryd.prog 10 #[.agg #[.int .i64 5, .int .i64 0, .string ⟨#[]⟩, .slice A 1 c, .slice K 1 d], .slice Ap 2 2] W fun e w' => ∃ A' c' K' d', e = .returned (.tuple #[.agg #[.int .i64 2, .int .i64 1, .string ⟨#[]⟩, .slice A' 0 c', .slice K' 0 d'], .bool true, .int .i64 0]) ∧ Lies w' w'.heap.size (leaf 2 1 ⟨#[]⟩) A' c' K' d' ∧ Below W.heap.size W w' :=
  (show Calls Tryd.prog 10 #[.agg #[.int .i64 5, .int .i64 0, .string ⟨#[]⟩, .slice A 1 c, .slice K 1 d], .slice Ap 2 2] W (GetPost exN pN W) from get_any exN pN W A K c d Ap 2 h hp).mono fun e w' he => by
    unfold GetPost at he
    rw [exN_get] at he
    exact he
theorem exN_getn (W : World) (A K : Option Addr) (c d : Nat) (Ap : Option Addr) (h : Lies W W.heap.size exN A c K d) (hp : PLies W W.heap.size Ap 1 [(0, ⟨#[]⟩)]) :
    Calls Tryd.prog 10 #[.agg #[.int .i64 5, .int .i64 0, .string ⟨#[]⟩, .slice A 1 c, .slice K 1 d], .slice Ap 1 1] W fun e w' => ∃ A' c' K' d', e = .returned (.tuple #[.agg #[.int .i64 0, .int .i64 0, .string ⟨#[]⟩, .slice A' 0 c', .slice K' 0 d'], .bool false, .int .i64 0]) ∧ Below W.heap.size W w' :=
  (show Calls Tryd.prog 10 #[.agg #[.int .i64 5, .int .i64 0, .string ⟨#[]⟩, .slice A 1 c, .slice K 1 d], .slice Ap 1 1] W (GetPost exN [(0, ⟨#[]⟩)] W) from get_any exN [(0, ⟨#[]⟩)] W A K c d Ap 1 h hp).mono fun e w' he => by
    unfold GetPost at he
    rw [exN_get0] at he
    obtain ⟨A', c', K', d', h1, -, h3⟩ := he
    exact ⟨A', c', K', d', h1, h3⟩
theorem exN_arg (W : World) (A : Option Addr) (h : PLies W W.heap.size A 1 [(1, ⟨#[]⟩)]) :
    Calls Tryd.prog 14 #[.agg #[.int .i64 4, .int .i64 0, .string ⟨#[]⟩, .slice none 0 0, .slice none 0 0], .slice A 1 1, .agg #[.int .i64 2, .int .i64 1, .string ⟨#[]⟩, .slice none 0 0, .slice none 0 0]] W fun e w' => e = .returned (.tuple #[.agg #[.int .i64 0, .int .i64 0, .string ⟨#[]⟩, .slice none 0 0, .slice none 0 0], .int .i64 3]) ∧ Below W.heap.size W w' :=
  put_err 3 (by decide) 4 0 2 1 ⟨#[]⟩ ⟨#[]⟩ [(1, ⟨#[]⟩)] W A 1 sz0 sz0 (by decide +kernel) (by decide +kernel) (by decide +kernel) h fun W' g hF hp hs => put_arg 2 1 ⟨#[]⟩ W.heap.size W' g A 1 hs hF hp
theorem exN_type (W : World) (A : Option Addr) (h : PLies W W.heap.size A 1 [(-1, ⟨#[97]⟩)]) :
    Calls Tryd.prog 14 #[.agg #[.int .i64 2, .int .i64 3, .string ⟨#[]⟩, .slice none 0 0, .slice none 0 0], .slice A 1 1, .agg #[.int .i64 2, .int .i64 1, .string ⟨#[]⟩, .slice none 0 0, .slice none 0 0]] W fun e w' => e = .returned (.tuple #[.agg #[.int .i64 0, .int .i64 0, .string ⟨#[]⟩, .slice none 0 0, .slice none 0 0], .int .i64 8]) ∧ Below W.heap.size W w' :=
  put_err 8 (by decide) 2 3 2 1 ⟨#[]⟩ ⟨#[]⟩ [(-1, ⟨#[97]⟩)] W A 1 sz0 sz0 (by decide +kernel) (by decide +kernel) (by decide +kernel) h fun W' g hF hp hs => put_type 3 ⟨#[97]⟩ 2 1 ⟨#[]⟩ W.heap.size W' g A 1 hs hF hp
/-- A step appended to a path. -/
theorem append_step (ty : TypeId) (W : World) (b b' : Nat) (t : TypeId) (i j l : Int) (k m o : ByteArray) (h : BlockIs W b t #[.int .i64 i, .string k, .int .i64 j, .string m]) (h' : BlockIs W b' t #[.int .i64 l, .string o]) (hk : k.size ≤ maxLen) (hm : m.size ≤ maxLen) (ho : o.size ≤ maxLen) :
    ∃ A c W', (Builtin.append_ #[26, 26] ty #[.slice (some ⟨b, 0, none⟩) 2 2, .slice (some ⟨b', 0, none⟩) 1 1]).run Tryd.prog W = .ok (.slice A 3 c) W' ∧ PLies W' W'.heap.size A c [(i, k), (j, m), (l, o)] ∧ Below W.heap.size W W' := by
  obtain ⟨i0, hi, hz0, hz1, hz2⟩ := info_parts (P := Tryd.prog) (e := 51) (z := (.agg #[.int .i64 0, .string ⟨#[]⟩])) (size := 2) (bytes := 24) (by kernel_rfl)
  have hrun := run_append_grow (P := Tryd.prog) (w := W) 26 ty 51 i0 _ Tryd.underlying26 hi hz0 ⟨b, 0, none⟩ 2 2 [.int .i64 i, .string k, .int .i64 j, .string m] (by rw [hz1]; rfl) (fun n v hn => by
    rw [Addr.add_lit, Nat.zero_add]
    refine (h.cell n).trans ?_
    rw [List.getElem?_toArray]; exact hn) ⟨b', 0, none⟩ 1 1 [.int .i64 l, .string o] (by rw [hz1]; rfl) (fun n v hn => by
    rw [Addr.add_lit, Nat.zero_add]
    refine (h'.cell n).trans ?_
    rw [List.getElem?_toArray]; exact hn) (by decide) (by decide) (by rw [hz2]; decide)
  have hge := grownCap_ge W 3 2 51
  have hle := grownCap_le_maxLen W 3 2 51 (by unfold maxLen; omega)
  have hc : ∀ n v, [Value.int .i64 i, .string k, .int .i64 j, .string m, .int .i64 l, .string o][n]? = some v → ∀ zs : Array Value, (W.drew.alloc (.cells ([Value.int .i64 i, .string k, .int .i64 j, .string m].toArray ++ [Value.int .i64 l, .string o].toArray ++ zs) 51)).cell? ⟨W.heap.size, n, none⟩ = some v := by
    intro n v hn zs
    refine (World.cell?_alloc_new W.drew _ _ n).trans ?_
    have hlt := (List.getElem?_eq_some_iff.1 hn).1
    rw [Array.getElem?_append_left (by simpa using hlt)]
    simpa using hn
  exact ⟨_, _, _, hrun, ⟨hge, hle, .inr ⟨W.heap.size, 0, rfl, by simp, hc 0 _ rfl _, hc 1 _ rfl _, hk, hc 2 _ rfl _, hc 3 _ rfl _, hm, hc 4 _ rfl _, hc 5 _ rfl _, ho, trivial⟩⟩, (Below.refl _ W).drew.alloc (Nat.le_refl _) _⟩
def pT3 : List Stp := [(-1, ⟨#[120]⟩), (-1, ⟨#[121]⟩), (-1, ⟨#[65]⟩)]
theorem exN_text (W : World) (A : Option Addr) (c : Nat) (h : PLies W W.heap.size A c pT3) (hp : Pow W) :
    Calls Tryd.prog 40 #[.slice A 3 c] W fun e w' => e = .returned (.tuple #[.string ⟨#[36, 46, 120, 46, 121, 91, 34, 65, 34, 93]⟩, .int .i64 0]) ∧ Below W.heap.size W w' :=
  (pathText_any pT3 W A c (by decide +kernel) h hp).mono fun e w' he => by
    rw [show pathT pT3 = [36, 46, 120, 46, 121, 91, 34, 65, 34, 93] by decide +kernel] at he
    exact he
theorem lies_exN {W : World} {xb j2 yb j1 : Nat} (hj2 : BlockIs W j2 25 #[.int .i64 5, .int .i64 0, .string ⟨#[]⟩, .slice (some ⟨j1, 0, none⟩) 1 1, .slice (some ⟨yb, 0, none⟩) 1 1]) (hx : BlockIs W xb 9 #[.string ⟨#[120]⟩]) (hy : BlockIs W yb 9 #[.string ⟨#[121]⟩]) (hj1 : BlockIs W j1 25 #[.int .i64 2, .int .i64 1, .string ⟨#[]⟩, .slice none 0 0, .slice none 0 0]) :
    Lies W W.heap.size exN (some ⟨j2, 0, none⟩) 1 (some ⟨xb, 0, none⟩) 1 := by
  have h1 : Lies W W.heap.size (.mk 5 0 ⟨#[]⟩ [leaf 2 1 ⟨#[]⟩] [⟨#[121]⟩]) (some ⟨j1, 0, none⟩) 1 (some ⟨yb, 0, none⟩) 1 :=
    ⟨sz0, by simp, by simp [maxLen], ⟨by simp, by simp [maxLen], .inr ⟨yb, 0, rfl, hy.lt, hy.cell 0, by decide, trivial⟩⟩, .inr ⟨j1, 0, rfl, hj1.lt, ⟨none, 0, none, 0, hj1.cell 0, hj1.cell 1, hj1.cell 2, hj1.cell 3, hj1.cell 4, leaf_lies W _ 2 1 sz0⟩, trivial⟩⟩
  exact ⟨sz0, by simp, by simp [maxLen], ⟨by simp, by simp [maxLen], .inr ⟨xb, 0, rfl, hx.lt, hx.cell 0, by decide, trivial⟩⟩, .inr ⟨j2, 0, rfl, hj2.lt, ⟨some ⟨j1, 0, none⟩, 1, some ⟨yb, 0, none⟩, 1, hj2.cell 0, hj2.cell 1, hj2.cell 2, hj2.cell 3, hj2.cell 4, h1⟩, trivial⟩⟩
theorem same_exN (W : World) (A K A' K' : Option Addr) (c d c' d' : Nat) (h : Lies W W.heap.size exN A c K d) (h' : Lies W W.heap.size exN A' c' K' d') :
    Calls Tryd.prog 12 #[.agg #[.int .i64 5, .int .i64 0, .string ⟨#[]⟩, .slice A 1 c, .slice K 1 d], .agg #[.int .i64 5, .int .i64 0, .string ⟨#[]⟩, .slice A' 1 c', .slice K' 1 d']] W fun e w' => e = .returned (.bool true) ∧ Below W.heap.size W w' :=
  (show Calls Tryd.prog 12 #[.agg #[.int .i64 5, .int .i64 0, .string ⟨#[]⟩, .slice A 1 c, .slice K 1 d], .agg #[.int .i64 5, .int .i64 0, .string ⟨#[]⟩, .slice A' 1 c', .slice K' 1 d']] W (SamePost (exN = exN) W) from same_any exN.nodes exN exN W A K c d A' K' c' d' (Nat.le_refl _) h h').mono fun e w' he => by
    obtain ⟨b, he, hb, hw⟩ := he
    rw [hb.2 rfl] at he
    exact ⟨he, hw⟩
theorem same_leafN (W : World) (A K : Option Addr) (c d : Nat) (h : Lies W W.heap.size (leaf 2 1 ⟨#[]⟩) A c K d) :
    Calls Tryd.prog 12 #[.agg #[.int .i64 2, .int .i64 1, .string ⟨#[]⟩, .slice A 0 c, .slice K 0 d], .agg #[.int .i64 2, .int .i64 1, .string ⟨#[]⟩, .slice none 0 0, .slice none 0 0]] W fun e w' => e = .returned (.bool true) ∧ Below W.heap.size W w' :=
  (show Calls Tryd.prog 12 #[.agg #[.int .i64 2, .int .i64 1, .string ⟨#[]⟩, .slice A 0 c, .slice K 0 d], .agg #[.int .i64 2, .int .i64 1, .string ⟨#[]⟩, .slice none 0 0, .slice none 0 0]] W (SamePost (leaf 2 1 ⟨#[]⟩ = leaf 2 1 ⟨#[]⟩) W) from same_any (leaf 2 1 ⟨#[]⟩).nodes (leaf 2 1 ⟨#[]⟩) (leaf 2 1 ⟨#[]⟩) W A K c d none none 0 0 (Nat.le_refl _) h (leaf_lies W _ 2 1 sz0)).mono fun e w' he => by
    obtain ⟨b, he, hb, hw⟩ := he
    rw [hb.2 rfl] at he
    exact ⟨he, hw⟩
end Go.Proofs.YtdlmphbaolejcaaDoor

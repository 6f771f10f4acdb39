/- An argument that is a value: what it reads as, and where it lies. -/
import Derived.Test.YtchadlbhdcpojaaGreatDoorMa
import Derived.Test.YtchadlbhdcpojaaGreatDoorRows
import Derived.Deep.Slices
import Derived.Deep.Fields
import Derived.WideKeyArgs
import Derived.WalkKit
import Derived.Test.YtchadlbhdcpojaaGreatDoorXd
import Derived.Test.YtchadlbhdcpojaaGreatDoorCards
import Derived.Test.YtchadlbhdcpojaaGreatDoorTie
import Derived.ProofKit
import Derived.OpenShut
import Derived.Carry
import Derived.Deep.DeepHandedRow
import Derived.Lib.LaidTab
namespace Go.Proofs.YtchadlbhdcpojaaGreatDoor
open Go.RowKit Go.ChangeShapes Go.WideShapes Go.Deep

theorem cV : Tryz.prog.cellsOf 27 = 5 := by kernel_rfl
theorem cI : Tryz.prog.cellsOf 3 = 1 := by kernel_rfl
theorem cS : Tryz.prog.cellsOf 9 = 1 := by kernel_rfl
theorem cL : Tryz.prog.cellsOf 24 = 1 := by kernel_rfl
theorem cK : Tryz.prog.cellsOf 25 = 1 := by kernel_rfl

theorem strs_list {W : World} {b : Nat} : ∀ (len off : Nat), (∀ i, i < len → ∃ s : ByteArray, W.cell? ⟨b, off + i, none⟩ = some (.string s) ∧ s.size ≤ maxLen) → ∃ l : List ByteArray, l.length = len ∧ StrsFrom W l b off
  | 0, _, _ => ⟨[], rfl, trivial⟩
  | len + 1, off, h => by
    obtain ⟨s, h1, h2⟩ := h 0 (by omega)
    obtain ⟨l, h3, h4⟩ := strs_list len (off + 1) (fun i hi => by
      have := h (i + 1) (by omega)
      rw [show off + 1 + i = off + (i + 1) by omega]; exact this)
    exact ⟨s :: l, by simp [h3], h1, h2, h4⟩
/-- A value's fields in five cells. -/
def FiveAt (W : World) (b o : Nat) : Prop := ∃ (v : V) (A : Option Addr) (c : Nat) (K : Option Addr) (d : Nat), W.cell? ⟨b, o, none⟩ = some (.int .i64 v.kind) ∧ W.cell? ⟨b, o + 1, none⟩ = some (.int .i64 v.int) ∧ W.cell? ⟨b, o + 2, none⟩ = some (.string v.text) ∧ W.cell? ⟨b, o + 3, none⟩ = some (.slice A v.items.length c) ∧ W.cell? ⟨b, o + 4, none⟩ = some (.slice K v.keys.length d) ∧ Lies W W.heap.size v A c K d
theorem vals_list {W : World} {b : Nat} : ∀ (len off : Nat), (∀ i, i < len → FiveAt W b (off + i * 5)) → ∃ l : List V, l.length = len ∧ LiesFrom W W.heap.size l b off
  | 0, _, _ => ⟨[], rfl, trivial⟩
  | len + 1, off, h => by
    obtain ⟨v, A, c, K, d, h0⟩ := h 0 (by omega)
    obtain ⟨l, h3, h4⟩ := vals_list len (off + 5) (fun i hi => by
      have := h (i + 1) (by omega)
      rw [show off + 5 + i * 5 = off + (i + 1) * 5 by omega]; exact this)
    exact ⟨v :: l, by simp [h3], ⟨A, c, K, d, by simpa using h0⟩, h4⟩
section
variable {H : Type} {enc : TypeId × Value → H} {W : World}
theorem open_keys {n : Nat} {c : Value} {x : DataW H × List MemPlace} (h : DataW.trod enc Tryz.prog W 0 (fun _ => true) true n 25 [c] = some x) : ∃ (K : Option Addr) (d : Nat) (l : List ByteArray), c = .slice K l.length d ∧ Strs W W.heap.size K d l := by
  rcases DataW.trod_slice Tryz.underlying25 h with ⟨hc, _⟩ | ⟨a, len, cap, elems, rest, m, _, hc, _, _, hl, hm, hel, hat, _, _⟩
  · simp only [List.cons.injEq, and_true] at hc
    exact ⟨none, 0, [], hc, ⟨Nat.le_refl _, by simp [maxLen], .inl rfl⟩⟩
  · simp only [List.cons.injEq, and_true] at hc
    obtain ⟨b, off, sp⟩ := a
    have hs : ∀ i, i < len → ∃ s : ByteArray, W.cell? ((⟨b, off, sp⟩ : Addr).add i) = some (.string s) ∧ s.size ≤ maxLen := by
      intro i hi
      have h1 := hat i hi
      rw [List.getElem?_eq_getElem (by omega), cS, Nat.mul_one] at h1
      obtain ⟨cs, h2, h3⟩ := Option.bind_eq_some_iff.1 h1
      obtain ⟨s, rfl, _, hsz⟩ := DataW.trod_string Tryz.underlying9 h3
      obtain ⟨_, _, hcell⟩ := World.cells?_some h2
      have := hcell 0 (by omega)
      rw [Go.Deep.add_add, Nat.add_zero] at this
      exact ⟨s, this, hsz⟩
    rcases Nat.eq_zero_or_pos len with h0 | hpos
    · subst h0
      exact ⟨_, cap, [], hc, ⟨by simp, hm, .inl rfl⟩⟩
    · have hsp : sp = none := by
        obtain ⟨s, h1, _⟩ := hs 0 hpos
        simpa [Addr.add] using World.cell?_spot h1
      subst hsp
      obtain ⟨l, h1, h2⟩ := strs_list (W := W) (b := b) len off (fun i hi => by
        obtain ⟨s, h1, h2⟩ := hs i hi
        rw [Addr.add_lit] at h1
        exact ⟨s, h1, h2⟩)
      obtain ⟨s, h3, _⟩ := hs 0 hpos
      exact ⟨_, cap, l, by rw [hc, h1], ⟨by omega, hm, .inr ⟨b, off, rfl, World.block_lt_of_cell? W _ h3, h2⟩⟩⟩

set_option maxRecDepth 100000 in
set_option maxHeartbeats 2000000 in
theorem open_value : ∀ (n : Nat) (cs : List Value) (x : DataW H × List MemPlace), DataW.trod enc Tryz.prog W 0 (fun _ => true) true n 27 cs = some x →
    ∃ (v : V) (A : Option Addr) (c : Nat) (K : Option Addr) (d : Nat), cs = [.int .i64 v.kind, .int .i64 v.int, .string v.text, .slice A v.items.length c, .slice K v.keys.length d] ∧ Lies W W.heap.size v A c K d := by
  intro n
  induction n using Nat.strongRecOn with
  | ind n ih =>
    intro cs x h
    obtain ⟨xs, m, hn, _, hlen, hxl, hg⟩ := DataW.trod_struct Tryz.underlying27 h
    rw [cV] at hlen
    match cs, hlen, xs, hxl with
    | [c0, c1, c2, c3, c4], _, [y0, y1, y2, y3, y4], _ =>
      have g0 := hg 0 _ rfl
      have g1 := hg 1 _ rfl
      have g2 := hg 2 _ rfl
      have g3 := hg 3 _ rfl
      have g4 := hg 4 _ rfl
      simp [cI, cS, cL, cK] at g0 g1 g2 g3 g4
      obtain ⟨k, hk, _, _⟩ := DataW.trod_int Tryz.underlying3 g0
      obtain ⟨i, hi, _, _⟩ := DataW.trod_int Tryz.underlying3 g1
      obtain ⟨t, ht, _, hts⟩ := DataW.trod_string Tryz.underlying9 g2
      obtain ⟨K, d, keys, hK, hKs⟩ := open_keys g4
      simp at hk hi ht
      have h3 : ∃ (A : Option Addr) (c : Nat) (l : List V), c3 = .slice A l.length c ∧ l.length ≤ c ∧ c ≤ maxLen ∧ (l = [] ∨ ∃ b o, A = some ⟨b, o, none⟩ ∧ b < W.heap.size ∧ LiesFrom W W.heap.size l b o) := by
        rcases DataW.trod_slice Tryz.underlying24 g3 with ⟨hc, _⟩ | ⟨a, len, cap, elems, rest, m', hm', hc, _, _, hl, hm, hel, hat, _, _⟩
        · simp at hc
          exact ⟨none, 0, [], hc, Nat.le_refl _, by simp [maxLen], .inl rfl⟩
        · simp at hc
          obtain ⟨b, off, sp⟩ := a
          have hs : ∀ i, i < len → ∃ (v : V) (A : Option Addr) (c : Nat) (K : Option Addr) (d : Nat), (∀ (j : Nat) (u : Value), [Value.int .i64 v.kind, .int .i64 v.int, .string v.text, .slice A v.items.length c, .slice K v.keys.length d][j]? = some u → W.cell? (((⟨b, off, sp⟩ : Addr).add (i * 5)).add j) = some u) ∧ Lies W W.heap.size v A c K d := by
            intro i hi
            have h1 := hat i hi
            rw [List.getElem?_eq_getElem (by omega), cV] at h1
            obtain ⟨cs', h2, h3⟩ := Option.bind_eq_some_iff.1 h1
            obtain ⟨v, A, c, K, d, rfl, hL⟩ := ih m' (by omega) cs' _ h3
            obtain ⟨_, _, hcell⟩ := World.cells?_some h2
            refine ⟨v, A, c, K, d, fun j u hj => ?_, hL⟩
            have hj5 : j < 5 := by
              rcases Nat.lt_or_ge j 5 with h | h
              · exact h
              · rw [List.getElem?_eq_none (by simpa using h)] at hj; cases hj
            rw [hcell j hj5]
            exact hj
          rcases Nat.eq_zero_or_pos len with h0 | hpos
          · subst h0
            exact ⟨_, cap, [], hc, by simp, hm, .inl rfl⟩
          · have hsp : sp = none := by
              obtain ⟨v, A, c, K, d, h1, _⟩ := hs 0 hpos
              have := World.cell?_spot (h1 0 _ rfl)
              simpa [Addr.add] using this
            subst hsp
            obtain ⟨l, h1, h2⟩ := vals_list (W := W) (b := b) len off (fun i hi => by
              obtain ⟨v, A, c, K, d, h1, hL⟩ := hs i hi
              simp only [Addr.add_lit] at h1
              exact ⟨v, A, c, K, d, by simpa using h1 0 _ rfl, h1 1 _ rfl, h1 2 _ rfl, h1 3 _ rfl, h1 4 _ rfl, hL⟩)
            obtain ⟨v, A, c, K, d, h3, _⟩ := hs 0 hpos
            have h4 := h3 0 _ rfl
            exact ⟨_, cap, l, by rw [hc, h1], by omega, hm, .inr ⟨b, off, rfl, World.block_lt_of_cell? W _ h4, h2⟩⟩
      obtain ⟨A, c, l, hA, hl1, hl2, hl3⟩ := h3
      refine ⟨.mk k i t l keys, A, c, K, d, ?_, hts, hl1, hl2, hKs, hl3⟩
      rw [hk, hi, ht, hA, hK]
      rfl
end
end Go.Proofs.YtchadlbhdcpojaaGreatDoor
/- The law on comparing, walked. -/
namespace Go.Proofs.YtchadlbhdcpojaaGreatDoor
open Go.RowKit

def aggOf (x : V) (A : Option Addr) (c : Nat) (K : Option Addr) (d : Nat) : Value := .agg #[.int .i64 x.kind, .int .i64 x.int, .string x.text, .slice A x.items.length c, .slice K x.keys.length d]

end Go.Proofs.YtchadlbhdcpojaaGreatDoor
/- The rows: an argument's reading, a world for the witness, and what a law leaves. -/
namespace Go.Proofs.YtchadlbhdcpojaaGreatDoor
open Go.ChangeShapes Go.WideShapes Go.ChangeAt Go.RowKit

theorem own : ownKnob Tryz.prog.godebug = none := by kernel_rfl
theorem laidOutP : laidOutB Tryz.prog = true := by kernel_rfl
/-- The three lists. -/
def laidL : List (String × DataW Unit) := [("math/bits.deBruijn32tab", Rows.laid_math_bits_deBruijn32tab), ("math/bits.deBruijn64tab", Rows.laid_math_bits_deBruijn64tab), ("internal/strconv.uint64pow10", Rows.laid_internal_strconv_uint64pow10)]
theorem laid_one : laidL.filter (fun x => x.1 == "internal/strconv.uint64pow10") = [("internal/strconv.uint64pow10", Lib.tabData .u64 Lib.pow10Tab)] := by kernel_rfl
theorem pow_of {W : World} (h : laidMetH Tryz.prog laidL W) : Pow W := by
  have h1 : laidMet Tryz.prog laidL W := h
  have h2 := laidMet.filter (fun x => x.1 == "internal/strconv.uint64pow10") h1
  rw [laid_one] at h2
  exact Lib.tabIs_of_head (rest := []) (t := 130) (e := 121) (n := 20) gPow (by kernel_rfl) Tryz.underlying130 Tryz.underlying121 (by kernel_rfl) (by kernel_rfl) h2

section
variable {H : Type} {enc : TypeId × Value → H}
/-- What a law leaves that answers true and turns nothing that was there. -/
theorem post_below {P : Program} {f : Func} {s : ChangeSpec} {apart fresh handsOn again : Bool} {W W' : World} {args : Array Value} {v : Value} {ds gs : List (DataW H)} {before pa pv : List MemPlace}
    (hW : DataW.Whole enc P f.params.toList s.vars apart W args.toList ds gs before)
    (hres : ∀ (b : Nat) (sp : Nat → Bool) (hd : Bool), DataW.TrodAll enc P W' b sp hd f.resultTypes.toList (v.resultList f.resultTypes.size) (s.fn H (ds ++ gs)).results [])
    (hargs : ∀ sp : Nat → Bool, (∀ p ∈ before, sp p.block = true) → DataW.TrodAll enc P W' 0 sp true f.params.toList args.toList (s.fn H (ds ++ gs)).args pa)
    (hvars : ∀ sp : Nat → Bool, (∀ p ∈ before, sp p.block = true) → DataW.TrodVars enc P W' sp s.vars (s.fn H (ds ++ gs)).vars pv)
    (hps : before = pa ++ pv) (hb : Below W.heap.size W W')
    (hok : ∀ (j : Nat) (t : TypeId) (r : Value), f.resultTypes[j]? = some t → (v.resultList f.resultTypes.size)[j]? = some r → Value.okWide P W' .any 0 t r) :
    s.post enc P f apart fresh handsOn again W args v W' := by
  have hlt := hW.lt
  have hold : ∀ p ∈ before, (fun b => decide (b < W.heap.size)) p.block = true := fun p hp => by simpa using hlt p hp
  refine ⟨ds, gs, before, [], pa, pv, hW, hres _ _ _, hargs _ hold, hvars _ hold, World.keptBut_mono (fun p hp => ⟨hp, ?_⟩) (hb.frame _), fun _ => ?_⟩
  · rw [hps, List.mem_append] at hp
    exact Or.inr hp
  · obtain ⟨_, _, _, _, _, hz, hn⟩ := hW
    refine ⟨hok, _, _, ([] ++ pa) ++ pv, ⟨[] ++ pa, pv, trodAll_append (hargs _ (fun _ _ => rfl)) (hres _ _ _), hvars _ (fun _ _ => rfl), rfl, ?_, ?_⟩, ?_⟩
    · intro b off hp
      have hp' : MemPlace.cell b off ∈ before := by rw [hps]; simpa using hp
      rw [hb.frozen (p := ⟨b, off, none⟩) (hlt _ hp')]
      exact hz b off hp'
    · intro ha
      have := hn ha
      rw [hps] at this
      simpa using this
    · intro p hp _
      rw [hps]
      simpa using hp
end

/-- A world for the witness: the settled one, the tables holding what their initialisers lay. -/
def tab (q : IntKind) (zs : List Int) : Array Value := (zs.map (Value.int q)).toArray
def lay (cs : Array Value) : Obj → Obj
  | .cells _ t frozen => .cells cs t frozen
  | o => o
noncomputable def laidWorld (os : Os) : World :=
  { World.holding Tryz.prog os ⟨#[], #[], []⟩ with heap := (((World.holding Tryz.prog os ⟨#[], #[], []⟩).heap.modify 0 (lay (tab .u64 [1, 10, 100, 1000, 10000, 100000, 1000000, 10000000, 100000000, 1000000000, 10000000000, 100000000000, 1000000000000, 10000000000000, 100000000000000, 1000000000000000, 10000000000000000, 100000000000000000, 1000000000000000000, 10000000000000000000]))).modify 1 (lay (tab .u8 [0, 1, 28, 2, 29, 14, 24, 3, 30, 22, 20, 15, 25, 17, 4, 8, 31, 27, 13, 23, 21, 19, 16, 7, 26, 12, 18, 6, 11, 5, 10, 9]))).modify 2 (lay (tab .u8 [0, 1, 56, 2, 57, 49, 28, 3, 61, 58, 42, 50, 38, 29, 17, 4, 62, 47, 59, 36, 45, 43, 51, 22, 53, 39, 33, 30, 24, 18, 12, 5, 63, 55, 48, 27, 60, 41, 37, 16, 46, 35, 44, 21, 52, 32, 23, 11, 54, 26, 40, 15, 34, 20, 31, 10, 25, 14, 19, 9, 13, 8, 7, 6])) }
end Go.Proofs.YtchadlbhdcpojaaGreatDoor

/- A region whose last operation waits for all others: the others in whatever order, then the last one. -/
import Derived.Test.YtebmjefimbcefaaGreatDoorMb
import Derived.Deep.RegionHeld3
import Derived.Test.YtebmjefimbcefaaGreatDoorJg
import Derived.Test.YtebmjefimbcefaaGreatDoorJh
namespace Go.Proofs.YtebmjefimbcefaaGreatDoor
open Go.RowKit
/-- What is asked behind the others: that the last one can be carried out. -/
def Upto (P : Program) (ops : Array Oper) (n : Nat) (Q : Exit → Act → World → Prop) : Exit → Act → World → Prop
  | .normal, a, w => wpOp P ops Q n (fun a w => Q .normal a w) a w
  | e, a, w => Q e a w
/-- No operation is guarded; each waits for earlier ones alone; the last one for all. -/
def lastOk (md : Region.Mode) (ops : Array Oper) (last : Oper) : Bool :=
  (List.range ops.size).all (fun i => match ops[i]? with | some o => o.guard.isNone && o.after.all (fun e => !Region.binds md e || decide (e.on < i)) | none => false) &&
  last.guard.isNone && last.after.all (fun e => !Region.binds md e || decide (e.on < ops.size)) && (List.range ops.size).all (fun k => last.after.any (fun e => Region.binds md e && e.on == k))
section
variable {P : Program} {md : Region.Mode} {ops : Array Oper} {last : Oper} {Q Q' : Exit → Act → World → Prop}
theorem lastOk_op (h : lastOk md ops last = true) {i : Nat} {o : Oper} (ho : ops[i]? = some o) : o.guard = none ∧ ∀ e ∈ o.after, Region.binds md e = true → e.on < i := by
  unfold lastOk at h
  simp only [Bool.and_eq_true, List.all_eq_true, List.mem_range] at h
  have hi : i < ops.size := (Array.getElem?_eq_some_iff.1 ho).1
  have h1 := h.1.1.1 i hi
  rw [ho] at h1
  simp only [Bool.and_eq_true, Option.isNone_iff_eq_none, Array.all_eq_true_iff_forall_mem, Bool.or_eq_true, Bool.not_eq_true', decide_eq_true_eq] at h1
  exact ⟨h1.1, fun e he hb => (h1.2 e he).resolve_left (by rw [hb]; simp)⟩
theorem lastOk_end (h : lastOk md ops last = true) : last.guard = none ∧ (∀ e ∈ last.after, Region.binds md e = true → e.on < ops.size) ∧ ∀ k, k < ops.size → ∃ e ∈ last.after, Region.binds md e = true ∧ e.on = k := by
  unfold lastOk at h
  simp only [Bool.and_eq_true, List.all_eq_true, List.mem_range, Option.isNone_iff_eq_none, Array.all_eq_true_iff_forall_mem, Bool.or_eq_true, Bool.not_eq_true', decide_eq_true_eq, Array.any_eq_true', beq_iff_eq] at h
  exact ⟨h.1.1.2, fun e he hb => (h.1.2 e he).resolve_left (by rw [hb]; simp), fun k hk => by
    obtain ⟨e, he, hb, hk'⟩ := h.2 k hk
    exact ⟨e, he, hb, hk'⟩⟩
/-- Where nothing may come up all has come up. -/
theorem all_listed (h : ∀ i o, ops[i]? = some o → ∀ e ∈ o.after, Region.binds md e = true → e.on < i) {listed : Array Bool} (hs : listed.size = ops.size) (hr : Region.ready md ops listed = []) : ∀ i, i < ops.size → listed.getD i true = true := by
  intro i
  induction i using Nat.strongRecOn with
  | ind i ih =>
    intro hi
    by_cases hl : listed.getD i true = true
    · exact hl
    · exfalso
      have : i ∈ Region.ready md ops listed := mem_ready.2 ⟨by simpa using hl, ops[i], Array.getElem?_eq_getElem hi, fun e he hb => by
        have h1 := h i _ (Array.getElem?_eq_getElem hi) e he hb
        have h2 := ih e.on h1 (by omega)
        have h3 : e.on < listed.size := by omega
        rw [Array.getD_eq_getD_getElem?, Array.getElem?_eq_getElem h3] at h2 ⊢
        exact h2⟩
      rw [hr] at this
      cases this
theorem push_lt {listed : Array Bool} {i : Nat} (d : Bool) (h : i < listed.size) : (listed.push false).getD i d = listed.getD i d := by
  rw [Array.getD_eq_getD_getElem?, Array.getD_eq_getD_getElem?, Array.getElem?_push_lt h, Array.getElem?_eq_getElem h]
theorem push_at {listed : Array Bool} {n : Nat} (h : listed.size = n) (d : Bool) : (listed.push false).getD n d = false := by
  subst h
  rw [Array.getD_eq_getD_getElem?, Array.getElem?_push_size]; rfl
theorem wp_turn {o : Oper} {a : Act} {w : World} {K K' : Act → World → Prop} (hK : ∀ a w, K' a w → K a w) (hp : ∀ c a w, Q' (.panic c) a w → Q (.panic c) a w) (ho : ∀ a w, Q' .outgrown a w → Q .outgrown a w) (h : o.wp P a w K' Q') : o.wp P a w K Q := by
  unfold Oper.wp at *
  generalize (execOp a.eval o).run P w = r at *
  cases r with
  | ok n w' =>
    cases n <;> simp only [Oper.upon] at h ⊢
    case value => exact hK _ _ h
    case skip => exact hK _ _ h
    case defer => exact hK _ _ h
    case enter f args =>
      refine Calls.mono h fun e w'' he => ?_
      cases e with
      | returned u => exact hK _ _ he
      | panicked c => exact hp _ _ _ he
      | outgrown => exact he.imp fun a h => h.imp fun w h => ho a w h
    case row => exact Rows.mono h fun _ _ he => hK _ _ he
  | halt x w' =>
    cases x <;> simp only [Oper.upon] at h ⊢
    exact hp _ _ _ h
theorem wpOp_push {i : Nat} {a : Act} {w : World} {K K' : Act → World → Prop} (hok : lastOk md ops last = true) (hi : i < ops.size) (hK : ∀ a w, K' a w → K a w) (h : wpOp P ops (Upto P (ops.push last) ops.size Q) i K' a w) : wpOp P (ops.push last) Q i K a w := by
  have ho : ops[i]? = some ops[i] := Array.getElem?_eq_getElem hi
  have hg := (lastOk_op hok ho).1
  unfold wpOp at h ⊢
  rw [ho] at h
  rw [Array.getElem?_push_lt hi]
  simp only [Region.wanted, hg, if_true] at h ⊢
  refine h.imp (wp_turn hK (fun _ _ _ h => h) (fun _ _ h => h)) fun h => ⟨h.1, h.2⟩
theorem full_ready {listed : Array Bool} (h : ∀ i, i < ops.size → listed.getD i true = true) : Region.ready md ops listed = [] := by
  rw [List.eq_nil_iff_forall_not_mem]
  intro i hi
  obtain ⟨h0, o, ho, -⟩ := mem_ready.1 hi
  rw [h i (Array.getElem?_eq_some_iff.1 ho).1] at h0
  cases h0
theorem wpAny_push (hok : lastOk md ops last = true) : ∀ (fuel : Nat) (listed : Array Bool) (a : Act) (w : World), listed.size = ops.size → wpAny P md ops (Upto P (ops.push last) ops.size Q) fuel listed a w → wpAny P md (ops.push last) Q (fuel + 1) (listed.push false) a w := by
  have hall : ∀ i o, (ops.push last)[i]? = some o → ∀ e ∈ o.after, Region.binds md e = true → e.on < i := by
    intro i o ho e he hb
    have hi : i < ops.size + 1 := by have := (Array.getElem?_eq_some_iff.1 ho).1; rw [Array.size_push] at this; exact this
    rcases Nat.lt_or_ge i ops.size with hlt | hge
    · rw [Array.getElem?_push_lt hlt] at ho
      exact (lastOk_op hok (by rw [Array.getElem?_eq_getElem hlt]; exact ho)).2 e he hb
    · have : i = ops.size := by omega
      subst this
      rw [Array.getElem?_push_size] at ho
      cases ho
      exact (lastOk_end hok).2.1 e he hb
  have hsome : ∀ (listed : Array Bool), listed.size = ops.size → ¬ Region.ready md (ops.push last) (listed.push false) = [] := by
    intro listed hs hr
    have := all_listed hall (by simp [hs]) hr ops.size (by simp)
    rw [push_at hs] at this
    cases this
  have hin : ∀ (listed : Array Bool), listed.size = ops.size → ∀ i ∈ Region.ready md (ops.push last) (listed.push false), (i = ops.size ∧ ∀ k, k < ops.size → listed.getD k true = true) ∨ (i < ops.size ∧ i ∈ Region.ready md ops listed) := by
    intro listed hs i hi
    obtain ⟨h0, o, ho, he⟩ := mem_ready.1 hi
    have hi' : i < ops.size + 1 := by have := (Array.getElem?_eq_some_iff.1 ho).1; rw [Array.size_push] at this; exact this
    rcases Nat.lt_or_ge i ops.size with hlt | hge
    · refine .inr ⟨hlt, mem_ready.2 ⟨by rw [push_lt true (by omega)] at h0; exact h0, o, by rw [Array.getElem?_push_lt hlt] at ho; rw [Array.getElem?_eq_getElem hlt]; exact ho, fun e hem hb => ?_⟩⟩
      have h1 := hall i o ho e hem hb
      have h2 := he e hem hb
      rw [push_lt false (by omega)] at h2
      exact h2
    · have hn : i = ops.size := by omega
      subst hn
      rw [Array.getElem?_push_size] at ho
      cases ho
      refine .inl ⟨rfl, fun k hk => ?_⟩
      obtain ⟨e, hem, hb, rfl⟩ := (lastOk_end hok).2.2 k hk
      have h2 := he e hem hb
      rw [push_lt false (by omega), Array.getD_eq_getD_getElem?, Array.getElem?_eq_getElem (by omega : e.on < listed.size)] at h2
      rw [Array.getD_eq_getD_getElem?, Array.getElem?_eq_getElem (by omega : e.on < listed.size)]
      exact h2
  have hend : ∀ (fuel : Nat) (listed : Array Bool), listed.size = ops.size → (∀ k, k < ops.size → listed.getD k true = true) → ∀ a w, Q .normal a w → wpAny P md (ops.push last) Q fuel ((listed.push false).setIfInBounds ops.size true) a w := by
    intro fuel listed hs hl a w hq
    have hr : Region.ready md (ops.push last) ((listed.push false).setIfInBounds ops.size true) = [] := full_ready fun i hi => by
      rw [Array.size_push] at hi
      by_cases he : ops.size = i
      · subst he
        rw [Array.getD_eq_getD_getElem?, Array.getElem?_setIfInBounds_self_of_lt (by simp [hs])]; rfl
      · rw [getD_set_ne true he, push_lt true (by omega)]
        exact hl i (by omega)
    cases fuel with
    | zero => exact ⟨hr, hq⟩
    | succ k => exact ⟨fun _ => hq, by rw [hr]; simp⟩
  intro fuel
  induction fuel with
  | zero =>
    intro listed a w hs h
    refine ⟨fun hr => absurd hr (hsome listed hs), fun i hi => ?_⟩
    rcases hin listed hs i hi with ⟨rfl, hl⟩ | ⟨hlt, hi'⟩
    · exact wpOp_mono (fun a w hq => hend 0 listed hs hl a w hq) h.2
    · rw [h.1] at hi'; cases hi'
  | succ fuel ih =>
    intro listed a w hs h
    refine ⟨fun hr => absurd hr (hsome listed hs), fun i hi => ?_⟩
    rcases hin listed hs i hi with ⟨rfl, hl⟩ | ⟨hlt, hi'⟩
    · exact wpOp_mono (fun a w hq => hend (fuel + 1) listed hs hl a w hq) (h.1 (full_ready hl))
    · refine wpOp_push hok hlt (fun a w h' => ?_) (h.2 i hi')
      have := ih (listed.setIfInBounds i true) a w (by simp [hs]) h'
      rw [show (listed.push false).setIfInBounds i true = (listed.setIfInBounds i true).push false from by
        apply Array.ext'
        rw [Array.toList_setIfInBounds, Array.toList_push, Array.toList_push, Array.toList_setIfInBounds, List.set_append_left _ _ (by simp; omega)]]
      exact this
/-- A region that draws its order, its last operation waiting for all others: the others with a condition held, then that one. -/
theorem region_push {id : Nat} {all : Array Oper} {a : Act} {w : World} (S : World → Prop) (ops : Array Oper) (last : Oper) (he : all = ops.push last) (hm : P.follows .mixedOrders = true) (hok : lastOk .any ops last = true) (hS : S w.drew)
    (h : S w.drew → wpAnyH P .any ops (Upto P (ops.push last) ops.size Q) S ops.size (Array.replicate ops.size false) a w.drew) : (Code.region id all true).wp P Q a w := by
  subst he
  refine wp_region_any hm ?_
  have := wpAny_push hok ops.size (Array.replicate ops.size false) a w.drew (by simp) (wpAny_of_held _ _ _ _ (h hS))
  rw [Array.size_push, Array.replicate_succ]
  exact this
/-- The last one, where it is carried out. -/
theorem upto_step {n : Nat} {o : Oper} {a : Act} {w : World} (ho : ops[n]? = some o) (h : ∀ K' : Act → World → Prop, (∀ a w, Q .normal a w → K' a w) → if Region.wanted o (yielded ops a.tmps) = true then Oper.wp P o a w K' Q else K' (a.put o.dst undef) w) : Upto P ops n Q .normal a w :=
  wpOp_step ho h
end
open Go.RowKit
theorem withK_mem (k : ByteArray) (x : V) : ∀ (ks : List ByteArray) (l : List V) (d : Bool) (z : V), z ∈ (withK k x d ks l).2 → z ∈ l ∨ z = x
  | kk :: ks, y :: l, d, z, h => by
    have ih := withK_mem k x ks l
    rw [withK] at h
    split at h
    · split at h
      · rcases List.mem_cons.1 h with h | h
        · exact .inr h
        · exact (ih _ z h).imp (List.mem_cons_of_mem _) id
      · rcases List.mem_cons.1 h with h | h
        · exact .inr h
        · rcases List.mem_cons.1 h with h | h
          · exact .inl (List.mem_cons.2 (.inl h))
          · exact (ih _ z h).imp (List.mem_cons_of_mem _) id
    · split at h
      · exact (ih _ z h).imp (List.mem_cons_of_mem _) id
      · rcases List.mem_cons.1 h with h | h
        · exact .inl (List.mem_cons.2 (.inl h))
        · exact (ih _ z h).imp (List.mem_cons_of_mem _) id
  | [], l, d, z, h => by
    rw [withK] at h
    · split at h
      · cases h
      · exact .inr (List.mem_singleton.1 h)
    · intros; simp_all
  | _ :: _, [], d, z, h => by
    rw [withK] at h
    · split at h
      · cases h
      · exact .inr (List.mem_singleton.1 h)
    · intros; simp_all
/-- Every item is null. -/
def Nulls (m : V) : Prop := ∀ z ∈ m.items, z = nullV
theorem room_nulls {m : V} (h : Ob m) {k : ByteArray} (hk : textB k.data.toList = true) (hn : Nulls m) : roomV m (kst k) = setK m k nullV ∧ Nulls (setK m k nullV) := by
  refine ⟨?_, ?_⟩
  · rw [room_is h hk, oldK_is h hk]
    cases hi : itemV m (kst k) with
    | none => rfl
    | some y => rw [hn y (item_mem hi)]; rfl
  · rw [setK_is h]
    intro z hz
    rcases withK_mem k nullV m.keys m.items false z hz with hz | hz
    · exact hn z hz
    · exact hz
theorem has_is {b : V} (h : b.ok = true) (k : ByteArray) : (itemV b (kst k)).isSome = hasI b k := by
  unfold hasI
  cases hi : itemV b (kst k) with
  | none => rw [item_none h hi]; rfl
  | some y => rw [(item_find hi).1]; rfl
/-- The item at a key, or null, and whether there is one. -/
theorem item_got (P : Nat → Prop) (x : V) (k : ByteArray) (w : World) (A K : Option Addr) (c d : Nat) (hP : ∀ b, P b → b < w.heap.size) (h : LiesIn P w x A c K d) (hok : x.ok = true) :
    Calls Tryz.prog 47 #[.agg #[.int .i64 x.kind, .int .i64 x.int, .string x.text, .slice A x.items.length c, .slice K x.keys.length d], .agg #[.int .i64 (-1), .string k]] w fun e w' =>
      ∃ A c K d, e = .returned (.tuple #[.agg #[.int .i64 (gotK x k).kind, .int .i64 (gotK x k).int, .string (gotK x k).text, .slice A (gotK x k).items.length c, .slice K (gotK x k).keys.length d], .bool (hasI x k)]) ∧ LiesIn P w' (gotK x k) A c K d ∧ Below w.heap.size w w' := by
  rw [← has_is hok k]
  unfold gotK
  refine (item_in P x (kst k) w A K c d hP h hok).mono ?_
  rintro e w' ⟨hb, he⟩
  cases hi : itemV x (kst k) with
  | none =>
    rw [hi] at he
    exact ⟨none, 0, none, 0, he, lies_leaf _ _ 0 0 _ (by decide), hb⟩
  | some y =>
    rw [hi] at he
    obtain ⟨A, c, K, d, he, hl⟩ := he
    exact ⟨A, c, K, d, he, hl, hb⟩
/-- The blocks that what is made hangs on while the box g stands. -/
def PP (P : Nat → Prop) (g : Nat) (W : World) (b : Nat) : Prop := P b ∨ (g < b ∧ b < W.heap.size)
/-- Where the making of a patch stands. -/
structure PE (w : World) (P : Nat → Prop) (g : Nat) (ca cb : Array Value) (F : V → Prop) (m : V) (A : Option Addr) (c : Nat) (K : Option Addr) (d : Nat) (W : World) : Prop where
  box : MB w ca cb W
  far : w.heap.size + 3 ≤ g
  bo : BlockIs W g 27 #[.int .i64 m.kind, .int .i64 m.int, .string m.text, .slice A m.items.length c, .slice K m.keys.length d]
  lies : LiesIn (PP P g W) W m A c K d
  ob : Ob m
  st : F m
section
variable {w W W' : World} {P : Nat → Prop} {g : Nat} {ca cb : Array Value} {F F' : V → Prop} {m q : V} {A K A' K' : Option Addr} {c d c' d' : Nat} {u0 u1 u2 u3 u4 : Value}
theorem PE.lt (h : PE w P g ca cb F m A c K d W) (hP : ∀ b, P b → b < w.heap.size) {b : Nat} (hb : PP P g W b) : b < W.heap.size := by
  have := h.bo.lt
  have := h.far
  rcases hb with hb | hb
  · have := hP b hb; omega
  · exact hb.2
theorem PE.on (h : PE w P g ca cb F m A c K d W) (hP : ∀ b, P b → b < w.heap.size) (hb : Below W.heap.size W W') : PE w P g ca cb F m A c K d W' :=
  ⟨h.box.on hb, h.far, h.bo.below hb h.bo.lt, LiesIn.keep (fun b o hx => bcell hb b o (h.lt hP hx)) (fun b hx => hx.imp id fun hx => ⟨hx.1, by have := hb.size; omega⟩) m h.lies, h.ob, h.st⟩
theorem PE.turn (h : PE w P g ca cb F m A c K d W) (hs : F' m) : PE w P g ca cb F' m A c K d W := ⟨h.box, h.far, h.bo, h.lies, h.ob, hs⟩
theorem PE.out (h : PE w P g ca cb F m A c K d W) (hb : Below W.heap.size W W') (hl : LiesIn (fun b => PP P g W b ∨ Fresh W W' b) W' q A' c' K' d') : LiesIn (PP P g W') W' q A' c' K' d' := by
  refine LiesIn.keep (fun _ _ _ => rfl) (fun b hx => ?_) q hl
  have := h.bo.lt
  have := hb.size
  rcases hx with (hx | hx) | hx
  · exact .inl hx
  · exact .inr ⟨hx.1, by omega⟩
  · exact .inr ⟨by have := hx.1; omega, hx.2⟩
theorem PE.in_ (h : PE w P g ca cb F m A c K d W) (hl : LiesIn (fun b => P b ∨ Fresh W W' b) W' q A' c' K' d') : LiesIn (PP P g W') W' q A' c' K' d' := by
  refine LiesIn.keep (fun _ _ _ => rfl) (fun b hx => ?_) q hl
  have := h.bo.lt
  rcases hx with hx | hx
  · exact .inl hx
  · exact .inr ⟨by have := hx.1; omega, hx.2⟩
theorem PE.put (h : PE w P g ca cb F m A c K d W) (hP : ∀ b, P b → b < w.heap.size) (hb : Below W.heap.size W W') (hl : LiesIn (fun b => PP P g W b ∨ Fresh W W' b) W' q A' c' K' d') (ho : Ob q) (hs : F' q) :
    PE w P g ca cb F' q A' c' K' d' (put5 W' g 0 (.int .i64 q.kind) (.int .i64 q.int) (.string q.text) (.slice A' q.items.length c') (.slice K' q.keys.length d')) := by
  have h' := h.on hP hb
  have hlo := h.out hb hl
  have hf := h.far
  obtain ⟨r0, r1, r2, r3, r4, hr0, hr1, hr2, hr3, hr4⟩ : ∃ r0 r1 r2 r3 r4 : Value, Value.int .i64 q.kind = r0 ∧ Value.int .i64 q.int = r1 ∧ Value.string q.text = r2 ∧ Value.slice A' q.items.length c' = r3 ∧ Value.slice K' q.keys.length d' = r4 := ⟨_, _, _, _, _, rfl, rfl, rfl, rfl, rfl⟩
  rw [hr0, hr1, hr2, hr3, hr4]
  have hh := fun k (hk : k ≠ g) => put5_heap W' g 0 r0 r1 r2 r3 r4 hk
  refine ⟨⟨((((h'.box.old.setCell (by show w.heap.size ≤ g; omega) _).setCell (by show w.heap.size ≤ g; omega) _).setCell (by show w.heap.size ≤ g; omega) _).setCell (by show w.heap.size ≤ g; omega) _).setCell (by show w.heap.size ≤ g; omega) _, h'.box.ba.to (hh _ (by omega)), h'.box.bb.to (hh _ (by omega)), h'.box.br.to (hh _ (by omega))⟩, hf, ?_, LiesIn.keep (fun b o hx => World.cell?_of_block (hh b ?_)) (fun b hx => hx.imp id fun hx => ⟨hx.1, by rw [put5_size]; exact hx.2⟩) q hlo, ho, hs⟩
  · rw [hr0, hr1, hr2, hr3, hr4]
    have := ((((h'.bo.set_ 0 r0).set_ 1 r1).set_ 2 r2).set_ 3 r3).set_ 4 r4
    simpa [put5] using this
  · rcases (show P b ∨ _ from hx) with hx | hx
    · have := hP b hx; omega
    · have := hx.1; omega
/-- What was made, answered. -/
theorem PE.done (h : PE w P g ca cb F m A c K d W) (hP : ∀ b, P b → b < w.heap.size) : OutQ P m w (.returned (aggOf m A c K d)) (put5 W (w.heap.size + 2) 0 u0 u1 u2 u3 u4) := by
  have hf := h.far
  refine ⟨_, _, _, _, rfl, LiesIn.keep (fun b o hx => World.cell?_of_block (put5_heap W (w.heap.size + 2) 0 u0 u1 u2 u3 u4 ?_)) (fun b hb => hb.imp id fun hb => ⟨by have := hb.1; omega, by rw [put5_size]; exact hb.2⟩) m h.lies, h.box.ends⟩
  rcases (show P b ∨ _ from hx) with hx | hx
  · have := hP b hx; show b ≠ w.heap.size + 2; omega
  · have := hx.1; show b ≠ w.heap.size + 2; omega
end
set_option maxHeartbeats 1000000 in
theorem refEq_any (x y : V) (b : Bool) (hb : (x.cmp y == 0) = b) (w : World) (A K : Option Addr) (c d : Nat) (A' K' : Option Addr) (c' d' : Nat) (hx : x.ok = true) (hy : y.ok = true) (h : Lies w w.heap.size x A c K d) (h' : Lies w w.heap.size y A' c' K' d') :
    Calls Tryz.prog 58 #[.agg #[.int .i64 x.kind, .int .i64 x.int, .string x.text, .slice A x.items.length c, .slice K x.keys.length d], .agg #[.int .i64 y.kind, .int .i64 y.int, .string y.text, .slice A' y.items.length c', .slice K' y.keys.length d']] w fun e w' =>
      e = .returned (.bool b) ∧ Below w.heap.size w w' := by
  have HB0 := Lib.hid (below_al (below_al (Below.refl _ w) (.cells #[.int .i64 x.kind, .int .i64 x.int, .string x.text, .slice A x.items.length c, .slice K x.keys.length d] 27)) (.cells #[.int .i64 y.kind, .int .i64 y.int, .string y.text, .slice A' y.items.length c', .slice K' y.keys.length d'] 27))
  have HC := Lib.hid (refOrder_any x.nodes x y _ A K c d A' K' c' d' (Nat.le_refl _) hx hy (lies_on h HB0.out) (lies_on h' HB0.out))
  obtain ⟨r, hr⟩ : ∃ r, r = x.cmp y := ⟨_, rfl⟩
  rw [← hr] at HC hb
  clear h h' hr hx hy
  go_enter Tryz.func58, Tryz.ntmps58
  go_wp2_with fail
  refine HC.out.mono ?_
  rintro e w1 ⟨rfl, hb1⟩
  have HB1 := Lib.hid (below_on HB0.out hb1)
  clear hb1 HC
  go_wp2_with fail
  go_ret
  exact ⟨rfl, HB1.out⟩
/-- What cells of two boxes hold, and that all lies above. -/
theorem two_cells {wr W : World} {g h : Nat} {t t' : TypeId} {x0 x1 x2 x3 x4 y0 y1 y2 y3 y4 : Value} (hg : BlockIs wr g t #[x0, x1, x2, x3, x4]) (hh : BlockIs wr h t' #[y0, y1, y2, y3, y4]) (hb : Below wr.heap.size wr W) :
    Hid (Below wr.heap.size wr W) ∧ (W.cell? ⟨g, 0, none⟩ = some x0 ∧ W.cell? ⟨g, 1, none⟩ = some x1 ∧ W.cell? ⟨g, 2, none⟩ = some x2 ∧ W.cell? ⟨g, 3, none⟩ = some x3 ∧ W.cell? ⟨g, 4, none⟩ = some x4) ∧ (W.cell? ⟨h, 0, none⟩ = some y0 ∧ W.cell? ⟨h, 1, none⟩ = some y1 ∧ W.cell? ⟨h, 2, none⟩ = some y2 ∧ W.cell? ⟨h, 3, none⟩ = some y3 ∧ W.cell? ⟨h, 4, none⟩ = some y4) :=
  ⟨Lib.hid hb, five_of (hg.below hb hg.lt), five_of (hh.below hb hh.lt)⟩
theorem below_set5 {w0 W : World} {n g : Nat} {u0 u1 u2 u3 u4 : Value} (h : Below n w0 W) (hg : n ≤ g) : Below n w0 (put5 W g 0 u0 u1 u2 u3 u4) :=
  ((((h.setCell (by exact hg) _).setCell (by exact hg) _).setCell (by exact hg) _).setCell (by exact hg) _).setCell (by exact hg) _
/-- Two cells of two blocks that are as they were. -/
theorem cells_2 {wx W : World} {g h o q : Nat} {x y : Value} (hg : W.heap[g]? = wx.heap[g]?) (hh : W.heap[h]? = wx.heap[h]?) (hx : wx.cell? ⟨g, o, none⟩ = some x) (hy : wx.cell? ⟨h, q, none⟩ = some y) :
    W.cell? ⟨g, o, none⟩ = some x ∧ W.cell? ⟨h, q, none⟩ = some y := ⟨(World.cell?_of_block hg).trans hx, (World.cell?_of_block hh).trans hy⟩
/-- The cells that are read where an entry is laid: two of one block, a key's, a box's five, an item's five. -/
structure Red (W : World) (g b3 q gO b2 o : Nat) (x3 x4 k u0 u1 u2 u3 u4 y0 y1 y2 y3 y4 : Value) : Prop where
  c3 : W.cell? ⟨g, 3, none⟩ = some x3
  c4 : W.cell? ⟨g, 4, none⟩ = some x4
  ck : W.cell? ⟨b3, q, none⟩ = some k
  e0 : W.cell? ⟨gO, 0, none⟩ = some u0
  e1 : W.cell? ⟨gO, 1, none⟩ = some u1
  e2 : W.cell? ⟨gO, 2, none⟩ = some u2
  e3 : W.cell? ⟨gO, 3, none⟩ = some u3
  e4 : W.cell? ⟨gO, 4, none⟩ = some u4
  i0 : W.cell? ⟨b2, o, none⟩ = some y0
  i1 : W.cell? ⟨b2, o + 1, none⟩ = some y1
  i2 : W.cell? ⟨b2, o + 2, none⟩ = some y2
  i3 : W.cell? ⟨b2, o + 3, none⟩ = some y3
  i4 : W.cell? ⟨b2, o + 4, none⟩ = some y4
section
variable {W W' : World} {g b3 q gO b2 o : Nat} {x3 x4 k u0 u1 u2 u3 u4 y0 y1 y2 y3 y4 : Value}
theorem Red.to (h : Red W g b3 q gO b2 o x3 x4 k u0 u1 u2 u3 u4 y0 y1 y2 y3 y4) (hk : ∀ b, b = g ∨ b = b3 ∨ b = gO ∨ b = b2 → W'.heap[b]? = W.heap[b]?) : Red W' g b3 q gO b2 o x3 x4 k u0 u1 u2 u3 u4 y0 y1 y2 y3 y4 := by
  have h1 := hk g (.inl rfl)
  have h2 := hk b3 (.inr (.inl rfl))
  have h3 := hk gO (.inr (.inr (.inl rfl)))
  have h4 := hk b2 (.inr (.inr (.inr rfl)))
  exact ⟨(World.cell?_of_block h1).trans h.c3, (World.cell?_of_block h1).trans h.c4, (World.cell?_of_block h2).trans h.ck, (World.cell?_of_block h3).trans h.e0, (World.cell?_of_block h3).trans h.e1, (World.cell?_of_block h3).trans h.e2, (World.cell?_of_block h3).trans h.e3, (World.cell?_of_block h3).trans h.e4, (World.cell?_of_block h4).trans h.i0, (World.cell?_of_block h4).trans h.i1, (World.cell?_of_block h4).trans h.i2, (World.cell?_of_block h4).trans h.i3, (World.cell?_of_block h4).trans h.i4⟩
theorem Red.all (h : Red W g b3 q gO b2 o x3 x4 k u0 u1 u2 u3 u4 y0 y1 y2 y3 y4) :
    (W.cell? ⟨g, 3, none⟩ = some x3 ∧ W.cell? ⟨g, 4, none⟩ = some x4 ∧ W.cell? ⟨b3, q, none⟩ = some k) ∧ (W.cell? ⟨gO, 0, none⟩ = some u0 ∧ W.cell? ⟨gO, 1, none⟩ = some u1 ∧ W.cell? ⟨gO, 2, none⟩ = some u2 ∧ W.cell? ⟨gO, 3, none⟩ = some u3 ∧ W.cell? ⟨gO, 4, none⟩ = some u4) ∧ (W.cell? ⟨b2, o, none⟩ = some y0 ∧ W.cell? ⟨b2, o + 1, none⟩ = some y1 ∧ W.cell? ⟨b2, o + 2, none⟩ = some y2 ∧ W.cell? ⟨b2, o + 3, none⟩ = some y3 ∧ W.cell? ⟨b2, o + 4, none⟩ = some y4) :=
  ⟨⟨h.c3, h.c4, h.ck⟩, ⟨h.e0, h.e1, h.e2, h.e3, h.e4⟩, h.i0, h.i1, h.i2, h.i3, h.i4⟩
end
open Go.RowKit
theorem items_valid {x y : V} (h : x.valid = true) (hy : y ∈ x.items) : y.valid = true := by
  have hok := valid_ok h
  unfold V.valid V.fits at h ⊢
  simp only [Bool.and_eq_true, decide_eq_true_eq] at h ⊢
  obtain ⟨k, i, t, l, ks⟩ := x
  have h1 := V.nodes_mem hy
  have h2 := V.depth_mem hy
  have h3 := h.1.2
  have h4 := h.2
  simp only [V.items, V.nodes, V.depth] at h1 h2 h3 h4
  exact ⟨⟨okItems hok y hy, by omega⟩, by omega⟩
theorem gotK_valid {a : V} (h : a.valid = true) (k : ByteArray) : (gotK a k).valid = true := by
  unfold gotK
  cases hi : itemV a (kst k) with
  | none => exact (by decide : nullV.valid = true)
  | some y => exact items_valid h (item_mem hi)
theorem eqV_is {x y : V} (hx : x.valid = true) (hy : y.valid = true) : eqV x y = (x.cmp y == 0) := by
  unfold eqV
  rw [hx, hy]; rfl
set_option maxRecDepth 100000 in
set_option maxHeartbeats 1000000 in
theorem refPatch_not (P : Nat → Prop) (a b : V) (w : World) (A K : Option Addr) (c d : Nat) (A' K' : Option Addr) (c' d' : Nat) (hP : ∀ b, P b → b < w.heap.size) (hb : LiesIn P w b A' c' K' d') (h5 : ¬ (a.kind = 5 ∧ b.kind = 5)) :
    Calls Tryz.prog 36 #[.agg #[.int .i64 a.kind, .int .i64 a.int, .string a.text, .slice A a.items.length c, .slice K a.keys.length d], .agg #[.int .i64 b.kind, .int .i64 b.int, .string b.text, .slice A' b.items.length c', .slice K' b.keys.length d']] w (OutQ P (patchV a b) w) := by
  have HB0 := Lib.hid (MB.start w #[.int .i64 a.kind, .int .i64 a.int, .string a.text, .slice A a.items.length c, .slice K a.keys.length d] #[.int .i64 b.kind, .int .i64 b.int, .string b.text, .slice A' b.items.length c', .slice K' b.keys.length d'])
  rw [patchV_not h5]
  have hcase : (a.kind != 5) = true ∨ ((a.kind != 5) = false ∧ (b.kind != 5) = true) := by
    by_cases h : a.kind = 5
    · exact .inr ⟨by simp [h], by simp; exact fun e => h5 ⟨h, e⟩⟩
    · exact .inl (by simp [h])
  have HL := Lib.hid hb
  have HP := Lib.hid hP
  clear hb h5 hP
  go_enter Tryz.func36, Tryz.ntmps36
  rcases hcase with h5a | ⟨h5a, h5b⟩
  all_goals
    go_upto_if 19 with (fail)
    obtain ⟨W1, hW1⟩ : ∃ W1, W1 = ((w.alloc (.cells #[.int .i64 a.kind, .int .i64 a.int, .string a.text, .slice A a.items.length c, .slice K a.keys.length d] 27)).alloc (.cells #[.int .i64 b.kind, .int .i64 b.int, .string b.text, .slice A' b.items.length c', .slice K' b.keys.length d'] 27)).alloc (.cells #[.int .i64 0, .int .i64 0, .string ⟨#[]⟩, .slice none 0 0, .slice none 0 0] 27) := ⟨_, rfl⟩
    rw [show zeroF = #[.int .i64 0, .int .i64 0, .string ⟨#[]⟩, .slice none 0 0, .slice none 0 0] from rfl, ← hW1] at HB0
    rw [← hW1]
    clear hW1
    obtain ⟨v0, v1, v2, v3, v4⟩ := five_of HB0.out.bb
    have vl := HB0.out.bb.lt
    obtain ⟨z0, z1, z2, z3, z4⟩ := five_of (show BlockIs W1 (w.heap.size + 2) 27 #[.int .i64 0, .int .i64 0, .string ⟨#[]⟩, .slice none 0 0, .slice none 0 0] from HB0.out.br)
    have f0 := HB0.out.br.frozen 0
    have f1 := HB0.out.br.frozen 1
    have f2 := HB0.out.br.frozen 2
    have f3 := HB0.out.br.frozen 3
    have f4 := HB0.out.br.frozen 4
    have zl := HB0.out.br.lt
    have HE := Lib.hid (HB0.out.ends (u0 := .int .i64 b.kind) (u1 := .int .i64 b.int) (u2 := .string b.text) (u3 := .slice A' b.items.length c') (u4 := .slice K' b.keys.length d'))
    go_wp2_with fail
    refine bodyPost_ret (v := .agg #[.int .i64 b.kind, .int .i64 b.int, .string b.text, .slice A' b.items.length c', .slice K' b.keys.length d']) (by simp [results, Tryz.results36, go_sem, z0, z1, z2, z3, z4]) rfl ?_
    exact ⟨_, _, _, _, rfl, LiesIn.keep (fun x o hx => bcell HE.out x o (HP.out x hx)) (fun x hx => .inl hx) b HL.out, HE.out⟩
end Go.Proofs.YtebmjefimbcefaaGreatDoor

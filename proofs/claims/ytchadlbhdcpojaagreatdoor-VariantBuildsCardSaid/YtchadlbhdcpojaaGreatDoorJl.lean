/- A region whose last operation waits for all others: the others in whatever order, then the last one. -/
import Derived.Test.YtchadlbhdcpojaaGreatDoorMb
import Derived.Deep.RegionHeld3
import Derived.RangeFuncKeeps
import Derived.OrdersIn
import Derived.Test.YtchadlbhdcpojaaGreatDoorJg
import Derived.Sort.CutIn
import Derived.OwnWalkIn
import Derived.TacticsInMore
import Derived.RangeFuncLeaves
import Derived.LoopIn
import Derived.Shelf.Abstract
import Derived.RangeFuncNested
import Derived.RangeFuncCalls
import Derived.RangeFuncBound
import Derived.Shelf.RegionOpen
import Derived.WalkKit
import Derived.LoopNIn
namespace Go.Proofs.YtchadlbhdcpojaaGreatDoor
open Go.RowKit
section
variable {P : Program} {md : Region.Mode} {ops : Array Oper} {last : Oper} {Q Q' : Exit → Act → World → Prop}
/-- Where nothing may come up all has come up. -/
theorem all_listed (h : ∀ i o, ops[i]? = some o → ∀ e ∈ o.after, Region.binds md e = true → e.on < i) {listed : Array Bool} (hs : listed.size = ops.size) (hr : Region.ready md ops listed = []) : ∀ i, i < ops.size → listed.getD i true = true := by
  intro i
  induction i using Nat.strongRecOn with
  | ind i ih =>
    intro hi
    by_cases hl : listed.getD i true = true
    · exact hl
    · exfalso
      have : i ∈ Region.ready md ops listed := mem_ready.2 ⟨by simpa using hl, ops[i], Array.getElem?_eq_getElem hi, fun e he hb => by
        have h1 := h i _ (Array.getElem?_eq_getElem hi) e he hb
        have h2 := ih e.on h1 (by omega)
        have h3 : e.on < listed.size := by omega
        rw [Array.getD_eq_getD_getElem?, Array.getElem?_eq_getElem h3] at h2 ⊢
        exact h2⟩
      rw [hr] at this
      cases this
theorem push_lt {listed : Array Bool} {i : Nat} (d : Bool) (h : i < listed.size) : (listed.push false).getD i d = listed.getD i d := by
  rw [Array.getD_eq_getD_getElem?, Array.getD_eq_getD_getElem?, Array.getElem?_push_lt h, Array.getElem?_eq_getElem h]
theorem push_at {listed : Array Bool} {n : Nat} (h : listed.size = n) (d : Bool) : (listed.push false).getD n d = false := by
  subst h
  rw [Array.getD_eq_getD_getElem?, Array.getElem?_push_size]; rfl
theorem full_ready {listed : Array Bool} (h : ∀ i, i < ops.size → listed.getD i true = true) : Region.ready md ops listed = [] := by
  rw [List.eq_nil_iff_forall_not_mem]
  intro i hi
  obtain ⟨h0, o, ho, -⟩ := mem_ready.1 hi
  rw [h i (Array.getElem?_eq_some_iff.1 ho).1] at h0
  cases h0
end
open Go.RowKit
section
variable {P : Program} {md : Region.Mode} {ops : Array Oper} {last : Oper} {Q Q' : Exit → Act → World → Prop} {n : Nat} {listed : Array Bool}
theorem wide_op {o : Oper} {a : Act} {w : World} {K : Act → World → Prop} (h : o.wp P a w K Q) : o.wpIn Fence.wide n P a w K Q := by
  refine ⟨fun _ _ => trivial, ?_⟩
  have hr : Fence.wide.round = none := rfl
  rw [hr, Oper.semAt_none]
  unfold Oper.wp at h
  generalize (execOp a.eval o).run P w = r at *
  cases r with
  | ok x w' =>
    cases x <;> simp only [Oper.upon, Oper.uponIn] at h ⊢
    case value => exact h
    case skip => exact h
    case defer => exact h
    case enter => exact ⟨(fun q => by cases q), callsIn_wide.2 (Calls.mono h fun e w'' he => by cases e <;> exact he)⟩
    case row =>
      refine ⟨(fun q => by cases q), fun c cs _ => ?_⟩
      obtain ⟨v, w', r, s⟩ := h c cs
      exact ⟨v, w', r, stepsIn_wide.2 s⟩
  | halt x w' => cases x <;> simp only [Oper.upon, Oper.uponIn] at h ⊢ <;> exact h
/-- What waits, directly or through others. -/
def depsOf (md : Region.Mode) (ops : Array Oper) (k : Nat) : List Nat := match ops[k]? with
  | some o => (o.after.toList.filter (Region.binds md)).map (·.on)
  | none => []
def waits (md : Region.Mode) (ops : Array Oper) : Nat → List Nat → List Nat
  | 0, l => l
  | f + 1, l => waits md ops f ((l ++ l.flatMap (depsOf md ops)).eraseDups)
def tailOk (md : Region.Mode) (ops : Array Oper) (last : Oper) : Bool :=
  (List.range ops.size).all (fun i => match ops[i]? with | some o => o.guard.isNone && o.after.all (fun e => !Region.binds md e || decide (e.on < i)) | none => false) &&
  last.guard.isNone && last.after.all (fun e => !Region.binds md e || decide (e.on < ops.size)) &&
  (List.range ops.size).all (fun k => (waits md ops ops.size ((last.after.toList.filter (Region.binds md)).map (·.on))).contains k)
/-- Whatever has come, what it waits for has come. -/
def Closed (md : Region.Mode) (ops : Array Oper) (listed : Array Bool) : Prop := ∀ (i : Nat) (o : Oper), ops[i]? = some o → listed.getD i false = true → ∀ e ∈ o.after, Region.binds md e = true → listed.getD e.on false = true
theorem waits_listed (hc : Closed md ops listed) : ∀ (f : Nat) (l : List Nat), (∀ k ∈ l, listed.getD k false = true) → ∀ k ∈ waits md ops f l, listed.getD k false = true
  | 0, l, h, k, hk => h k hk
  | f + 1, l, h, k, hk => by
    refine waits_listed hc f _ (fun j hj => ?_) k hk
    rw [List.mem_eraseDups, List.mem_append] at hj
    rcases hj with hj | hj
    · exact h j hj
    · obtain ⟨i, hi, hj⟩ := List.mem_flatMap.1 hj
      unfold depsOf at hj
      cases ho : ops[i]? with
      | none => rw [ho] at hj; cases hj
      | some o =>
        rw [ho] at hj
        obtain ⟨e, he, rfl⟩ := List.mem_map.1 hj
        rw [List.mem_filter] at he
        exact hc i o ho (h i hi) e (Array.mem_toList_iff.1 he.1) he.2
theorem tail_op (h : tailOk md ops last = true) {i : Nat} {o : Oper} (ho : ops[i]? = some o) : o.guard = none ∧ ∀ e ∈ o.after, Region.binds md e = true → e.on < i := by
  unfold tailOk at h
  simp only [Bool.and_eq_true, List.all_eq_true, List.mem_range] at h
  have hi : i < ops.size := (Array.getElem?_eq_some_iff.1 ho).1
  have h1 := h.1.1.1 i hi
  rw [ho] at h1
  simp only [Bool.and_eq_true, Option.isNone_iff_eq_none, Array.all_eq_true_iff_forall_mem, Bool.or_eq_true, Bool.not_eq_true', decide_eq_true_eq] at h1
  exact ⟨h1.1, fun e he hb => (h1.2 e he).resolve_left (by rw [hb]; simp)⟩
theorem tail_end (h : tailOk md ops last = true) : last.guard = none ∧ (∀ e ∈ last.after, Region.binds md e = true → e.on < ops.size) ∧ ∀ k, k < ops.size → k ∈ waits md ops ops.size ((last.after.toList.filter (Region.binds md)).map (·.on)) := by
  unfold tailOk at h
  simp only [Bool.and_eq_true, List.all_eq_true, List.mem_range, Option.isNone_iff_eq_none, Array.all_eq_true_iff_forall_mem, Bool.or_eq_true, Bool.not_eq_true', decide_eq_true_eq, List.contains_iff_mem] at h
  exact ⟨h.1.1.2, fun e he hb => (h.1.2 e he).resolve_left (by rw [hb]; simp), fun k hk => h.2 k hk⟩
/-- What is asked behind the others. -/
def UptoIn (n : Nat) (P : Program) (ops : Array Oper) (k : Nat) (Q : Exit → Act → World → Prop) : Exit → Act → World → Prop
  | .normal, a, w => wpOpIn Fence.wide n P ops Q k (fun a w => Q .normal a w) a w
  | .outgrown, _, _ => False
  | e, a, w => Q e a w
theorem wide_turn {o : Oper} {a : Act} {w : World} {K K' : Act → World → Prop} (hK : ∀ a w, K' a w → K a w) (hp : ∀ c a w, Q' (.panic c) a w → Q (.panic c) a w) (ho : ∀ a w, ¬ Q' .outgrown a w) (h : o.wpIn Fence.wide n P a w K' Q') : o.wpIn Fence.wide n P a w K Q := by
  unfold Oper.wpIn at *
  refine ⟨h.1, ?_⟩
  have h := h.2
  generalize (o.semAt Fence.wide.round a.eval).run P w = r at *
  cases r with
  | ok x w' =>
    cases x <;> simp only [Oper.uponIn] at h ⊢
    case value => exact hK _ _ h
    case skip => exact hK _ _ h
    case defer => exact hK _ _ h
    case enter => exact ⟨h.1, CallsIn.mono h.2 fun e w'' he => by
      cases e with
      | returned u => exact hK _ _ he
      | panicked c => exact hp _ _ _ he
      | outgrown => obtain ⟨a, w, h⟩ := he; exact (ho a w h).elim⟩
    case row => exact ⟨h.1, RowsIn.mono h.2 fun _ _ he => hK _ _ he⟩
    case round => exact ⟨h.1, RoundIn.mono h.2 fun e w'' he => by
      cases e with
      | returned u => exact hK _ _ he
      | panicked c => exact hp _ _ _ he
      | outgrown => obtain ⟨a, w, h⟩ := he; exact (ho a w h).elim⟩
  | halt x w' =>
    cases x <;> simp only [Oper.uponIn] at h ⊢
    exact hp _ _ _ h
theorem wide_any (ho : ∀ a w, ¬ Q .outgrown a w) : ∀ (fuel : Nat) (listed : Array Bool) (a : Act) (w : World), wpAny P md ops Q fuel listed a w → wpAnyIn Fence.wide n P md ops Q fuel listed a w
  | 0, _, _, _, h => h
  | fuel + 1, listed, a, w, h => by
    refine ⟨h.1, fun i hi => ?_⟩
    have h2 := h.2 i hi
    unfold wpOp at h2
    unfold wpOpIn
    cases hoi : ops[i]? with
    | none => rw [hoi] at h2; exact wide_any ho fuel _ _ _ h2
    | some o =>
      rw [hoi] at h2
      simp only at h2 ⊢
      split
      · rename_i hw
        rw [if_pos hw] at h2
        rcases h2 with h2 | ⟨-, a', w', h2⟩
        · exact wide_op (Oper.wp_mono (fun a w h => wide_any ho fuel _ a w h) h2)
        · exact (ho a' w' h2).elim
      · rename_i hw
        rw [if_neg hw] at h2
        exact ⟨fun _ _ => trivial, wide_any ho fuel _ _ _ h2⟩
theorem closed_set (hc : Closed md ops listed) {i : Nat} (hi : i ∈ Region.ready md ops listed) : Closed md ops (listed.setIfInBounds i true) := by
  obtain ⟨h0, o, ho, he⟩ := mem_ready.1 hi
  have hkeep : ∀ k, listed.getD k false = true → (listed.setIfInBounds i true).getD k false = true := fun k hk => by
    by_cases e : i = k
    · subst e
      have hlt : i < listed.size := by
        rcases Nat.lt_or_ge i listed.size with h | h
        · exact h
        · rw [Array.getD_eq_getD_getElem?, Array.getElem?_eq_none h] at hk; cases hk
      rw [Array.getD_eq_getD_getElem?, Array.getElem?_setIfInBounds_self_of_lt hlt]; rfl
    · rw [getD_set_ne false e]; exact hk
  intro k o' ho' hk e hem hb
  by_cases ek : i = k
  · subst ek
    rw [ho] at ho'
    cases ho'
    exact hkeep _ (he e hem hb)
  · rw [getD_set_ne false ek] at hk
    exact hkeep _ (hc k o' ho' hk e hem hb)
theorem wpOpIn_push {i : Nat} {a : Act} {w : World} {K K' : Act → World → Prop} (hok : tailOk md ops last = true) (hi : i < ops.size) (hK : ∀ a w, K' a w → K a w) (h : wpOpIn Fence.wide n P ops (UptoIn n P (ops.push last) ops.size Q) i K' a w) : wpOpIn Fence.wide n P (ops.push last) Q i K a w := by
  have ho : ops[i]? = some ops[i] := Array.getElem?_eq_getElem hi
  have hg := (tail_op hok ho).1
  unfold wpOpIn at h ⊢
  rw [ho] at h
  rw [Array.getElem?_push_lt hi]
  simp only [Region.wanted, hg, if_true] at h ⊢
  exact wide_turn (Q' := UptoIn n P (ops.push last) ops.size Q) hK (fun _ _ _ h => h) (fun _ _ h => h) h
theorem wpAnyIn_push (hok : tailOk md ops last = true) : ∀ (fuel : Nat) (listed : Array Bool) (a : Act) (w : World), listed.size = ops.size → Closed md ops listed → wpAnyIn Fence.wide n P md ops (UptoIn n P (ops.push last) ops.size Q) fuel listed a w → wpAnyIn Fence.wide n P md (ops.push last) Q (fuel + 1) (listed.push false) a w := by
  have hall : ∀ i o, (ops.push last)[i]? = some o → ∀ e ∈ o.after, Region.binds md e = true → e.on < i := by
    intro i o ho e he hb
    have hi : i < ops.size + 1 := by have := (Array.getElem?_eq_some_iff.1 ho).1; rw [Array.size_push] at this; exact this
    rcases Nat.lt_or_ge i ops.size with hlt | hge
    · rw [Array.getElem?_push_lt hlt] at ho
      exact (tail_op hok (by rw [Array.getElem?_eq_getElem hlt]; exact ho)).2 e he hb
    · have : i = ops.size := by omega
      subst this
      rw [Array.getElem?_push_size] at ho
      cases ho
      exact (tail_end hok).2.1 e he hb
  have hsome : ∀ (listed : Array Bool), listed.size = ops.size → ¬ Region.ready md (ops.push last) (listed.push false) = [] := by
    intro listed hs hr
    have := all_listed hall (by simp [hs]) hr ops.size (by simp)
    rw [push_at hs] at this
    cases this
  have hin : ∀ (listed : Array Bool), listed.size = ops.size → Closed md ops listed → ∀ i ∈ Region.ready md (ops.push last) (listed.push false), (i = ops.size ∧ ∀ k, k < ops.size → listed.getD k true = true) ∨ (i < ops.size ∧ i ∈ Region.ready md ops listed) := by
    intro listed hs hc i hi
    obtain ⟨h0, o, ho, he⟩ := mem_ready.1 hi
    have hi' : i < ops.size + 1 := by have := (Array.getElem?_eq_some_iff.1 ho).1; rw [Array.size_push] at this; exact this
    rcases Nat.lt_or_ge i ops.size with hlt | hge
    · refine .inr ⟨hlt, mem_ready.2 ⟨by rw [push_lt true (by omega)] at h0; exact h0, o, by rw [Array.getElem?_push_lt hlt] at ho; rw [Array.getElem?_eq_getElem hlt]; exact ho, fun e hem hb => ?_⟩⟩
      have h1 := hall i o ho e hem hb
      have h2 := he e hem hb
      rw [push_lt false (by omega)] at h2
      exact h2
    · have hn : i = ops.size := by omega
      subst hn
      rw [Array.getElem?_push_size] at ho
      cases ho
      refine .inl ⟨rfl, fun k hk => ?_⟩
      have := waits_listed hc ops.size _ (fun j hj => by
        obtain ⟨e, hem, rfl⟩ := List.mem_map.1 hj
        rw [List.mem_filter] at hem
        have h2 := he e (Array.mem_toList_iff.1 hem.1) hem.2
        have h3 := (tail_end hok).2.1 e (Array.mem_toList_iff.1 hem.1) hem.2
        rw [push_lt false (by omega)] at h2
        exact h2) k ((tail_end hok).2.2 k hk)
      rw [Array.getD_eq_getD_getElem?, Array.getElem?_eq_getElem (by omega : k < listed.size)] at this ⊢
      exact this
  have hend : ∀ (fuel : Nat) (listed : Array Bool), listed.size = ops.size → (∀ k, k < ops.size → listed.getD k true = true) → ∀ a w, Q .normal a w → wpAnyIn Fence.wide n P md (ops.push last) Q fuel ((listed.push false).setIfInBounds ops.size true) a w := by
    intro fuel listed hs hl a w hq
    have hr : Region.ready md (ops.push last) ((listed.push false).setIfInBounds ops.size true) = [] := full_ready fun i hi => by
      rw [Array.size_push] at hi
      by_cases he : ops.size = i
      · subst he
        rw [Array.getD_eq_getD_getElem?, Array.getElem?_setIfInBounds_self_of_lt (by simp [hs])]; rfl
      · rw [getD_set_ne true he, push_lt true (by omega)]
        exact hl i (by omega)
    cases fuel with
    | zero => exact ⟨hr, hq⟩
    | succ k => exact ⟨fun _ => hq, by rw [hr]; simp⟩
  intro fuel
  induction fuel with
  | zero =>
    intro listed a w hs hc h
    refine ⟨fun hr => absurd hr (hsome listed hs), fun i hi => ?_⟩
    rcases hin listed hs hc i hi with ⟨rfl, hl⟩ | ⟨hlt, hi'⟩
    · exact wpOpIn_mono (fun a w hq => hend 0 listed hs hl a w hq) h.2
    · rw [h.1] at hi'; cases hi'
  | succ fuel ih =>
    intro listed a w hs hc h
    refine ⟨fun hr => absurd hr (hsome listed hs), fun i hi => ?_⟩
    rcases hin listed hs hc i hi with ⟨rfl, hl⟩ | ⟨hlt, hi'⟩
    · exact wpOpIn_mono (fun a w hq => hend (fuel + 1) listed hs hl a w hq) (h.1 (full_ready hl))
    · refine wpOpIn_push hok hlt (fun a w h' => ?_) (h.2 i hi')
      have := ih (listed.setIfInBounds i true) a w (by simp [hs]) (closed_set hc hi') h'
      rw [show (listed.push false).setIfInBounds i true = (listed.setIfInBounds i true).push false from by
        apply Array.ext'
        rw [Array.toList_setIfInBounds, Array.toList_push, Array.toList_push, Array.toList_setIfInBounds, List.set_append_left _ _ (by simp; omega)]]
      exact this
theorem closed_none (ops : Array Oper) : Closed md ops (Array.replicate ops.size false) := by
  intro i o ho hl
  have hi : i < ops.size := (Array.getElem?_eq_some_iff.1 ho).1
  rw [Array.getD_eq_getD_getElem?, Array.getElem?_eq_getElem (by simpa using hi)] at hl
  simp at hl
/-- A drawn region of a function that yields: its plain operations with a condition held, then one (the yielding call), then the last. -/
theorem region_yield {id : Nat} {all : Array Oper} {a : Act} {w : World} (S : World → Prop) (ops : Array Oper) (y z : Oper) (he : all = (ops.push y).push z) (hm : P.follows .mixedOrders = true) (hy : tailOk .any ops y = true) (hz : tailOk .any (ops.push y) z = true) (hS : S w.drew)
    (h : S w.drew → wpAnyH P .any ops (UptoIn n P (ops.push y) ops.size (UptoIn n P ((ops.push y).push z) (ops.push y).size Q)) S ops.size (Array.replicate ops.size false) a w.drew) : (Code.region id all true).wpIn Fence.wide n P Q a w := by
  subst he
  refine wpIn_region_any hm ?_
  have h1 := wide_any (n := n) (fun _ _ h => h) _ _ _ _ (wpAny_of_held _ _ _ _ (h hS))
  have h2 := wpAnyIn_push hy ops.size (Array.replicate ops.size false) a w.drew (by simp) (closed_none ops) h1
  rw [← Array.replicate_succ] at h2
  have h3 := wpAnyIn_push hz (ops.size + 1) (Array.replicate (ops.size + 1) false) a w.drew (by simp) (by have := closed_none (md := .any) (ops.push y); rw [Array.size_push] at this; exact this) h2
  rw [Array.size_push, Array.size_push, Array.replicate_succ (n := ops.size + 1)]
  exact h3
end
open Go.RowKit
theorem own_less {W : World} {base n m size g cap : Nat} {e : TypeId} {xs ys : List Value} (hx : xs.length = n * size) (h : W.ownsRow base e size (.slice (some ⟨g, 0, none⟩) (n + m) cap) (n + m) (xs ++ ys)) : W.ownsRow base e size (.slice (some ⟨g, 0, none⟩) n cap) n xs := by
  obtain ⟨hl, ⟨he, h0⟩ | ⟨g', cap', cur, he, hB, hb, hn, hm, hs, ht⟩⟩ := h
  · simp at he
  · simp only [Value.slice.injEq, Option.some.injEq, Addr.mk.injEq] at he
    obtain ⟨⟨rfl, -, -⟩, -, rfl⟩ := he
    refine ⟨hx, .inr ⟨g, cap, cur, rfl, hB, hb, by omega, hm, hs, ?_⟩⟩
    have := congrArg (List.take (n * size)) ht
    rw [List.take_take, Nat.min_eq_left (Nat.mul_le_mul_right _ (by omega)), List.take_left' hx] at this
    exact this
/-- A step appended to a path's row: the new row, and the elder one behind it: in the same block, or in its own as before. -/
theorem append_path (ty : TypeId) (W : World) (B : Nat) (v : Value) (k : Nat) (xs : List Value) (hown : W.ownsRow B 34 2 v k xs) (a : Addr) (news : List Value) (hl : news.length = 2) (hA : ∀ j u, news[j]? = some u → W.cell? (a.add j) = some u) (h1 : ∀ u ∈ news, u.oneCell' = true) (hk : k + 1 ≤ 100000) (hB : B ≤ W.heap.size) :
    ∃ v' W', (Builtin.append_ #[36, 36] ty #[v, .slice (some a) 1 1]).run Tryz.prog W = .ok v' W' ∧ W'.ownsRow B 34 2 v' (k + 1) (xs ++ news) ∧ W.grownBy W' v.ownBlock ∧
      ((v'.ownBlock = v.ownBlock ∧ ∀ X : World, X.ownsRow B 34 2 v' (k + 1) (xs ++ news) → X.ownsRow B 34 2 v k xs) ∨ (v'.ownBlock = some W.heap.size ∧ W'.ownsRow B 34 2 v k xs)) := by
  obtain ⟨i0, hi, hz0, hz1, hz2⟩ := info_parts (P := Tryz.prog) (e := 34) (z := (.agg #[.int .i64 0, .string ⟨#[]⟩])) (size := 2) (bytes := 24) (by kernel_rfl)
  have ht := Tryz.underlying36
  have hl' : news.length = 1 * 2 := hl
  obtain ⟨v', w', hr, h2, h3, h4⟩ := run_append_own (P := Tryz.prog) W B 36 ty 34 i0 (.agg #[.int .i64 0, .string ⟨#[]⟩]) 2 24 ht hi hz0 hz1 hz2 rfl (by omega) v k xs hown a 1 1 news hl' hA h1 (by unfold maxLen; omega) (by omega) hB
  refine ⟨v', w', hr, h2, h3, ?_⟩
  obtain ⟨hlx, ⟨rfl, rfl⟩ | ⟨g, cap, cur, rfl, hbg, hg, hnc, hcm, hcs, htake⟩⟩ := hown
  · have hx := run_append_nil (P := Tryz.prog) W 36 ty 34 i0 _ ht hi hz0 a 1 1 news (by rw [hz1]; exact hl') hA (by omega) (by omega) (by rw [hz2]; omega)
    rw [hx] at hr
    cases hr
    refine .inr ⟨rfl, ?_⟩
    have : xs = [] := List.length_eq_zero_iff.1 (by omega)
    subst this
    exact World.ownsRow_nil _ _ _ _
  · by_cases hroom : k + 1 ≤ cap
    · have hfit : k * i0.size + news.length ≤ cur.size := by rw [hl, hcs, hz1]; omega
      have hx := run_append_room (P := Tryz.prog) W 36 ty 34 i0 ht hi g k cap cur hg a 1 1 news (by rw [hz1]; exact hl') hA h1 hroom hfit
      rw [hx] at hr
      cases hr
      exact .inl ⟨rfl, fun X hX => own_less hlx hX⟩
    · have holds : ∀ j u, xs[j]? = some u → W.cell? ((⟨g, 0, none⟩ : Addr).add j) = some u := World.ownsRow.cells (v := .slice (some ⟨g, 0, none⟩) k cap) ⟨hlx, .inr ⟨g, cap, cur, rfl, hbg, hg, hnc, hcm, hcs, htake⟩⟩ (g := g) rfl
      have hx := run_append_grow (P := Tryz.prog) W 36 ty 34 i0 _ ht hi hz0 ⟨g, 0, none⟩ k cap xs (by rw [hz1]; exact hlx) holds a 1 1 news (by rw [hz1]; exact hl') hA (by omega) (by omega) (growslice_fits (by omega) (by rw [hz2]; omega))
      rw [hx] at hr
      cases hr
      refine .inr ⟨rfl, hlx, .inr ⟨g, cap, cur, rfl, hbg, ?_, hnc, hcm, hcs, htake⟩⟩
      have hlt := (Array.getElem?_eq_some_iff.1 hg).1
      exact (Below.heap_alloc W.drew _ g hlt).trans hg
open Go.RowKit
/-- Every block but those of X is as it was. -/
structure But (X : Nat → Prop) (W W' : World) : Prop where
  os : W'.os = W.os
  tape : W'.tape = W.tape
  output : W'.output = W.output
  size : W.heap.size ≤ W'.heap.size
  block : ∀ b, b < W.heap.size → ¬ X b → W'.heap[b]? = W.heap[b]?
section
variable {X Y : Nat → Prop} {W W1 W2 : World} {n : Nat}
theorem But.refl (X : Nat → Prop) (W : World) : But X W W := ⟨rfl, rfl, rfl, Nat.le_refl _, fun _ _ _ => rfl⟩
theorem But.trans (h : But X W W1) (h' : But Y W1 W2) : But (fun b => X b ∨ Y b) W W2 :=
  ⟨h'.os.trans h.os, h'.tape.trans h.tape, h'.output.trans h.output, Nat.le_trans h.size h'.size, fun b hb hx => (h'.block b (Nat.lt_of_lt_of_le hb h.size) fun e => hx (.inr e)).trans (h.block b hb fun e => hx (.inl e))⟩
theorem But.wider (h : But X W W1) (hX : ∀ b, b < W.heap.size → X b → Y b) : But Y W W1 := ⟨h.os, h.tape, h.output, h.size, fun b hb hy => h.block b hb fun e => hy (hX b hb e)⟩
theorem But.below (h : Below W.heap.size W W1) : But X W W1 := ⟨h.os, h.tape, h.output, h.size, fun b hb _ => h.block b hb⟩
theorem But.grown {r : Option Nat} (h : W.grownBy W1 r) : But (fun b => some b = r) W W1 := ⟨h.os, h.tape, h.output, h.size, fun b hb hx => h.block b hb hx⟩
end
/-- A collector of leaves: its state lies on where its blocks lie on. -/
structure Collects (J : (Nat → Prop) → List Lf → World → Prop) : Prop where
  lt : ∀ U pre W, J U pre W → ∀ b, U b → b < W.heap.size
  on : ∀ U pre W W' X, J U pre W → But X W W' → (∀ b, U b → ¬ X b) → J U pre W'
/-- What a round owes: the leaf is taken, blocks that are not the collector's are kept; or it says 'no more'. -/
def Takes (P : Program) (l N : Nat) (J : (Nat → Prop) → List Lf → World → Prop) (Jx : List Lf → World → Prop) : Prop :=
  ∀ (m : Nat) (U D : Nat → Prop) (pre : List Lf) (x : Lf) (cs : List Value) (W : World), J U pre W → pre.length < N → LeafIn D W x cs → (∀ b, D b → b < W.heap.size ∧ ¬ U b) →
    YieldAt Fence.wide m P l #[.agg cs.toArray] W fun e W' => (e = .returned (.bool true) ∧ ∃ U', J U' (pre ++ [x]) W' ∧ (∀ b, U' b → U b ∨ D b ∨ W.heap.size ≤ b) ∧ But U W W') ∨ (e = .returned (.bool false) ∧ Jx (pre ++ [x]) W')
/-- What a visit leaves. -/
def Visited (J : (Nat → Prop) → List Lf → World → Prop) (Jx : List Lf → World → Prop) (B : Nat) (U : Nat → Prop) (pre m : List Lf) (pv : Value) (k : Nat) (xs : List Value) (W : World) (e : Ending) (W' : World) : Prop :=
  (e = .returned (.bool true) ∧ ∃ U', J U' (pre ++ m) W' ∧ (∀ b, U' b → U b ∨ W.heap.size ≤ b) ∧ But (fun b => U b ∨ some b = pv.ownBlock) W W' ∧ W'.ownsRow B 34 2 pv k xs) ∨
  (e = .returned (.bool false) ∧ ∃ q, q <+: m ∧ Jx (pre ++ q) W')
theorem own_path {W : World} {B c n : Nat} {A : Option Addr} {p : List Stp} {D : Nat → Prop} (hps : ∀ s ∈ p, s.2.size ≤ maxLen) (h : W.ownsRow B 34 2 (.slice A n c) p.length (stepCells p)) (hD : ∀ b, (Value.slice A n c).ownBlock = some b → D b) : PIn D W A c p := by
  have h5 := h
  obtain ⟨hl, ⟨he, h0⟩ | ⟨g, cap', cur, he, hbg, hg, hnc, hcm, hcs, ht⟩⟩ := h5
  · simp only [Value.slice.injEq] at he
    obtain ⟨rfl, -, rfl⟩ := he
    exact ⟨by omega, Nat.zero_le _, .inl (List.length_eq_zero_iff.1 h0)⟩
  · simp only [Value.slice.injEq] at he
    obtain ⟨rfl, rfl, rfl⟩ := he
    refine ⟨hnc, hcm, .inr ⟨g, 0, rfl, hD g rfl, stepCells_lie _ 0 hps fun j u hu => ?_⟩⟩
    have := World.ownsRow.cells h (g := g) rfl j u hu
    rw [Addr.add_lit] at this
    exact this
/-- What is asked behind the plain part, where it is carried out. -/
theorem uptoIn_step {P : Program} {ops : Array Oper} {Q : Exit → Act → World → Prop} {n k : Nat} {o : Oper} {a : Act} {w : World} (ho : ops[k]? = some o) (hg : o.guard = none) (h : ∀ K' : Act → World → Prop, (∀ a w, Q .normal a w → K' a w) → o.wpIn Fence.wide n P a w K' Q) : UptoIn n P ops k Q .normal a w := by
  show wpOpIn Fence.wide n P ops Q k (fun a w => Q .normal a w) a w
  unfold wpOpIn
  rw [ho]
  simp only [Region.wanted, hg, if_true]
  exact h _ fun _ _ h => h
set_option maxRecDepth 100000 in
set_option maxHeartbeats 2000000 in
theorem visit_leaf (l N : Nat) (J : (Nat → Prop) → List Lf → World → Prop) (Jx : List Lf → World → Prop) (hJ : Collects J) (hY : Takes Tryz.prog l N J Jx) (n : Nat)
    (x : V) (p : List Stp) (B : Nat) (U Pv : Nat → Prop) (pre : List Lf) (W : World) (A K : Option Addr) (c d : Nat) (pv : Value)
    (hju : J U pre W) (hPv : ∀ b, Pv b → b < W.heap.size ∧ ¬ U b) (hx : LiesIn Pv W x A c K d) (hok : x.ok = true) (hn : x.nodes ≤ 5000) (h0 : x.items = []) (hrow : W.ownsRow B 34 2 pv p.length (stepCells p)) (hps : ∀ s ∈ p, s.2.size ≤ maxLen) (hpl : p.length ≤ 1000) (hB : B ≤ W.heap.size) (hpu : ∀ b, pv.ownBlock = some b → ¬ U b) (hlen : pre.length < N) :
    CallsIn Fence.wide n Tryz.prog 51 #[.agg #[.int .i64 x.kind, .int .i64 x.int, .string x.text, .slice A x.items.length c, .slice K x.keys.length d], pv, .func (.yield l) #[] #[]] W (Visited J Jx B U pre (leavesV p x) pv p.length (stepCells p) W) := by
  rw [leavesV_none h0]
  obtain ⟨PA, pc, rfl⟩ := own_form hrow
  obtain ⟨k0, hk0⟩ : ∃ k0, k0 = x.items.length := ⟨_, rfl⟩
  have hkz : k0 = 0 := by rw [hk0, h0]; rfl
  have hn0 : ((k0 : Int) == 0) = true := by simp [hkz]
  have HK0 := Lib.hid hk0
  rw [← hk0]
  clear hkz hk0 h0
  refine callsIn_of_wp Tryz.func51 rfl trivial ?_
  simp only [Tryz.ntmps51, List.size_toArray, List.length_cons, List.length_nil, Nat.reduceAdd, Nat.reduceSub, Array.replicate_succ, Array.replicate_zero, List.push_toArray, List.append_toArray, List.nil_append, List.cons_append]
  gi_upto_region 2 with (fail)
  obtain ⟨W1, hW1⟩ : ∃ W1, W1 = W.alloc (.cells #[.int .i64 x.kind, .int .i64 x.int, .string x.text, .slice A k0 c, .slice K x.keys.length d] 27) := ⟨_, rfl⟩
  have hb1 : Below W.heap.size W W1 := by rw [hW1]; exact below_al (Below.refl _ W) _
  have hbx : BlockIs W1 W.heap.size 27 #[.int .i64 x.kind, .int .i64 x.int, .string x.text, .slice A k0 c, .slice K x.keys.length d] := by rw [hW1]; exact BlockIs.new W _ _
  have hx1 : LiesIn Pv W1 x A c K d := LiesIn.keep (fun b o hb => bcell hb1 b o (hPv b hb).1) (fun _ h => h) x hx
  have hrow1 : W1.ownsRow B 34 2 (.slice PA p.length pc) p.length (stepCells p) := by rw [hW1]; exact World.ownsRow.alloc hrow _
  rw [← hW1]
  have hs1 : W.heap.size < W1.heap.size := hbx.lt
  have hsrc : p.length = 0 ∨ ∃ a, PA = some a ∧ ∀ j u, (stepCells p)[j]? = some u → W1.drew.cell? (a.add j) = some u := by
    obtain ⟨hl, ⟨he, h0'⟩ | ⟨g, cap, cur, he, -⟩⟩ := id hrow1
    · exact .inl h0'
    · simp only [Value.slice.injEq] at he
      obtain ⟨rfl, -, rfl⟩ := he
      exact .inr ⟨_, rfl, fun j u hu => World.ownsRow.cells hrow1 (g := g) rfl j u hu⟩
  obtain ⟨v2, W2, hr2, ho2, hg2⟩ := appendT 36 W1.drew W1.heap.size (.slice none 0 0) 0 [] (World.ownsRow_nil _ _ _ _) PA p.length pc (stepCells p) (stepCells_length p) hsrc (stepCells_one p) (by omega) (Nat.le_refl _)
  obtain ⟨PB, pb, rfl⟩ := own_form ho2
  simp only [Nat.zero_add, List.nil_append] at ho2 hr2
  have hb2 : Below W1.heap.size W1 W2 := (Below.drew (Below.refl _ W1)).trans (none_below hg2 (Nat.le_refl _) (fun b hb => by simp [Value.ownBlock] at hb))
  have HCP := Lib.hid (show Calls Tryz.prog 19 #[.agg #[.int .i64 x.kind, .int .i64 x.int, .string x.text, .slice A k0 c, .slice K x.keys.length d]] W2 fun e w' => ∃ Az cz Kz dz, e = .returned (.agg #[.int .i64 x.kind, .int .i64 x.int, .string x.text, .slice Az k0 cz, .slice Kz x.keys.length dz]) ∧ LiesIn (Fresh W2 w') w' x Az cz Kz dz ∧ Below W2.heap.size W2 w' from by
    rw [HK0.out]
    exact (copied_tree x.nodes x W2 A K c d (Nat.le_refl _) hn hok (LiesIn.lies (fun b hb => by have := (hPv b hb).1; have := hb2.size; omega) x (LiesIn.keep (fun b o hb => bcell hb2 b o (by have := (hPv b hb).1; omega)) (fun _ h => h) x hx1))).mono fun e w' ⟨xI, xK, he, ht, hb⟩ => by
      obtain ⟨Az, cz, Kz, dz, rfl, rfl, hl⟩ := Tree.inn x ht (fun _ h => h)
      exact ⟨Az, cz, Kz, dz, he, hl, hb⟩)
  refine region_yield (fun X => (X.cell? ⟨W.heap.size, 0, none⟩ = some (.int .i64 x.kind) ∧ X.cell? ⟨W.heap.size, 1, none⟩ = some (.int .i64 x.int) ∧ X.cell? ⟨W.heap.size, 2, none⟩ = some (.string x.text) ∧ X.cell? ⟨W.heap.size, 3, none⟩ = some (.slice A k0 c) ∧ X.cell? ⟨W.heap.size, 4, none⟩ = some (.slice K x.keys.length d))) #[{ dst := some 13, op := Go.Op.move (Go.Operand.tmp 2), type := 86, pos := "leaves.go:68", after := #[], guard := none }, { dst := some 14, op := Go.Op.move (Go.Operand.tmp 1), type := 36, pos := "leaves.go:68", after := #[], guard := none }, { dst := some 15, op := Go.Op.call { callee := Go.Callee.builtin Go.Builtin.append, args := #[Go.Operand.const (Go.Value.slice none 0 0), Go.Operand.tmp 14], argTypes := #[36, 36] }, type := 36, pos := "leaves.go:68", after := #[{ on := 1, ground := Go.Ground.data }], guard := none }, { dst := some 16, op := Go.Op.load 27 (Go.Operand.tmp 3), type := 27, pos := "leaves.go:68", after := #[], guard := none }, { dst := some 17, op := Go.Op.call { callee := Go.Callee.value (Go.Operand.func 19), args := #[Go.Operand.tmp 16], argTypes := #[27] }, type := 27, pos := "leaves.go:68", after := #[{ on := 3, ground := Go.Ground.data }, { on := 2, ground := Go.Ground.chain }], guard := none }, { dst := some 18, op := Go.Op.build 47 #[(0, Go.Operand.tmp 15), (1, Go.Operand.tmp 17)], type := 47, pos := "leaves.go:68", after := #[{ on := 2, ground := Go.Ground.data }, { on := 4, ground := Go.Ground.data }], guard := none }] ({ dst := some 19, op := Go.Op.call { callee := Go.Callee.value (Go.Operand.tmp 13), args := #[Go.Operand.tmp 18], argTypes := #[47] }, type := 4, pos := "leaves.go:68", after := #[{ on := 0, ground := Go.Ground.data }, { on := 5, ground := Go.Ground.data }, { on := 4, ground := Go.Ground.chain }], guard := none }) ({ dst := some 6, op := Go.Op.assign (Go.Operand.tmp 19), type := 4, pos := "leaves.go:68", after := #[{ on := 6, ground := Go.Ground.data }, { on := 6, ground := Go.Ground.chain }, { on := 0, ground := Go.Ground.phase }, { on := 1, ground := Go.Ground.phase }, { on := 2, ground := Go.Ground.phase }, { on := 3, ground := Go.Ground.phase }, { on := 4, ground := Go.Ground.phase }, { on := 5, ground := Go.Ground.phase }, { on := 6, ground := Go.Ground.phase }], guard := none }) rfl (by kernel_rfl) (by kernel_rfl) (by kernel_rfl) (five_of (show BlockIs W1.drew _ _ _ from hbx)) (fun hH0 => ?_)
  refine wpAnyH_take (i := 0) (oi := { dst := some 13, op := Go.Op.move (Go.Operand.tmp 2), type := 86, pos := "leaves.go:68", after := #[], guard := none }) (v := ?_) rfl (by kernel_rfl) (by kernel_rfl) (by kernel_rfl) (fun _ _ _ h => h) (Or.inl ⟨by rfl, ?_⟩) (by assumption) ?_
  rotate_left
  · (intro w hSw; (try dsimp only at hSw); go_simp; try with_reducible rfl)
  (try simp only [Act.put, List.setIfInBounds_toArray, List.set_cons_zero, List.set_cons_succ])
  refine wpAnyH_take (i := 1) (oi := { dst := some 14, op := Go.Op.move (Go.Operand.tmp 1), type := 36, pos := "leaves.go:68", after := #[], guard := none }) (v := ?_) rfl (by kernel_rfl) (by kernel_rfl) (by kernel_rfl) (fun _ _ _ h => h) (Or.inl ⟨by rfl, ?_⟩) (by assumption) ?_
  rotate_left
  · (intro w hSw; (try dsimp only at hSw); go_simp; try with_reducible rfl)
  (try simp only [Act.put, List.setIfInBounds_toArray, List.set_cons_zero, List.set_cons_succ])
  refine wpAnyH_take (i := 3) (oi := { dst := some 16, op := Go.Op.load 27 (Go.Operand.tmp 3), type := 27, pos := "leaves.go:68", after := #[], guard := none }) (v := ?_) rfl (by kernel_rfl) (by kernel_rfl) (by kernel_rfl) (fun _ _ _ h => h) (Or.inl ⟨by rfl, ?_⟩) (by assumption) ?_
  rotate_left
  · (intro w hSw; (try dsimp only at hSw); go_simp; try with_reducible rfl)
  (try simp only [Act.put, List.setIfInBounds_toArray, List.set_cons_zero, List.set_cons_succ])
  refine wpAnyH_ready (rs := [2]) (by kernel_rfl) (by simp) ?_
  refine AllReadyH.cons (o := { dst := some 15, op := Go.Op.call { callee := Go.Callee.builtin Go.Builtin.append, args := #[Go.Operand.const (Go.Value.slice none 0 0), Go.Operand.tmp 14], argTypes := #[36, 36] }, type := 36, pos := "leaves.go:68", after := #[{ on := 1, ground := Go.Ground.data }], guard := none }) rfl (fun KK hK => ?_) (AllReadyH.nil)
  · refine step_append_run (by rfl) _ _ _ _ (by rfl) _ _ (by rfl) (by rfl) _ _ hr2 ?_
    refine hK.out _ _ (five_of (hbx.below hb2 hbx.lt)) (fun hH1 => ?_)
    clear hK KK
    (try simp only [Act.put, List.setIfInBounds_toArray, List.set_cons_zero, List.set_cons_succ])
    refine wpAnyH_ready (rs := [4]) (by kernel_rfl) (by simp) ?_
    refine AllReadyH.cons (o := { dst := some 17, op := Go.Op.call { callee := Go.Callee.value (Go.Operand.func 19), args := #[Go.Operand.tmp 16], argTypes := #[27] }, type := 27, pos := "leaves.go:68", after := #[{ on := 3, ground := Go.Ground.data }, { on := 2, ground := Go.Ground.chain }], guard := none }) rfl (fun KK hK => ?_) (AllReadyH.nil)
    · go_simp
      refine (HCP.out).mono ?_
      rintro e w3 ⟨Az, cz, Kz, dz, rfl, hl3, h3⟩
      skip
      (try go_wp2_with fail)
      refine hK.out _ _ (five_of ((hbx.below hb2 hbx.lt).below h3 (hbx.below hb2 hbx.lt).lt)) (fun hH2 => ?_)
      clear hK KK
      (try simp only [Act.put, List.setIfInBounds_toArray, List.set_cons_zero, List.set_cons_succ])
      refine wpAnyH_take (i := 5) (oi := { dst := some 18, op := Go.Op.build 47 #[(0, Go.Operand.tmp 15), (1, Go.Operand.tmp 17)], type := 47, pos := "leaves.go:68", after := #[{ on := 2, ground := Go.Ground.data }, { on := 4, ground := Go.Ground.data }], guard := none }) (v := ?_) rfl (by kernel_rfl) (by kernel_rfl) (by kernel_rfl) (fun _ _ _ h => h) (Or.inl ⟨by rfl, ?_⟩) (by assumption) ?_
      rotate_left
      · (intro w hSw; (try dsimp only at hSw); go_simp; try with_reducible rfl)
      (try simp only [Act.put, List.setIfInBounds_toArray, List.set_cons_zero, List.set_cons_succ])
      refine wpAnyH_done (by kernel_rfl) ?_ _
      have hb3 : Below W1.heap.size W1 w3 := hb2.trans (h3.mono hb2.size)
      have hbW : Below W.heap.size W w3 := below_on hb1 hb3
      have hju3 : J U pre w3 := hJ.on U pre W w3 (fun _ => False) hju (But.below hbW) (fun _ _ h => h)
      have hleaf : LeafIn (fun b => W1.heap.size ≤ b ∧ b < w3.heap.size) w3 (p, x) [.slice PB p.length pb, .int .i64 x.kind, .int .i64 x.int, .string x.text, .slice Az k0 cz, .slice Kz x.keys.length dz] := ⟨PB, pb, Az, cz, Kz, dz, (by rw [HK0.out]), own_path hps (own_stays ho2 fun b hb => h3.block b (World.ownsRow.lt ho2 b hb).2) (fun b hb => ⟨(World.ownsRow.lt ho2 b hb).1, Nat.lt_of_lt_of_le (World.ownsRow.lt ho2 b hb).2 h3.size⟩), LiesIn.keep (fun _ _ _ => rfl) (fun b hb => ⟨Nat.le_trans hb2.size hb.1, hb.2⟩) x hl3⟩
      obtain ⟨fn, tmps, assign, body, hy, hR⟩ := hY (n - 1) U (fun b => W1.heap.size ≤ b ∧ b < w3.heap.size) pre (p, x) _ w3 hju3 hlen hleaf (fun b hb => ⟨hb.2, fun hu => by have := hJ.lt U pre W hju b hu; have := hb.1; omega⟩)
      have hdd : ∀ k : Nat, (Fence.wide.depth.isSome = true → 1 ≤ k) := fun k h => by cases h
      have hown3 : w3.ownsRow B 34 2 (.slice PA p.length pc) p.length (stepCells p) := own_stays hrow fun b hb => hbW.block b (World.ownsRow.lt hrow b hb).2
      refine uptoIn_step (o := { dst := some 19, op := Go.Op.call { callee := Go.Callee.value (Go.Operand.tmp 13), args := #[Go.Operand.tmp 18], argTypes := #[47] }, type := 4, pos := "leaves.go:68", after := #[{ on := 0, ground := Go.Ground.data }, { on := 5, ground := Go.Ground.data }, { on := 4, ground := Go.Ground.chain }], guard := none }) rfl rfl (fun K' hK => ?_)
      gi_wp2_with ((try refine ⟨hdd _, ?_⟩); refine hR.mono ?_; rintro e W' (⟨rfl, U', hJ', hU', hB'⟩ | ⟨rfl, hJx'⟩))
      · refine uptoIn_step (o := { dst := some 6, op := Go.Op.assign (Go.Operand.tmp 19), type := 4, pos := "leaves.go:68", after := #[{ on := 6, ground := Go.Ground.data }, { on := 6, ground := Go.Ground.chain }, { on := 0, ground := Go.Ground.phase }, { on := 1, ground := Go.Ground.phase }, { on := 2, ground := Go.Ground.phase }, { on := 3, ground := Go.Ground.phase }, { on := 4, ground := Go.Ground.phase }, { on := 5, ground := Go.Ground.phase }, { on := 6, ground := Go.Ground.phase }], guard := none }) rfl rfl (fun K2 hK2 => ?_)
        gi_wp2
        go_ret
        refine .inl ⟨rfl, U', hJ', fun b hb => ?_, ?_, own_stays hown3 fun b hb => hB'.block b (Nat.lt_of_lt_of_le (World.ownsRow.lt hrow b hb).2 hbW.size) (hpu b hb)⟩
        · rcases hU' b hb with h | h | h
          · exact .inl h
          · exact .inr (by have := h.1; omega)
          · exact .inr (by have := hbW.size; omega)
        · exact ((But.below (X := fun _ => False) hbW).trans hB').wider fun b _ h => h.elim False.elim .inl
      · refine uptoIn_step (o := { dst := some 6, op := Go.Op.assign (Go.Operand.tmp 19), type := 4, pos := "leaves.go:68", after := #[{ on := 6, ground := Go.Ground.data }, { on := 6, ground := Go.Ground.chain }, { on := 0, ground := Go.Ground.phase }, { on := 1, ground := Go.Ground.phase }, { on := 2, ground := Go.Ground.phase }, { on := 3, ground := Go.Ground.phase }, { on := 4, ground := Go.Ground.phase }, { on := 5, ground := Go.Ground.phase }, { on := 6, ground := Go.Ground.phase }], guard := none }) rfl rfl (fun K2 hK2 => ?_)
        gi_wp2
        go_ret
        exact .inr ⟨rfl, [(p, x)], List.prefix_rfl, hJx'⟩
open Go.RowKit
theorem leavesL_append (p : List Stp) (k : Int) (ks : List ByteArray) (m : List V) : ∀ (l : List V) (n : Nat), leavesL p k ks n (l ++ m) = leavesL p k ks n l ++ leavesL p k ks (n + l.length) m
  | [], n => by simp [leavesL]
  | y :: l, n => by
    rw [List.cons_append, leavesL, leavesL_append p k ks m l (n + 1), leavesL, List.append_assoc, List.length_cons, show n + 1 + l.length = n + (l.length + 1) by omega]
theorem leavesL_part (p : List Stp) (x : V) (j : Nat) : leavesL p x.kind x.keys 0 (x.items.take j) <+: leavesL p x.kind x.keys 0 x.items := by
  have := leavesL_append p x.kind x.keys (x.items.drop j) (x.items.take j) 0
  rw [List.take_append_drop] at this
  rw [this]
  exact List.prefix_append _ _
/-- Where a visit stands between two items. -/
structure VS (J : (Nat → Prop) → List Lf → World → Prop) (B : Nat) (U0 : Nat → Prop) (pv : Value) (k : Nat) (xs : List Value) (vc : Array Value) (W : World) (m : List Lf) (U : Nat → Prop) (wr : World) : Prop where
  but : But (fun b => U0 b ∨ some b = pv.ownBlock) W wr
  box : BlockIs wr W.heap.size 27 vc
  col : J U m wr
  sub : ∀ b, U b → U0 b ∨ W.heap.size + 1 ≤ b
  row : wr.ownsRow B 34 2 pv k xs
set_option maxRecDepth 100000 in
set_option maxHeartbeats 4000000 in
theorem visit_step (l N : Nat) (J : (Nat → Prop) → List Lf → World → Prop) (Jx : List Lf → World → Prop) (hJ : Collects J) (B : Nat) (n0 : Nat)
    (x : V) (p : List Stp) (U0 Pv : Nat → Prop) (pre : List Lf) (W : World) (A K : Option Addr) (c d : Nat) (pv : Value)
    (hju : J U0 pre W) (hPv : ∀ b, Pv b → b < W.heap.size ∧ ¬ U0 b ∧ some b ≠ pv.ownBlock) (hx : LiesIn Pv W x A c K d) (hok : x.ok = true) (hn : x.nodes ≤ 5000) (h0 : ¬ x.items = []) (hrow : W.ownsRow B 34 2 pv p.length (stepCells p)) (hps : ∀ s ∈ p, s.2.size ≤ maxLen) (hd : p.length + x.depth ≤ 7) (hB : B ≤ W.heap.size) (hpu : ∀ b, pv.ownBlock = some b → ¬ U0 b) (hlen : pre.length + (leavesV p x).length ≤ N)
    (ih : ∀ y ∈ x.items, ∀ (n : Nat) (q : List Stp) (U Pv : Nat → Prop) (pre : List Lf) (W : World) (A K : Option Addr) (c d : Nat) (pv : Value), J U pre W → (∀ b, Pv b → b < W.heap.size ∧ ¬ U b ∧ some b ≠ pv.ownBlock) → LiesIn Pv W y A c K d → W.ownsRow B 34 2 pv q.length (stepCells q) → (∀ s ∈ q, s.2.size ≤ maxLen) → q.length + y.depth ≤ 7 → B ≤ W.heap.size → (∀ b, pv.ownBlock = some b → ¬ U b) → pre.length + (leavesV q y).length ≤ N →
      CallsIn Fence.wide n Tryz.prog 51 #[.agg #[.int .i64 y.kind, .int .i64 y.int, .string y.text, .slice A y.items.length c, .slice K y.keys.length d], pv, .func (.yield l) #[] #[]] W (Visited J Jx B U pre (leavesV q y) pv q.length (stepCells q) W)) :
    CallsIn Fence.wide n0 Tryz.prog 51 #[.agg #[.int .i64 x.kind, .int .i64 x.int, .string x.text, .slice A x.items.length c, .slice K x.keys.length d], pv, .func (.yield l) #[] #[]] W (Visited J Jx B U0 pre (leavesV p x) pv p.length (stepCells p) W) := by
  have hR := leavesV_items (p := p) h0
  obtain ⟨PA, pc, rfl⟩ := own_form hrow
  have hlen0 : 0 < x.items.length := List.length_pos_iff.2 h0
  obtain ⟨b2, o2, rfl, hb2, hfrom⟩ := inn_at hx hlen0
  have hxc := (inn_items hx).1
  have hxm := (inn_items hx).2.1
  unfold maxLen at hxm
  have hgo : ∀ b, (Value.slice PA p.length pc).ownBlock = some b → b < W.heap.size := fun b hb => (World.ownsRow.lt hrow b hb).2
  have HC := Lib.hid (And.intro hJ (And.intro hPv (And.intro hps (And.intro hpu hgo))))
  have HU0 := Lib.hid (hJ.lt U0 pre W hju)
  have HX := Lib.hid hx
  have HIH := Lib.hid ih
  have HOK := Lib.hid (And.intro hok hn)
  have HR := Lib.hid hR
  have HLEN := Lib.hid hlen
  have HB := Lib.hid hB
  have HDP := Lib.hid (show ∀ y ∈ x.items, (p.length + 1) + y.depth ≤ 7 from fun y hy => by
    have := V.depth_mem hy
    obtain ⟨k, i, t, l, ks⟩ := x
    simp only [V.items, V.depth] at this hd
    omega)
  have hp7 : p.length ≤ 7 := by omega
  obtain ⟨n, hnn⟩ : ∃ n, n = x.items.length := ⟨_, rfl⟩
  have HN := Lib.hid hnn
  have hnb : n ≤ 5000 := by have := nodes_items x; have := length_le_nodesL x.items; omega
  obtain ⟨W1, hW1⟩ : ∃ W1, W1 = W.alloc (.cells #[.int .i64 x.kind, .int .i64 x.int, .string x.text, .slice (some ⟨b2, o2, none⟩) n c, .slice K x.keys.length d] 27) := ⟨_, rfl⟩
  have hb1 : Below W.heap.size W W1 := by rw [hW1]; exact below_al (Below.refl _ W) _
  have HV1 := Lib.hid (show VS J B U0 (.slice PA p.length pc) p.length (stepCells p) #[.int .i64 x.kind, .int .i64 x.int, .string x.text, .slice (some ⟨b2, o2, none⟩) n c, .slice K x.keys.length d] W pre U0 W1 from ⟨But.below hb1, by rw [hW1]; exact BlockIs.new W _ _, hJ.on U0 pre W W1 (fun _ => False) hju (But.below hb1) (fun _ _ h => h), fun _ h => .inl h, by rw [hW1]; exact World.ownsRow.alloc hrow _⟩)
  have hn0 : ((n : Int) == 0) = false := by simp; omega
  rw [← hnn]
  have hxc' : n ≤ c := by omega
  clear hju hPv hx hok hn h0 hrow hps hd hB hpu hlen ih hR hJ hlen0 hb2 hfrom hxc hgo hnn hb1
  refine callsIn_of_wp Tryz.func51 rfl trivial ?_
  simp only [Tryz.ntmps51, List.size_toArray, List.length_cons, List.length_nil, Nat.reduceAdd, Nat.reduceSub, Array.replicate_succ, Array.replicate_zero, List.push_toArray, List.append_toArray, List.nil_append, List.cons_append]
  gi_upto_region 3 with (fail)
  rw [← hW1]
  clear hW1
  obtain ⟨v0, v1, v2, v3, v4⟩ := five_of HV1.out.box
  have vl := HV1.out.box.lt
  gi_wp2
  gi_loopw [23] (fun iv wr => ∃ (j : Nat) (U : Nat → Prop), iv = .int .i64 j ∧ j ≤ n ∧ Hid (VS J B U0 (.slice PA p.length pc) p.length (stepCells p) #[.int .i64 x.kind, .int .i64 x.int, .string x.text, .slice (some ⟨b2, o2, none⟩) n c, .slice K x.keys.length d] W (pre ++ leavesL p x.kind x.keys 0 (x.items.take j)) U wr)) (fun iv _ => n - (intOf iv).toNat)
  case atStart => exact ⟨0, U0, rfl, Nat.zero_le _, by simpa [leavesL] using HV1⟩
  case round =>
    clear v0 v1 v2 v3 v4 vl HV1
    obtain ⟨j, U, rfl, hj, HV⟩ := hrel
    by_cases hlt : j < n
    · have hjn : (j : Int) < n := by omega
      have hj0 : (0 : Int) ≤ j := by omega
      have hji : j < x.items.length := by have := HN.out; omega
      obtain ⟨y, hy⟩ : ∃ y, x.items[j]? = some y := ⟨_, List.getElem?_eq_getElem hji⟩
      have hlx : LiesIn Pv wr x (some ⟨b2, o2, none⟩) c K d := LiesIn.keep (fun b o hb => World.cell?_of_block (HV.out.but.block b (HC.out.2.1 b hb).1 (fun e => e.elim (HC.out.2.1 b hb).2.1 (HC.out.2.1 b hb).2.2))) (fun _ h => h) x HX.out
      obtain ⟨b2', o2', hbo, hb2, hfrom⟩ := inn_at hlx hji
      simp only [Option.some.injEq, Addr.mk.injEq, and_true] at hbo
      obtain ⟨rfl, rfl⟩ := hbo
      obtain ⟨Ay, cy, Ky, dy, ⟨y0, y1, y2, y3, y4⟩, hly⟩ := hfrom.at_ hy
      have hws := HV.out.but.size
      obtain ⟨s, hs⟩ : ∃ s, s = stepI x.kind x.keys j := ⟨_, rfl⟩
      have hlies : Lies wr wr.heap.size x (some ⟨b2, o2, none⟩) c K d := LiesIn.lies (fun b hb => by have := (HC.out.2.1 b hb).1; omega) x hlx
      have hss := stepI_size hlies HOK.out.1 hji
      rw [← hs] at hss
      have HLY := Lib.hid hly
      have HYM := Lib.hid (List.mem_of_getElem? hy)
      have HSN := Lib.hid (show leavesL p x.kind x.keys 0 (x.items.take (j + 1)) = leavesL p x.kind x.keys 0 (x.items.take j) ++ leavesV (p ++ [s]) y by rw [hs]; exact leavesL_snocI p x hy)
      gi_upto_region 6 with (fail)
      obtain ⟨W6, hW6⟩ : ∃ W6, W6 = wr.alloc (.cells #[.int .i64 y.kind, .int .i64 y.int, .string y.text, .slice Ay y.items.length cy, .slice Ky y.keys.length dy] 27) := ⟨_, rfl⟩
      have hal : Below wr.heap.size wr W6 := by rw [hW6]; exact below_al (Below.refl _ wr) _
      have hbi : BlockIs W6 wr.heap.size 27 #[.int .i64 y.kind, .int .i64 y.int, .string y.text, .slice Ay y.items.length cy, .slice Ky y.keys.length dy] := by rw [hW6]; exact BlockIs.new wr _ _
      have hbx : BlockIs W6 W.heap.size 27 #[.int .i64 x.kind, .int .i64 x.int, .string x.text, .slice (some ⟨b2, o2, none⟩) n c, .slice K x.keys.length d] := HV.out.box.below hal HV.out.box.lt
      have hrow6 : W6.ownsRow B 34 2 (.slice PA p.length pc) p.length (stepCells p) := by rw [hW6]; exact World.ownsRow.alloc HV.out.row _
      have hgl : ∀ b, ((.slice PA p.length pc) : Value).ownBlock = some b → b < W.heap.size := HC.out.2.2.2.2
      have hwl := HV.out.box.lt
      rw [← hW6]
      have HST := Lib.hid (show Calls Tryz.prog 68 #[.agg #[.int .i64 x.kind, .int .i64 x.int, .string x.text, .slice (some ⟨b2, o2, none⟩) n c, .slice K x.keys.length d], .int .i64 j] W6.drew fun e w' => e = .returned (.agg #[.int .i64 s.1, .string s.2]) ∧ Below W6.drew.heap.size W6.drew w' from by
        have := stepTo_any x W6.drew (some ⟨b2, o2, none⟩) K c d j (lies_on (lies_on hlies hal) (Below.refl _ W6).drew) HOK.out.1 hji
        rw [← hs, ← HN.out] at this
        exact this)
      clear hW6 hy hji hlx hb2 hfrom y0 y1 y2 y3 y4 hly hs hlies
      have hdd : ∀ k : Nat, (Fence.wide.depth.isSome = true → 1 ≤ k) := fun k h => by cases h
      refine region_yield (fun X => (X.cell? ⟨wr.heap.size, 0, none⟩ = some (.int .i64 y.kind) ∧ X.cell? ⟨wr.heap.size, 1, none⟩ = some (.int .i64 y.int) ∧ X.cell? ⟨wr.heap.size, 2, none⟩ = some (.string y.text) ∧ X.cell? ⟨wr.heap.size, 3, none⟩ = some (.slice Ay y.items.length cy) ∧ X.cell? ⟨wr.heap.size, 4, none⟩ = some (.slice Ky y.keys.length dy)) ∧ (X.cell? ⟨W.heap.size, 0, none⟩ = some (.int .i64 x.kind) ∧ X.cell? ⟨W.heap.size, 1, none⟩ = some (.int .i64 x.int) ∧ X.cell? ⟨W.heap.size, 2, none⟩ = some (.string x.text) ∧ X.cell? ⟨W.heap.size, 3, none⟩ = some (.slice (some ⟨b2, o2, none⟩) n c) ∧ X.cell? ⟨W.heap.size, 4, none⟩ = some (.slice K x.keys.length d))) #[{ dst := some 28, op := Go.Op.load 27 (Go.Operand.tmp 8), type := 27, pos := "leaves.go:71", after := #[], guard := none }, { dst := some 29, op := Go.Op.move (Go.Operand.tmp 1), type := 36, pos := "leaves.go:71", after := #[], guard := none }, { dst := some 30, op := Go.Op.load 27 (Go.Operand.tmp 3), type := 27, pos := "leaves.go:71", after := #[], guard := none }, { dst := some 31, op := Go.Op.move (Go.Operand.tmp 7), type := 3, pos := "leaves.go:71", after := #[], guard := none }, { dst := some 32, op := Go.Op.call { callee := Go.Callee.value (Go.Operand.func 68), args := #[Go.Operand.tmp 30, Go.Operand.tmp 31], argTypes := #[27, 3] }, type := 34, pos := "leaves.go:71", after := #[{ on := 2, ground := Go.Ground.data }, { on := 3, ground := Go.Ground.data }], guard := none }, { dst := some 33, op := Go.Op.buildSlice 36 1 #[(0, Go.Operand.tmp 32)], type := 36, pos := "leaves.go:71", after := #[{ on := 4, ground := Go.Ground.data }], guard := none }, { dst := some 34, op := Go.Op.call { callee := Go.Callee.builtin Go.Builtin.append, args := #[Go.Operand.tmp 29, Go.Operand.tmp 33], argTypes := #[36, 36] }, type := 36, pos := "leaves.go:71", after := #[{ on := 1, ground := Go.Ground.data }, { on := 5, ground := Go.Ground.data }, { on := 4, ground := Go.Ground.chain }], guard := none }, { dst := some 35, op := Go.Op.move (Go.Operand.tmp 2), type := 86, pos := "leaves.go:71", after := #[], guard := none }] ({ dst := some 36, op := Go.Op.call { callee := Go.Callee.value (Go.Operand.func 51), args := #[Go.Operand.tmp 28, Go.Operand.tmp 34, Go.Operand.tmp 35], argTypes := #[27, 36, 86] }, type := 4, pos := "leaves.go:71", after := #[{ on := 0, ground := Go.Ground.data }, { on := 6, ground := Go.Ground.data }, { on := 7, ground := Go.Ground.data }, { on := 6, ground := Go.Ground.chain }], guard := none }) ({ dst := some 37, op := Go.Op.unOp Go.UnOp.not 4 (Go.Operand.tmp 36), type := 4, pos := "leaves.go:71", after := #[{ on := 8, ground := Go.Ground.data }], guard := none }) rfl (by kernel_rfl) (by kernel_rfl) (by kernel_rfl) ⟨five_of (show BlockIs W6.drew _ _ _ from hbi), five_of (show BlockIs W6.drew _ _ _ from hbx)⟩ (fun hH0 => ?_)
      refine wpAnyH_take (i := 0) (oi := { dst := some 28, op := Go.Op.load 27 (Go.Operand.tmp 8), type := 27, pos := "leaves.go:71", after := #[], guard := none }) (v := ?_) rfl (by kernel_rfl) (by kernel_rfl) (by kernel_rfl) (fun _ _ _ h => h) (Or.inl ⟨by rfl, ?_⟩) (by assumption) ?_
      rotate_left
      · (intro w hSw; (try dsimp only at hSw); go_simp; try with_reducible rfl)
      (try simp only [Act.put, List.setIfInBounds_toArray, List.set_cons_zero, List.set_cons_succ])
      refine wpAnyH_take (i := 1) (oi := { dst := some 29, op := Go.Op.move (Go.Operand.tmp 1), type := 36, pos := "leaves.go:71", after := #[], guard := none }) (v := ?_) rfl (by kernel_rfl) (by kernel_rfl) (by kernel_rfl) (fun _ _ _ h => h) (Or.inl ⟨by rfl, ?_⟩) (by assumption) ?_
      rotate_left
      · (intro w hSw; (try dsimp only at hSw); go_simp; try with_reducible rfl)
      (try simp only [Act.put, List.setIfInBounds_toArray, List.set_cons_zero, List.set_cons_succ])
      refine wpAnyH_take (i := 2) (oi := { dst := some 30, op := Go.Op.load 27 (Go.Operand.tmp 3), type := 27, pos := "leaves.go:71", after := #[], guard := none }) (v := ?_) rfl (by kernel_rfl) (by kernel_rfl) (by kernel_rfl) (fun _ _ _ h => h) (Or.inl ⟨by rfl, ?_⟩) (by assumption) ?_
      rotate_left
      · (intro w hSw; (try dsimp only at hSw); go_simp; try with_reducible rfl)
      (try simp only [Act.put, List.setIfInBounds_toArray, List.set_cons_zero, List.set_cons_succ])
      refine wpAnyH_take (i := 3) (oi := { dst := some 31, op := Go.Op.move (Go.Operand.tmp 7), type := 3, pos := "leaves.go:71", after := #[], guard := none }) (v := ?_) rfl (by kernel_rfl) (by kernel_rfl) (by kernel_rfl) (fun _ _ _ h => h) (Or.inl ⟨by rfl, ?_⟩) (by assumption) ?_
      rotate_left
      · (intro w hSw; (try dsimp only at hSw); go_simp; try with_reducible rfl)
      (try simp only [Act.put, List.setIfInBounds_toArray, List.set_cons_zero, List.set_cons_succ])
      refine wpAnyH_take (i := 7) (oi := { dst := some 35, op := Go.Op.move (Go.Operand.tmp 2), type := 86, pos := "leaves.go:71", after := #[], guard := none }) (v := ?_) rfl (by kernel_rfl) (by kernel_rfl) (by kernel_rfl) (fun _ _ _ h => h) (Or.inl ⟨by rfl, ?_⟩) (by assumption) ?_
      rotate_left
      · (intro w hSw; (try dsimp only at hSw); go_simp; try with_reducible rfl)
      (try simp only [Act.put, List.setIfInBounds_toArray, List.set_cons_zero, List.set_cons_succ])
      refine wpAnyH_ready (rs := [4]) (by kernel_rfl) (by simp) ?_
      refine AllReadyH.cons (o := { dst := some 32, op := Go.Op.call { callee := Go.Callee.value (Go.Operand.func 68), args := #[Go.Operand.tmp 30, Go.Operand.tmp 31], argTypes := #[27, 3] }, type := 34, pos := "leaves.go:71", after := #[{ on := 2, ground := Go.Ground.data }, { on := 3, ground := Go.Ground.data }], guard := none }) rfl (fun KK hK => ?_) (AllReadyH.nil)
      · go_simp
        refine (HST.out).mono ?_
        rintro e w1 ⟨rfl, h1⟩
        have hd1 : Below W6.heap.size W6 w1 := below_on (Below.drew (Below.refl _ _)) h1
        have hbi1 := hbi.below hd1 hbi.lt
        have hbx1 := hbx.below hd1 hbx.lt
        have hrow1 : w1.ownsRow B 34 2 (.slice PA p.length pc) p.length (stepCells p) := own_stays hrow6 (fun b hb => hd1.block b (World.ownsRow.lt hrow6 b hb).2)
        (try go_wp2_with fail)
        refine hK.out _ _ ⟨five_of hbi1, five_of hbx1⟩ (fun hH1 => ?_)
        clear hK KK
        (try simp only [Act.put, List.setIfInBounds_toArray, List.set_cons_zero, List.set_cons_succ])
        refine wpAnyH_ready (rs := [5]) (by kernel_rfl) (by simp) ?_
        refine AllReadyH.cons (o := { dst := some 33, op := Go.Op.buildSlice 36 1 #[(0, Go.Operand.tmp 32)], type := 36, pos := "leaves.go:71", after := #[{ on := 4, ground := Go.Ground.data }], guard := none }) rfl (fun KK hK => ?_) (AllReadyH.nil)
        · go_simp
          refine hK.out _ _ ⟨five_of (hbi1.alloc _), five_of (hbx1.alloc _)⟩ (fun hH2 => ?_)
          clear hK KK
          (try simp only [Act.put, List.setIfInBounds_toArray, List.set_cons_zero, List.set_cons_succ])
          refine wpAnyH_ready (rs := [6]) (by kernel_rfl) (by simp) ?_
          refine AllReadyH.cons (o := { dst := some 34, op := Go.Op.call { callee := Go.Callee.builtin Go.Builtin.append, args := #[Go.Operand.tmp 29, Go.Operand.tmp 33], argTypes := #[36, 36] }, type := 36, pos := "leaves.go:71", after := #[{ on := 1, ground := Go.Ground.data }, { on := 5, ground := Go.Ground.data }, { on := 4, ground := Go.Ground.chain }], guard := none }) rfl (fun KK hK => ?_) (AllReadyH.nil)
          · obtain ⟨X, hX⟩ : ∃ X, X = w1.alloc (.cells #[.int .i64 s.1, .string s.2] 34) := ⟨_, rfl⟩
            have hrowX : X.ownsRow B 34 2 (.slice PA p.length pc) p.length (stepCells p) := (by rw [hX]; exact World.ownsRow.alloc hrow1 _)
            have hsX : BlockIs X w1.heap.size 34 #[.int .i64 s.1, .string s.2] := (by rw [hX]; exact BlockIs.new w1 _ _)
            have hbiX : BlockIs X wr.heap.size 27 #[.int .i64 y.kind, .int .i64 y.int, .string y.text, .slice Ay y.items.length cy, .slice Ky y.keys.length dy] := (by rw [hX]; exact hbi1.alloc _)
            have hbxX : BlockIs X W.heap.size 27 #[.int .i64 x.kind, .int .i64 x.int, .string x.text, .slice (some ⟨b2, o2, none⟩) n c, .slice K x.keys.length d] := (by rw [hX]; exact hbx1.alloc _)
            have hb6X : Below wr.heap.size wr X := (by rw [hX]; exact below_al (below_on hal hd1) _)
            have hBX : B ≤ X.heap.size := (by have := HB.out; have := hb6X.size; omega)
            obtain ⟨v5, w5, hr5, ho5, hg5, hcase⟩ := append_path 36 X B (.slice PA p.length pc) p.length (stepCells p) hrowX ⟨w1.heap.size, 0, none⟩ [.int .i64 s.1, .string s.2] rfl (fun k u hu => by rw [Addr.add_lit, Nat.zero_add]; refine (hsX.cell k).trans ?_; rw [List.getElem?_toArray]; exact hu) (by intro u hu; simp at hu; rcases hu with rfl | rfl <;> rfl) (by omega) hBX
            obtain ⟨PB, pb, rfl⟩ := own_form ho5
            have hbi5 : BlockIs w5 wr.heap.size 27 #[.int .i64 y.kind, .int .i64 y.int, .string y.text, .slice Ay y.items.length cy, .slice Ky y.keys.length dy] := hbiX.to (hg5.block _ hbiX.lt (fun e => by have := hgl _ e.symm; omega))
            have hbx5 : BlockIs w5 W.heap.size 27 #[.int .i64 x.kind, .int .i64 x.int, .string x.text, .slice (some ⟨b2, o2, none⟩) n c, .slice K x.keys.length d] := hbxX.to (hg5.block _ hbxX.lt (fun e => by have := hgl _ e.symm; omega))
            rw [← hX]
            refine step_append_run (by rfl) _ _ _ _ (by rfl) _ _ (by rfl) (by rfl) _ _ hr5 ?_
            refine hK.out _ _ ⟨five_of hbi5, five_of hbx5⟩ (fun hH3 => ?_)
            clear hK KK
            (try simp only [Act.put, List.setIfInBounds_toArray, List.set_cons_zero, List.set_cons_succ])
            refine wpAnyH_done (by kernel_rfl) ?_ _
            have hbutw : But (fun b => some b = ((.slice PA p.length pc) : Value).ownBlock) wr w5 := ((But.below (X := fun _ => False) hb6X).trans (But.grown hg5)).wider fun b _ h => h.elim False.elim id
            have hnU : ∀ b, b < W.heap.size + 1 → ¬ U0 b → ¬ U b := fun b hb h0 hu => (HV.out.sub b hu).elim h0 (fun h => by omega)
            have hW0 : ¬ U0 W.heap.size := fun h => by have := HU0.out _ h; omega
            have hpvU : ∀ b, ((.slice PA p.length pc) : Value).ownBlock = some b → ¬ U b := fun b hb => hnU b (by have := hgl b hb; omega) (HC.out.2.2.2.1 b hb)
            have hltU := HC.out.1.lt U (pre ++ leavesL p x.kind x.keys 0 (x.items.take j)) wr HV.out.col
            have hj5 : J U (pre ++ leavesL p x.kind x.keys 0 (x.items.take j)) w5 := HC.out.1.on U (pre ++ leavesL p x.kind x.keys 0 (x.items.take j)) wr w5 _ HV.out.col hbutw (fun b hb e => hpvU b e.symm hb)
            have hwX := hb6X.size
            have hX5 := hg5.size
            have hrow5 : w5.ownsRow B 34 2 (.slice PB (p.length + 1) pb) (p ++ [s]).length (stepCells (p ++ [s])) := by rw [stepCells_append, List.length_append]; exact ho5
            have hown5 : ∀ b, ((.slice PB (p.length + 1) pb) : Value).ownBlock = some b → ((.slice PA p.length pc) : Value).ownBlock = some b ∨ b = X.heap.size := fun b hb => by
              rcases hcase with ⟨e, -⟩ | ⟨e, -⟩
              · exact .inl (e.symm.trans hb)
              · exact .inr (Option.some.inj (hb.symm.trans e))
            have hbound : (pre ++ leavesL p x.kind x.keys 0 (x.items.take j)).length + (leavesV (p ++ [s]) y).length ≤ N := by
              have h1 := (leavesL_part p x (j + 1)).length_le
              have h2 := HLEN.out
              rw [HR.out] at h2
              rw [HSN.out, List.length_append] at h1
              rw [List.length_append]
              omega
            have HIC := HIH.out y HYM.out (n0 - 1) (p ++ [s]) U Pv (pre ++ leavesL p x.kind x.keys 0 (x.items.take j)) w5 Ay Ky cy dy (.slice PB (p.length + 1) pb) hj5 (fun b hb => ⟨by have := (HC.out.2.1 b hb).1; omega, hnU b (by have := (HC.out.2.1 b hb).1; omega) (HC.out.2.1 b hb).2.1, fun e => by
              rcases hown5 b e.symm with h | h
              · exact (HC.out.2.1 b hb).2.2 h.symm
              · have := (HC.out.2.1 b hb).1; omega⟩) (LiesIn.keep (fun b o hb => World.cell?_of_block (hbutw.block b (by have := (HC.out.2.1 b hb).1; omega) (HC.out.2.1 b hb).2.2)) (fun _ h => h) y HLY.out) hrow5 (fun q hq => by
              rcases List.mem_append.1 hq with hq | hq
              · exact HC.out.2.2.1 q hq
              · rw [List.mem_singleton.1 hq]; exact hss) (by rw [List.length_append]; exact HDP.out y HYM.out) (by omega) (fun b hb hu => by
              rcases hown5 b hb with h | h
              · exact hpvU b h hu
              · have := hltU b hu; omega) hbound
            refine uptoIn_step (o := { dst := some 36, op := Go.Op.call { callee := Go.Callee.value (Go.Operand.func 51), args := #[Go.Operand.tmp 28, Go.Operand.tmp 34, Go.Operand.tmp 35], argTypes := #[27, 36, 86] }, type := 4, pos := "leaves.go:71", after := #[{ on := 0, ground := Go.Ground.data }, { on := 6, ground := Go.Ground.data }, { on := 7, ground := Go.Ground.data }, { on := 6, ground := Go.Ground.chain }], guard := none }) rfl rfl (fun K' hK => ?_)
            gi_wp2_with ((try refine ⟨hdd _, ?_⟩); refine ⟨trivial, hdd _, HIC.mono ?_⟩; rintro e W' (⟨rfl, U', hJ', hU', hB', hrow'⟩ | ⟨rfl, q, hq, hJx'⟩))
            · have hrow'' : W'.ownsRow B 34 2 (.slice PB (p.length + 1) pb) (p.length + 1) (stepCells p ++ [.int .i64 s.1, .string s.2]) := by
                rw [stepCells_append, List.length_append] at hrow'
                exact hrow'
              have HV' := Lib.hid (show VS J B U0 (.slice PA p.length pc) p.length (stepCells p) #[.int .i64 x.kind, .int .i64 x.int, .string x.text, .slice (some ⟨b2, o2, none⟩) n c, .slice K x.keys.length d] W (pre ++ leavesL p x.kind x.keys 0 (x.items.take (j + 1))) U' W' from by
                refine ⟨((HV.out.but.trans hbutw).trans hB').wider (fun b hb h => ?_), hbx5.to (hB'.block _ hbx5.lt (fun e => ?_)), by rw [HSN.out, ← List.append_assoc]; exact hJ', fun b hb => ?_, ?_⟩
                · rcases h with (h | h) | (h | h)
                  · exact h
                  · exact .inr h
                  · exact (HV.out.sub b h).imp id (fun h => by omega)
                  · rcases hown5 b h.symm with h | h
                    · exact .inr h.symm
                    · omega
                · rcases e with h | h
                  · exact hnU _ (by omega) hW0 h
                  · rcases hown5 _ h.symm with h | h
                    · have := hgl _ h; omega
                    · omega
                · rcases hU' b hb with h | h
                  · exact HV.out.sub b h
                  · exact .inr (by omega)
                · rcases hcase with ⟨-, h⟩ | ⟨e, h⟩
                  · exact h W' hrow''
                  · refine own_stays h fun b hb => hB'.block b (by have := hgl b hb; omega) (fun hh => ?_)
                    rcases hh with hh | hh
                    · exact hpvU b hb hh
                    · rw [e] at hh
                      have := Option.some.inj hh
                      have := hgl b hb
                      omega)
              refine uptoIn_step (o := { dst := some 37, op := Go.Op.unOp Go.UnOp.not 4 (Go.Operand.tmp 36), type := 4, pos := "leaves.go:71", after := #[{ on := 8, ground := Go.Ground.data }], guard := none }) rfl rfl (fun K2 hK2 => ?_)
              gi_wp2
              go_roundw
              case rel => exact ⟨j + 1, U', by go_num, by omega, HV'⟩
              case measure => simp [intOf]; omega
            · refine uptoIn_step (o := { dst := some 37, op := Go.Op.unOp Go.UnOp.not 4 (Go.Operand.tmp 36), type := 4, pos := "leaves.go:71", after := #[{ on := 8, ground := Go.Ground.data }], guard := none }) rfl rfl (fun K2 hK2 => ?_)
              gi_wp2
              go_ret
              refine .inr ⟨rfl, leavesL p x.kind x.keys 0 (x.items.take j) ++ q, ?_, by rw [← List.append_assoc]; exact hJx'⟩
              rw [HR.out]
              refine List.IsPrefix.trans ?_ (leavesL_part p x (j + 1))
              rw [HSN.out]
              exact (List.prefix_append_right_inj _).2 hq
    · have hjn : ¬ ((j : Int) < n) := by omega
      have hall : x.items.take j = x.items := List.take_of_length_le (by have := HN.out; omega)
      gi_wp2
      go_ret
      refine .inl ⟨rfl, U, ?_, fun b hb => (HV.out.sub b hb).imp id (fun h => by omega), HV.out.but, HV.out.row⟩
      have := HV.out.col
      rw [hall, ← HR.out] at this
      exact this
open Go.RowKit Go.Shelf
/-- A visit, at whatever value. -/
theorem visit_any (l N : Nat) (J : (Nat → Prop) → List Lf → World → Prop) (Jx : List Lf → World → Prop) (hJ : Collects J) (hY : Takes Tryz.prog l N J Jx) (B : Nat) : ∀ (g : Nat) (x : V), x.nodes ≤ g → x.ok = true → x.nodes ≤ 5000 →
    ∀ (n : Nat) (q : List Stp) (U Pv : Nat → Prop) (pre : List Lf) (W : World) (A K : Option Addr) (c d : Nat) (pv : Value), J U pre W → (∀ b, Pv b → b < W.heap.size ∧ ¬ U b ∧ some b ≠ pv.ownBlock) → LiesIn Pv W x A c K d → W.ownsRow B 34 2 pv q.length (stepCells q) → (∀ s ∈ q, s.2.size ≤ maxLen) → q.length + x.depth ≤ 7 → B ≤ W.heap.size → (∀ b, pv.ownBlock = some b → ¬ U b) → pre.length + (leavesV q x).length ≤ N →
      CallsIn Fence.wide n Tryz.prog 51 #[.agg #[.int .i64 x.kind, .int .i64 x.int, .string x.text, .slice A x.items.length c, .slice K x.keys.length d], pv, .func (.yield l) #[] #[]] W (Visited J Jx B U pre (leavesV q x) pv q.length (stepCells q) W) := by
  intro g
  induction g with
  | zero => intro x hg; have := nodes_items x; omega
  | succ g ih =>
    intro x hg hok hn n q U Pv pre W A K c d pv hju hPv hx hrow hps hd hB hpu hlen
    by_cases h0 : x.items = []
    · exact visit_leaf l N J Jx hJ hY n x q B U Pv pre W A K c d pv hju (fun b hb => ⟨(hPv b hb).1, (hPv b hb).2.1⟩) hx hok hn h0 hrow hps (by omega) hB hpu (by rw [leavesV_none h0, List.length_singleton] at hlen; omega)
    · refine visit_step l N J Jx hJ B n x q U Pv pre W A K c d pv hju hPv hx hok hn h0 hrow hps hd hB hpu hlen (fun y hy => ?_)
      have h1 := nodes_items x
      have h2 := V.nodes_mem hy
      exact ih y (by omega) (okItems hok y hy) (by omega)
/-- What an iterator leaves behind. -/
def Iterated (J : (Nat → Prop) → List Lf → World → Prop) (Jx : List Lf → World → Prop) (U : Nat → Prop) (xs : List Lf) (W : World) (e : Ending) (W' : World) : Prop :=
  (∃ v, e = .returned v) ∧ ((∃ U', J U' xs W' ∧ (∀ b, U' b → U b ∨ W.heap.size ≤ b) ∧ But U W W') ∨ ∃ q, q <+: xs ∧ Jx q W')
set_option maxRecDepth 100000 in
set_option maxHeartbeats 1000000 in
/-- The function that is ranged over. -/
theorem leaves1_any (n l : Nat) (x : V) (J : (Nat → Prop) → List Lf → World → Prop) (Jx : List Lf → World → Prop) (U Pv : Nat → Prop) (W : World) (A K : Option Addr) (c d b : Nat) (hJ : Collects J) (hY : Takes Tryz.prog l (leavesV [] x).length J Jx)
    (hju : J U [] W) (hPv : ∀ b, Pv b → b < W.heap.size ∧ ¬ U b) (hx : LiesIn Pv W x A c K d) (hok : x.ok = true) (hn : x.nodes ≤ 5000) (hd : x.depth ≤ 7) (hbx : BlockIs W b 27 #[.int .i64 x.kind, .int .i64 x.int, .string x.text, .slice A x.items.length c, .slice K x.keys.length d]) :
    CallsIn Fence.wide n Tryz.prog 50 #[.func (.yield l) #[] #[], .pointer (some ⟨b, 0, none⟩)] W (Iterated J Jx U (leavesV [] x) W) := by
  have HV := visit_any l (leavesV [] x).length J Jx hJ hY W.heap.size x.nodes x (Nat.le_refl _) hok hn (n - 1) [] U Pv [] W A K c d (.slice none 0 0) hju (fun b hb => ⟨(hPv b hb).1, (hPv b hb).2, by simp [Value.ownBlock]⟩) hx (World.ownsRow_nil _ _ _ _) (fun s hs => by cases hs) (by simpa using hd) (Nat.le_refl _) (fun b hb => by simp [Value.ownBlock] at hb) (by simp)
  obtain ⟨v0, v1, v2, v3, v4⟩ := five_of hbx
  have vl := hbx.lt
  have hdd : ∀ k : Nat, (Fence.wide.depth.isSome = true → 1 ≤ k) := fun k h => by cases h
  clear hJ hY hju hPv hx hok hn hd
  refine callsIn_of_wp Tryz.func50 rfl trivial ?_
  simp only [Tryz.ntmps50, List.size_toArray, List.length_cons, List.length_nil, Nat.reduceAdd, Nat.reduceSub, Array.replicate_succ, Array.replicate_zero, List.push_toArray, List.append_toArray, List.nil_append, List.cons_append]
  gi_wp2_with (refine ⟨trivial, hdd _, HV.mono ?_⟩; rintro e W' (⟨rfl, U', hJ', hU', hB', -⟩ | ⟨rfl, q, hq, hJx'⟩))
  · gi_wp2
    go_end0
    exact ⟨⟨_, rfl⟩, .inl ⟨U', hJ', hU', hB'.wider fun b _ h => h.elim id fun e => by simp [Value.ownBlock] at e⟩⟩
  · gi_wp2
    go_end0
    exact ⟨⟨_, rfl⟩, .inr ⟨q, hq, hJx'⟩⟩
theorem But.put (W : World) (l : Nat) (o : Obj) : But (fun b => b = l) W (W.putObj l o) := ⟨rfl, rfl, rfl, Nat.le_of_eq World.putObj_size.symm, fun _ _ h => World.putObj_heap_other h⟩
theorem But.laid (W : World) (o : Obj) : But (fun _ => False) W (W.alloc o) := But.below (below_al (Below.refl _ W) o)
set_option maxHeartbeats 1000000 in
/-- A RANGE OVER AN ITERATOR OF LEAVES, the loop's variable in a box of its own: one round is owed. -/
theorem range_leaves {P : Program} {n : Nat} {g : Operand} {pt : Tmp} {assign body : Code} {Q : Exit → Act → World → Prop} {a : Act} {w : World} {gf : FuncId} {lb : Array Value} (hg : a.eval g = .func (.func gf) #[] lb) (eg : ∀ args w, (callFunc gf args).run P w = .ok (.enter gf args) w)
    (xs : List Lf) (U0 : Nat → Prop)
    (hseq : ∀ (l : Nat) (J : (Nat → Prop) → List Lf → World → Prop) (Jx : List Lf → World → Prop) (U : Nat → Prop) (W : World), Collects J → Takes P l xs.length J Jx → J U [] W → Below w.heap.size w W → (∀ b, U b → U0 b ∨ w.heap.size ≤ b) → CallsIn Fence.wide (n - 1) P gf (#[.func (.yield l) #[] #[]] ++ lb) W (Iterated J Jx U xs W))
    (I : (Nat → Prop) → List Lf → World → Prop) (Ix : List Lf → World → Prop) (hI : Collects I) (h0 : I U0 [] w)
    (hIx : ∀ (pre : List Lf) (W : World) (l : Nat) (o : Obj), Ix pre W → w.heap.size ≤ l → Ix pre (W.putObj l o))
    (T : List Value → Nat → Array Value) (tl : TypeId)
    (hassign : ∀ (m l : Nat) (D : Nat → Prop) (x : Lf) (cs : List Value) (W : World) (K : Act → World → Prop), LeafIn D W x cs → K { tmps := T cs W.heap.size, defers := [] } (W.alloc (.cells cs.toArray tl)) → assign.wpIn (Fence.wide.inRound l) m P (Exit.then K (fun _ _ _ => False)) { tmps := a.tmps.setIfInBounds pt (.agg cs.toArray), defers := [] } W)
    (hbody : ∀ (m l : Nat) (U D : Nat → Prop) (pre : List Lf) (x : Lf) (cs : List Value) (B : Nat) (W : World), I U pre W → pre.length < xs.length → LeafIn D W x cs → (∀ b, D b → b < W.heap.size ∧ ¬ U b ∧ b ≠ B) → BlockIs W B tl cs.toArray → ¬ U B → body.wpIn (Fence.wide.inRound l) m P (fun e _ W' => match e with
      | .normal => ∃ U', I U' (pre ++ [x]) W' ∧ (∀ b, U' b → U b ∨ D b ∨ b = B ∨ W.heap.size ≤ b) ∧ But U W W'
      | .ret => Ix (pre ++ [x]) W' ∧ But U W W'
      | _ => False) { tmps := T cs B, defers := [] } W)
    (hdone : ∀ (D : Nat) (U : Nat → Prop) (W : World), w.heap.size ≤ D → ¬ U D → I U xs W → But U0 w W → W.heap[D]? = some (.deferred (some [])) → Q .normal { a with defers := { target := .collected D, args := #[] } :: a.defers } W)
    (hstop : ∀ (D : Nat) (q : List Lf) (W : World), w.heap.size ≤ D → q <+: xs → Ix q W → W.heap[D]? = some (.deferred (some [])) → Code.ret.wpIn Fence.wide n P Q { a with defers := { target := .collected D, args := #[] } :: a.defers } W) :
    (Code.rangeFunc g #[pt] assign body).wpIn Fence.wide n P Q a w := by
  refine wpIn_rangeFunc ?_
  intro fn hfn
  obtain ⟨rec, hrec⟩ : ∃ rec : LoopState → Option Code → Loop, rec = fun st pe => { state := st, pending := pe, fn, tmps := a.tmps, params := #[pt], assign, body, defers := w.heap.size } := ⟨_, rfl⟩
  obtain ⟨W1, hW1⟩ : ∃ W1, (w.alloc (.deferred (some []))).alloc (.loop (rec .ready none)) = W1 := ⟨_, rfl⟩
  have hL1 : W1.heap[w.heap.size + 1]? = some (.loop (rec .ready none)) := by
    rw [← hW1]; have := World.alloc_heap_new (w.alloc (.deferred (some []))) (.loop (rec .ready none)); rwa [World.size_alloc] at this
  have hK1 : W1.heap[w.heap.size]? = some (.deferred (some [])) := by
    rw [← hW1]; exact (Below.heap_alloc _ _ _ (by simp)).trans (World.alloc_heap_new w _)
  have hb1 : Below w.heap.size w W1 := by rw [← hW1]; exact ((Below.refl _ w).alloc (Nat.le_refl _) _).alloc (by simp) _
  have hlt0 : ∀ b, U0 b → b < w.heap.size := hI.lt U0 [] w h0
  have hI1 : I U0 [] W1 := hI.on U0 [] w W1 (fun _ => False) h0 (But.below hb1) (fun _ _ h => h)
  obtain ⟨J, hJd⟩ : ∃ J : (Nat → Prop) → List Lf → World → Prop, J = fun U pre W => ∃ Ui, (∀ b, U b ↔ Ui b ∨ b = w.heap.size ∨ b = w.heap.size + 1) ∧ ¬ Ui w.heap.size ∧ ¬ Ui (w.heap.size + 1) ∧ I Ui pre W ∧ W.heap[w.heap.size + 1]? = some (.loop (rec .ready none)) ∧ W.heap[w.heap.size]? = some (.deferred (some [])) := ⟨_, rfl⟩
  obtain ⟨Jx, hJxd⟩ : ∃ Jx : List Lf → World → Prop, Jx = fun pre W => Ix pre W ∧ W.heap[w.heap.size + 1]? = some (.loop (rec .done (some .ret))) ∧ W.heap[w.heap.size]? = some (.deferred (some [])) := ⟨_, rfl⟩
  have hJ : Collects J := by
    rw [hJd]
    refine ⟨fun U pre W ⟨Ui, hU, _, _, hi, hl, hk⟩ b hb => ?_, fun U pre W W' X ⟨Ui, hU, n1, n2, hi, hl, hk⟩ hB hX => ⟨Ui, hU, n1, n2, hI.on Ui pre W W' X hi hB (fun b hb => hX b ((hU b).2 (.inl hb))), ?_, ?_⟩⟩
    · rcases (hU b).1 hb with h | h | h
      · exact hI.lt Ui pre W hi b h
      · rw [h]; exact (Array.getElem?_eq_some_iff.1 hk).1
      · rw [h]; exact (Array.getElem?_eq_some_iff.1 hl).1
    · exact (hB.block _ (Array.getElem?_eq_some_iff.1 hl).1 (hX _ ((hU _).2 (.inr (.inr rfl))))).trans hl
    · exact (hB.block _ (Array.getElem?_eq_some_iff.1 hk).1 (hX _ ((hU _).2 (.inr (.inl rfl))))).trans hk
  have hT : Takes P (w.heap.size + 1) xs.length J Jx := by
    rw [hJd, hJxd]
    rintro m U Dl pre x cs W ⟨Ui, hU, n1, n2, hi, hl, hk⟩ hlen hleaf hD
    have hlt : w.heap.size + 1 < W.heap.size := (Array.getElem?_eq_some_iff.1 hl).1
    have hy : (Instr.yield (w.heap.size + 1) #[.agg cs.toArray]).run P W = .ok (.round (w.heap.size + 1) fn (a.tmps.setIfInBounds pt (.agg cs.toArray)) assign body) W := by
      have := run_yield (P := P) (args := #[.agg cs.toArray]) hl (by rw [hrec]; rfl)
      rw [hrec] at this
      simpa using this
    refine ⟨fn, _, assign, body, hy, roundIn_of_wpIn hfn (hassign m _ Dl x cs W _ hleaf ?_)⟩
    have hla : (W.alloc (.cells cs.toArray tl)).heap[w.heap.size + 1]? = some (.loop (rec .ready none)) := (Below.heap_alloc _ _ _ hlt).trans hl
    have hka : (W.alloc (.cells cs.toArray tl)).heap[w.heap.size]? = some (.deferred (some [])) := (Below.heap_alloc _ _ _ (by omega)).trans hk
    refine ⟨_, run_beginRound hla (by rw [hrec]), ?_⟩
    obtain ⟨W2, hW2⟩ : ∃ W2, (W.alloc (.cells cs.toArray tl)).putObj (w.heap.size + 1) (.loop { rec .ready none with state := .busy }) = W2 := ⟨_, rfl⟩
    have hl2 : W2.heap[w.heap.size + 1]? = some (.loop { rec .ready none with state := .busy }) := by rw [← hW2]; exact World.putObj_heap_same (by simp; omega)
    have hk2 : W2.heap[w.heap.size]? = some (.deferred (some [])) := by rw [← hW2]; exact (World.putObj_heap_other (by omega)).trans hka
    have hB2 : But (fun b => b = w.heap.size + 1) W W2 := by
      rw [← hW2]; exact ((But.laid W _).trans (But.put _ _ _)).wider fun _ _ h => h.elim False.elim id
    have hs2 : W2.heap.size = W.heap.size + 1 := by rw [← hW2]; simp
    have hbx2 : BlockIs W2 W.heap.size tl cs.toArray := by
      refine (BlockIs.new W tl cs.toArray).to ?_
      rw [← hW2]; exact World.putObj_heap_other (by omega)
    have hDl : ∀ b, Dl b → b < W.heap.size ∧ ¬ Ui b ∧ b ≠ w.heap.size ∧ b ≠ w.heap.size + 1 := fun b hb => ⟨(hD b hb).1, fun h => (hD b hb).2 ((hU b).2 (.inl h)), fun h => (hD b hb).2 ((hU b).2 (.inr (.inl h))), fun h => (hD b hb).2 ((hU b).2 (.inr (.inr h)))⟩
    have hUi : ∀ b, Ui b → b < W.heap.size := hI.lt Ui pre W hi
    rw [hW2]
    refine wpIn_mono (hbody m _ Ui Dl pre x cs W.heap.size W2 (hI.on Ui pre W W2 _ hi hB2 (fun b hb e => n2 (e ▸ hb))) hlen (hleaf.keep (fun b o hb => World.cell?_of_block (hB2.block b (hDl b hb).1 (hDl b hb).2.2.2)) (fun _ h => h)) (fun b hb => ⟨by have := (hDl b hb).1; omega, (hDl b hb).2.1, fun e => by have := (hDl b hb).1; omega⟩) hbx2 (fun h => by have := hUi _ h; omega)) ?_
    have fin : ∀ (jump : Option Code) (W3 : World), But Ui W2 W3 →
        (Instr.endRound (w.heap.size + 1) jump).run P W3 = .ok (.bool jump.isNone) (W3.putObj (w.heap.size + 1) (.loop (rec (if jump.isNone then .ready else .done) jump))) ∧
        (W3.putObj (w.heap.size + 1) (.loop (rec (if jump.isNone then .ready else .done) jump))).heap[w.heap.size + 1]? = some (.loop (rec (if jump.isNone then .ready else .done) jump)) ∧
        (W3.putObj (w.heap.size + 1) (.loop (rec (if jump.isNone then .ready else .done) jump))).heap[w.heap.size]? = some (.deferred (some [])) := fun jump W3 hB3 => by
      have hl3 := (hB3.block _ (by omega) n2).trans hl2
      have hk3 := (hB3.block _ (by omega) n1).trans hk2
      have := run_endRound (P := P) jump hl3
      rw [hrec] at this ⊢
      exact ⟨this, World.putObj_heap_same (Array.getElem?_eq_some_iff.1 hl3).1, (World.putObj_heap_other (by omega)).trans hk3⟩
    rintro e a3 W3 hp
    cases e with
    | normal =>
      obtain ⟨U', hi', hU', hB3⟩ := hp
      obtain ⟨hr, hl4, hk4⟩ := fin none W3 hB3
      have hn : ∀ b, b = w.heap.size ∨ b = w.heap.size + 1 → ¬ U' b := fun b hb h => by
        rcases hU' b h with h | h | h | h
        · rcases hb with rfl | rfl
          · exact n1 h
          · exact n2 h
        · have := hDl b h; omega
        · omega
        · omega
      refine ⟨_, _, hr, .inl ⟨rfl, fun b => U' b ∨ b = w.heap.size ∨ b = w.heap.size + 1, ⟨U', fun _ => Iff.rfl, hn _ (.inl rfl), hn _ (.inr rfl), hI.on U' _ W3 _ _ hi' (But.put _ _ _) (fun b hb e => hn b (.inr e) hb), hl4, hk4⟩, fun b hb => ?_, ?_⟩⟩
      · rcases hb with h | h | h
        · rcases hU' b h with h | h | h | h
          · exact .inl ((hU b).2 (.inl h))
          · exact .inr (.inl h)
          · exact .inr (.inr (by omega))
          · exact .inr (.inr (by omega))
        · exact .inl ((hU b).2 (.inr (.inl h)))
        · exact .inl ((hU b).2 (.inr (.inr h)))
      · refine ((hB2.trans hB3).trans (But.put _ _ _)).wider fun b _ h => (hU b).2 ?_
        rcases h with (h | h) | h
        · exact .inr (.inr h)
        · exact .inl h
        · exact .inr (.inr h)
    | ret =>
      obtain ⟨hx', hB3⟩ := hp
      obtain ⟨hr, hl4, hk4⟩ := fin (some .ret) W3 hB3
      exact ⟨_, _, hr, .inr ⟨rfl, hIx _ _ _ _ hx' (by omega), hl4, hk4⟩⟩
    | exit id => exact hp.elim
    | goto t => exact hp.elim
    | panic ch => exact hp.elim
    | outgrown => exact hp.elim
  refine ⟨w.heap.size + 1, [{ target := .collected w.heap.size, args := #[] }], W1, { target := .fn (.func gf) lb, args := #[.func (.yield (w.heap.size + 1)) #[] #[]] }, W1, gf,
    #[.func (.yield (w.heap.size + 1)) #[] #[]] ++ lb, W1, ?_, ?_, ?_, ?_, (fun h => by cases h), ?_⟩
  · rw [← hW1, hrec]; exact run_enterLoop_outer _ _ _ _ _
  · simp only [resolve, hg]
    simp [go_sem]
  · intro f' _; trivial
  · simp [invoke, go_sem, eg]
  · refine (hseq (w.heap.size + 1) J Jx (fun b => U0 b ∨ b = w.heap.size ∨ b = w.heap.size + 1) W1 hJ hT (by rw [hJd]; exact ⟨U0, fun _ => Iff.rfl, fun h => by have := hlt0 _ h; omega, fun h => by have := hlt0 _ h; omega, hI1, hL1, hK1⟩) hb1 (fun b hb => hb.imp id fun h => by omega)).mono ?_
    rintro e W2 ⟨⟨v, rfl⟩, (⟨U', hj, -, hB'⟩ | ⟨q, hq, hj⟩)⟩
    · rw [hJd] at hj
      obtain ⟨Ui, hU, n1, n2, hi, hl, hk⟩ := hj
      refine ⟨none, _, by have := run_endLoop (P := P) hl (by rw [hrec]; simp); rw [hrec] at this; exact this, hdone _ Ui _ (Nat.le_refl _) n1 (hI.on Ui _ W2 _ (fun b => b = w.heap.size + 1) hi (But.put _ _ _) (fun b hb e => n2 (e ▸ hb))) ?_ ((World.putObj_heap_other (by omega)).trans hk)⟩
      refine (((But.below (X := fun _ => False) hb1).trans hB').trans (But.put _ _ _)).wider fun b hb h => ?_
      rcases h with (h | h | h | h) | h
      · exact h.elim
      · exact h
      · omega
      · omega
      · omega
    · rw [hJxd] at hj
      obtain ⟨hx', hl, hk⟩ := hj
      exact ⟨some .ret, _, by have := run_endLoop (P := P) hl (by rw [hrec]; simp); rw [hrec] at this; exact this, hstop _ q _ (Nat.le_refl _) hq (hIx _ _ _ _ hx' (by omega)) ((World.putObj_heap_other (by omega)).trans hk)⟩
open Go.RowKit
/-- No operation defers. -/
def noDefer (ops : Array Oper) : Bool := ops.all fun o => match o.op with | .defer _ => false | _ => true
section
variable {P : Program} {md : Region.Mode} {ops : Array Oper} {Q : Exit → Act → World → Prop} {n l : Nat}
theorem noDefer_at (h : noDefer ops = true) {i : Nat} {o : Oper} (ho : ops[i]? = some o) : ∀ c, o.op ≠ .defer c := by
  intro c e
  have := Array.all_eq_true_iff_forall_mem.1 h o (Array.mem_of_getElem? ho)
  rw [e] at this
  cases this
theorem round_op {o : Oper} {a : Act} {w : World} {K : Act → World → Prop} (hd : ∀ c, o.op ≠ .defer c) (h : o.wp P a w K Q) : o.wpIn (Fence.wide.inRound l) n P a w K Q := by
  refine ⟨fun _ _ => trivial, ?_⟩
  rw [Oper.semAt_plain _ _ _ hd]
  unfold Oper.wp at h
  generalize (execOp a.eval o).run P w = r at *
  cases r with
  | ok x w' =>
    cases x <;> simp only [Oper.upon, Oper.uponIn] at h ⊢
    case value => exact h
    case skip => exact h
    case defer => exact h
    case enter => exact ⟨(fun q => by cases q), CallsIn.inRound l (callsIn_wide.2 (Calls.mono h fun e w'' he => by cases e <;> exact he))⟩
    case row =>
      refine ⟨(fun q => by cases q), fun c cs _ => ?_⟩
      obtain ⟨v, w', r, s⟩ := h c cs
      exact ⟨v, w', r, stepsIn_wide.2 s⟩
  | halt x w' => cases x <;> simp only [Oper.upon, Oper.uponIn] at h ⊢ <;> exact h
theorem round_any (hd : noDefer ops = true) (ho : ∀ a w, ¬ Q .outgrown a w) : ∀ (fuel : Nat) (listed : Array Bool) (a : Act) (w : World), wpAny P md ops Q fuel listed a w → wpAnyIn (Fence.wide.inRound l) n P md ops Q fuel listed a w
  | 0, _, _, _, h => h
  | fuel + 1, listed, a, w, h => by
    refine ⟨h.1, fun i hi => ?_⟩
    have h2 := h.2 i hi
    unfold wpOp at h2
    unfold wpOpIn
    cases hoi : ops[i]? with
    | none => rw [hoi] at h2; exact round_any hd ho fuel _ _ _ h2
    | some o =>
      rw [hoi] at h2
      simp only at h2 ⊢
      split
      · rename_i hw
        rw [if_pos hw] at h2
        rcases h2 with h2 | ⟨-, a', w', h2⟩
        · exact round_op (noDefer_at hd hoi) (Oper.wp_mono (fun a w h => round_any hd ho fuel _ a w h) h2)
        · exact (ho a' w' h2).elim
      · rename_i hw
        rw [if_neg hw] at h2
        exact ⟨fun _ _ => trivial, round_any hd ho fuel _ _ _ h2⟩
/-- A drawn region in a round: with a condition held. -/
theorem region_round {id : Nat} {a : Act} {w : World} (S : World → Prop) (hm : P.follows .mixedOrders = true) (hd : noDefer ops = true) (ho : ∀ a w, ¬ Q .outgrown a w) (hS : S w.drew)
    (h : S w.drew → wpAnyH P .any ops Q S ops.size (Array.replicate ops.size false) a w.drew) : (Code.region id ops true).wpIn (Fence.wide.inRound l) n P Q a w :=
  wpIn_region_any hm (round_any hd ho _ _ _ _ (wpAny_of_held _ _ _ _ (h hS)))
end
open Go.RowKit Go.Shelf
/-- The collected leaves: their box, their row, their blocks. -/
def LB (L : Nat) (U : Nat → Prop) (acc : List Lf) (W : World) : Prop :=
  ∃ (rO : Value) (css : List (List Value)) (D : Nat → Prop), BlockIs W L 22 #[rO] ∧ W.ownsRow (L + 1) 47 6 rO acc.length css.flatten ∧ LeafsIn D W acc css ∧ (∀ b, D b → b < W.heap.size ∧ b ≠ L ∧ some b ≠ rO.ownBlock) ∧ ∀ b, U b ↔ b = L ∨ some b = rO.ownBlock ∨ D b
theorem LB.start (W : World) : LB W.heap.size (fun b => b = W.heap.size) [] (W.alloc (.cells #[.slice none 0 0] 22)) :=
  ⟨.slice none 0 0, [], fun _ => False, BlockIs.new W _ _, World.ownsRow_nil _ _ _ _, trivial, fun _ h => h.elim, fun b => by simp [Value.ownBlock]⟩
theorem LB.coll (L : Nat) : Collects (LB L) := by
  refine ⟨fun U acc W ⟨rO, css, D, hb, ho, hr, hD, hU⟩ b hx => ?_, fun U acc W W' X ⟨rO, css, D, hb, ho, hr, hD, hU⟩ hB hX => ⟨rO, css, D, ?_, ?_, ?_, fun b hx => ⟨Nat.lt_of_lt_of_le (hD b hx).1 hB.size, (hD b hx).2⟩, hU⟩⟩
  · rcases (hU b).1 hx with h | h | h
    · rw [h]; exact hb.lt
    · exact (World.ownsRow.lt ho b h.symm).2
    · exact (hD b h).1
  · exact hb.to (hB.block L hb.lt (hX L ((hU L).2 (.inl rfl))))
  · exact own_stays ho fun b hx => hB.block b (World.ownsRow.lt ho b hx).2 (hX b ((hU b).2 (.inr (.inl hx.symm))))
  · exact hr.keep (fun b o hx => World.cell?_of_block (hB.block b (hD b hx).1 (hX b ((hU b).2 (.inr (.inr hx)))))) (fun _ h => h)
theorem LB.more {L g n cap rc : Nat} {RA : Option Addr} {U D D' : Nat → Prop} {acc : List Lf} {x : Lf} {cs : List Value} {css : List (List Value)} {W X w5 : World} (hb : BlockIs W L 22 #[.slice RA n rc]) (ho : W.ownsRow (L + 1) 47 6 (.slice RA n rc) n css.flatten) (hn : n = acc.length) (hr : LeafsIn D W acc css) (hD : ∀ b, D b → b < W.heap.size ∧ b ≠ L ∧ some b ≠ (Value.slice RA n rc).ownBlock) (hU : ∀ b, U b ↔ b = L ∨ some b = (Value.slice RA n rc).ownBlock ∨ D b)
    (hleaf : LeafIn D' W x cs) (hD' : ∀ b, D' b → b < W.heap.size ∧ ¬ U b) (hX : Below W.heap.size W X) (hown : w5.ownsRow (L + 1) 47 6 (.slice (some ⟨g, 0, none⟩) (n + 1) cap) (n + 1) (css.flatten ++ cs)) (hgrow : X.grownBy w5 (Value.slice RA n rc).ownBlock) (hg : (Value.slice RA n rc).ownBlock = some g ∨ g = X.heap.size) :
    ∃ U', LB L U' (acc ++ [x]) (w5.setCell ⟨L, 0, none⟩ (.slice (some ⟨g, 0, none⟩) (n + 1) cap)) ∧ (∀ b, U' b → U b ∨ D' b ∨ W.heap.size ≤ b) ∧ But U W (w5.setCell ⟨L, 0, none⟩ (.slice (some ⟨g, 0, none⟩) (n + 1) cap)) := by
  have hgL := (World.ownsRow.lt hown g rfl).1
  have hoL : ∀ b, (Value.slice RA n rc).ownBlock = some b → L + 1 ≤ b := fun b hx => (World.ownsRow.lt ho b hx).1
  have hkeep : ∀ b, b < W.heap.size → b ≠ L → some b ≠ (Value.slice RA n rc).ownBlock → (w5.setCell ⟨L, 0, none⟩ (.slice (some ⟨g, 0, none⟩) (n + 1) cap)).heap[b]? = W.heap[b]? := fun b h1 h2 h3 =>
    ((Below.heap_setCell w5 ⟨L, 0, none⟩ _ b h2).trans (hgrow.block b (by have := hX.size; omega) h3)).trans (hX.block b h1)
  have hb5 : BlockIs w5 L 22 #[.slice RA n rc] := (hb.below hX hb.lt).grown hgrow fun e => by have := hoL L e.symm; omega
  have hD2 : ∀ b, D' b → b < W.heap.size ∧ b ≠ L ∧ some b ≠ (Value.slice RA n rc).ownBlock := fun b hx => ⟨(hD' b hx).1, fun e => (hD' b hx).2 ((hU b).2 (.inl e)), fun e => (hD' b hx).2 ((hU b).2 (.inr (.inl e)))⟩
  have hX1 := hX.size
  have h51 := hgrow.size
  have hs5 : (w5.setCell ⟨L, 0, none⟩ (.slice (some ⟨g, 0, none⟩) (n + 1) cap)).heap.size = w5.heap.size := by simp
  have hgo : ∀ b, (b < W.heap.size ∧ b ≠ L ∧ some b ≠ (Value.slice RA n rc).ownBlock) → some b ≠ (Value.slice (some ⟨g, 0, none⟩) (n + 1) cap).ownBlock := fun b hx e => by
    have e1 : b = g := Option.some.inj e
    rcases hg with h | h
    · exact hx.2.2 (by rw [h, e1])
    · omega
  refine ⟨fun b => b = L ∨ some b = (Value.slice (some ⟨g, 0, none⟩) (n + 1) cap).ownBlock ∨ (D b ∨ D' b), ⟨_, css ++ [cs], fun b => D b ∨ D' b, by simpa using hb5.set_ 0 (.slice (some ⟨g, 0, none⟩) (n + 1) cap), ?_, ?_, ?_, fun _ => Iff.rfl⟩, ?_, ?_⟩
  · rw [List.length_append, List.length_singleton, ← hn, List.flatten_append, show [cs].flatten = cs by simp]
    exact own_stays hown fun b hx => Below.heap_setCell w5 ⟨L, 0, none⟩ _ b (by have : g = b := Option.some.inj hx; show b ≠ L; omega)
  · exact LeafsIn.append (show LeafsIn (fun b => D b ∨ D' b) (w5.setCell ⟨L, 0, none⟩ (.slice (some ⟨g, 0, none⟩) (n + 1) cap)) [x] [cs] from ⟨hleaf.keep (fun b o hx => World.cell?_of_block (hkeep b (hD2 b hx).1 (hD2 b hx).2.1 (hD2 b hx).2.2)) (fun _ h => .inr h), trivial⟩) (hr.keep (fun b o hx => World.cell?_of_block (hkeep b (hD b hx).1 (hD b hx).2.1 (hD b hx).2.2)) (fun _ h => .inl h))
  · intro b hx
    have h := hx.elim (hD b) (hD2 b)
    exact ⟨by omega, h.2.1, hgo b h⟩
  · intro b hx
    rcases hx with h | h | h | h
    · exact .inl ((hU b).2 (.inl h))
    · have e1 : b = g := Option.some.inj h
      rcases hg with h' | h'
      · exact .inl ((hU b).2 (.inr (.inl (by rw [h', e1]))))
      · exact .inr (.inr (by omega))
    · exact .inl ((hU b).2 (.inr (.inr h)))
    · exact .inr (.inl h)
  · have hs := (But.below (X := fun _ => False) hX).trans (But.grown hgrow)
    have hsc := But.grown (grownBy_setCell' w5 L (.slice (some ⟨g, 0, none⟩) (n + 1) cap))
    refine (hs.trans hsc).wider fun b _ hx => ?_
    rcases hx with (h | h) | h
    · exact h.elim
    · exact (hU b).2 (.inr (.inl h))
    · exact (hU b).2 (.inl (Option.some.inj h))
theorem LB.done {L : Nat} {U : Nat → Prop} {acc : List Lf} {W : World} (h : LB L U acc W) : ∃ A c, BlockIs W L 22 #[.slice A acc.length c] ∧ LeafRow (fun b => b < W.heap.size) W A c acc := by
  obtain ⟨rO, css, D, hb, ho, hr, hD, hU⟩ := h
  obtain ⟨a, cap, rfl⟩ := own_form ho
  refine ⟨a, cap, hb, ?_⟩
  have hrows : LeafsIn (fun b => b < W.heap.size) W acc css := hr.keep (fun _ _ _ => rfl) fun b hx => (hD b hx).1
  have ho5 := ho
  obtain ⟨hl, ⟨he, h0⟩ | ⟨g, cap', cur, he, hbg, hg, hnc, hcm, hcs, ht⟩⟩ := ho5
  · simp only [Value.slice.injEq] at he
    have : acc = [] := List.length_eq_zero_iff.1 h0
    subst this
    exact ⟨by simp, by have := he.2.2; omega, css, hrows, .inl rfl⟩
  · simp only [Value.slice.injEq] at he
    obtain ⟨rfl, -, rfl⟩ := he
    refine ⟨hnc, hcm, css, hrows, .inr ⟨g, 0, rfl, (World.ownsRow.lt ho g rfl).2, fun j u hu => ?_⟩⟩
    have := World.ownsRow.cells ho (g := g) rfl j u hu
    rw [Addr.add_lit] at this
    exact this
theorem But.to_below {X : Nat → Prop} {W W' : World} {B : Nat} (h : But X W W') (hX : ∀ b, X b → B ≤ b) (hB : B ≤ W.heap.size) : Below B W W' := ⟨h.os, h.tape, h.output, h.size, fun b hb => h.block b (by omega) fun e => by have := hX b e; omega⟩
set_option maxRecDepth 100000 in
set_option maxHeartbeats 1000000 in
/-- The iterator, made. -/
theorem leavesF_any (w : World) (v0 v1 v2 v3 v4 : Value) :
    Calls Tryz.prog 33 #[.agg #[v0, v1, v2, v3, v4]] w fun e w' => e = .returned (.func (.func 50) #[] #[.pointer (some ⟨w.heap.size, 0, none⟩)]) ∧ w' = w.alloc (.cells #[v0, v1, v2, v3, v4] 27) := by
  go_enter Tryz.func33, Tryz.ntmps33
  go_wp2_with fail
  go_ret
  exact ⟨rfl, rfl⟩
end Go.Proofs.YtchadlbhdcpojaaGreatDoor

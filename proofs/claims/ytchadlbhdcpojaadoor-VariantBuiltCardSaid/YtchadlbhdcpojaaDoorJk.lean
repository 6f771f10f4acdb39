/- A region whose last operation waits for all others: the others in whatever order, then the last one. -/
import Derived.Test.YtchadlbhdcpojaaDoorMb
import Derived.Deep.RegionHeld3
import Derived.RangeFuncKeeps
import Derived.OrdersIn
import Derived.Test.YtchadlbhdcpojaaDoorJg
import Derived.Test.YtchadlbhdcpojaaDoorJh
import Derived.Sort.CutIn
import Derived.OwnWalkIn
import Derived.TacticsInMore
import Derived.RangeFuncLeaves
namespace Go.Proofs.YtchadlbhdcpojaaDoor
open Go.RowKit
/-- What is asked behind the others: that the last one can be carried out. -/
def Upto (P : Program) (ops : Array Oper) (n : Nat) (Q : Exit → Act → World → Prop) : Exit → Act → World → Prop
  | .normal, a, w => wpOp P ops Q n (fun a w => Q .normal a w) a w
  | e, a, w => Q e a w
/-- No operation is guarded; each waits for earlier ones alone; the last one for all. -/
def lastOk (md : Region.Mode) (ops : Array Oper) (last : Oper) : Bool :=
  (List.range ops.size).all (fun i => match ops[i]? with | some o => o.guard.isNone && o.after.all (fun e => !Region.binds md e || decide (e.on < i)) | none => false) &&
  last.guard.isNone && last.after.all (fun e => !Region.binds md e || decide (e.on < ops.size)) && (List.range ops.size).all (fun k => last.after.any (fun e => Region.binds md e && e.on == k))
section
variable {P : Program} {md : Region.Mode} {ops : Array Oper} {last : Oper} {Q Q' : Exit → Act → World → Prop}
theorem lastOk_op (h : lastOk md ops last = true) {i : Nat} {o : Oper} (ho : ops[i]? = some o) : o.guard = none ∧ ∀ e ∈ o.after, Region.binds md e = true → e.on < i := by
  unfold lastOk at h
  simp only [Bool.and_eq_true, List.all_eq_true, List.mem_range] at h
  have hi : i < ops.size := (Array.getElem?_eq_some_iff.1 ho).1
  have h1 := h.1.1.1 i hi
  rw [ho] at h1
  simp only [Bool.and_eq_true, Option.isNone_iff_eq_none, Array.all_eq_true_iff_forall_mem, Bool.or_eq_true, Bool.not_eq_true', decide_eq_true_eq] at h1
  exact ⟨h1.1, fun e he hb => (h1.2 e he).resolve_left (by rw [hb]; simp)⟩
theorem lastOk_end (h : lastOk md ops last = true) : last.guard = none ∧ (∀ e ∈ last.after, Region.binds md e = true → e.on < ops.size) ∧ ∀ k, k < ops.size → ∃ e ∈ last.after, Region.binds md e = true ∧ e.on = k := by
  unfold lastOk at h
  simp only [Bool.and_eq_true, List.all_eq_true, List.mem_range, Option.isNone_iff_eq_none, Array.all_eq_true_iff_forall_mem, Bool.or_eq_true, Bool.not_eq_true', decide_eq_true_eq, Array.any_eq_true', beq_iff_eq] at h
  exact ⟨h.1.1.2, fun e he hb => (h.1.2 e he).resolve_left (by rw [hb]; simp), fun k hk => by
    obtain ⟨e, he, hb, hk'⟩ := h.2 k hk
    exact ⟨e, he, hb, hk'⟩⟩
/-- Where nothing may come up all has come up. -/
theorem all_listed (h : ∀ i o, ops[i]? = some o → ∀ e ∈ o.after, Region.binds md e = true → e.on < i) {listed : Array Bool} (hs : listed.size = ops.size) (hr : Region.ready md ops listed = []) : ∀ i, i < ops.size → listed.getD i true = true := by
  intro i
  induction i using Nat.strongRecOn with
  | ind i ih =>
    intro hi
    by_cases hl : listed.getD i true = true
    · exact hl
    · exfalso
      have : i ∈ Region.ready md ops listed := mem_ready.2 ⟨by simpa using hl, ops[i], Array.getElem?_eq_getElem hi, fun e he hb => by
        have h1 := h i _ (Array.getElem?_eq_getElem hi) e he hb
        have h2 := ih e.on h1 (by omega)
        have h3 : e.on < listed.size := by omega
        rw [Array.getD_eq_getD_getElem?, Array.getElem?_eq_getElem h3] at h2 ⊢
        exact h2⟩
      rw [hr] at this
      cases this
theorem push_lt {listed : Array Bool} {i : Nat} (d : Bool) (h : i < listed.size) : (listed.push false).getD i d = listed.getD i d := by
  rw [Array.getD_eq_getD_getElem?, Array.getD_eq_getD_getElem?, Array.getElem?_push_lt h, Array.getElem?_eq_getElem h]
theorem push_at {listed : Array Bool} {n : Nat} (h : listed.size = n) (d : Bool) : (listed.push false).getD n d = false := by
  subst h
  rw [Array.getD_eq_getD_getElem?, Array.getElem?_push_size]; rfl
theorem wp_turn {o : Oper} {a : Act} {w : World} {K K' : Act → World → Prop} (hK : ∀ a w, K' a w → K a w) (hp : ∀ c a w, Q' (.panic c) a w → Q (.panic c) a w) (ho : ∀ a w, Q' .outgrown a w → Q .outgrown a w) (h : o.wp P a w K' Q') : o.wp P a w K Q := by
  unfold Oper.wp at *
  generalize (execOp a.eval o).run P w = r at *
  cases r with
  | ok n w' =>
    cases n <;> simp only [Oper.upon] at h ⊢
    case value => exact hK _ _ h
    case skip => exact hK _ _ h
    case defer => exact hK _ _ h
    case enter f args =>
      refine Calls.mono h fun e w'' he => ?_
      cases e with
      | returned u => exact hK _ _ he
      | panicked c => exact hp _ _ _ he
      | outgrown => exact he.imp fun a h => h.imp fun w h => ho a w h
    case row => exact Rows.mono h fun _ _ he => hK _ _ he
  | halt x w' =>
    cases x <;> simp only [Oper.upon] at h ⊢
    exact hp _ _ _ h
theorem wpOp_push {i : Nat} {a : Act} {w : World} {K K' : Act → World → Prop} (hok : lastOk md ops last = true) (hi : i < ops.size) (hK : ∀ a w, K' a w → K a w) (h : wpOp P ops (Upto P (ops.push last) ops.size Q) i K' a w) : wpOp P (ops.push last) Q i K a w := by
  have ho : ops[i]? = some ops[i] := Array.getElem?_eq_getElem hi
  have hg := (lastOk_op hok ho).1
  unfold wpOp at h ⊢
  rw [ho] at h
  rw [Array.getElem?_push_lt hi]
  simp only [Region.wanted, hg, if_true] at h ⊢
  refine h.imp (wp_turn hK (fun _ _ _ h => h) (fun _ _ h => h)) fun h => ⟨h.1, h.2⟩
theorem full_ready {listed : Array Bool} (h : ∀ i, i < ops.size → listed.getD i true = true) : Region.ready md ops listed = [] := by
  rw [List.eq_nil_iff_forall_not_mem]
  intro i hi
  obtain ⟨h0, o, ho, -⟩ := mem_ready.1 hi
  rw [h i (Array.getElem?_eq_some_iff.1 ho).1] at h0
  cases h0
theorem wpAny_push (hok : lastOk md ops last = true) : ∀ (fuel : Nat) (listed : Array Bool) (a : Act) (w : World), listed.size = ops.size → wpAny P md ops (Upto P (ops.push last) ops.size Q) fuel listed a w → wpAny P md (ops.push last) Q (fuel + 1) (listed.push false) a w := by
  have hall : ∀ i o, (ops.push last)[i]? = some o → ∀ e ∈ o.after, Region.binds md e = true → e.on < i := by
    intro i o ho e he hb
    have hi : i < ops.size + 1 := by have := (Array.getElem?_eq_some_iff.1 ho).1; rw [Array.size_push] at this; exact this
    rcases Nat.lt_or_ge i ops.size with hlt | hge
    · rw [Array.getElem?_push_lt hlt] at ho
      exact (lastOk_op hok (by rw [Array.getElem?_eq_getElem hlt]; exact ho)).2 e he hb
    · have : i = ops.size := by omega
      subst this
      rw [Array.getElem?_push_size] at ho
      cases ho
      exact (lastOk_end hok).2.1 e he hb
  have hsome : ∀ (listed : Array Bool), listed.size = ops.size → ¬ Region.ready md (ops.push last) (listed.push false) = [] := by
    intro listed hs hr
    have := all_listed hall (by simp [hs]) hr ops.size (by simp)
    rw [push_at hs] at this
    cases this
  have hin : ∀ (listed : Array Bool), listed.size = ops.size → ∀ i ∈ Region.ready md (ops.push last) (listed.push false), (i = ops.size ∧ ∀ k, k < ops.size → listed.getD k true = true) ∨ (i < ops.size ∧ i ∈ Region.ready md ops listed) := by
    intro listed hs i hi
    obtain ⟨h0, o, ho, he⟩ := mem_ready.1 hi
    have hi' : i < ops.size + 1 := by have := (Array.getElem?_eq_some_iff.1 ho).1; rw [Array.size_push] at this; exact this
    rcases Nat.lt_or_ge i ops.size with hlt | hge
    · refine .inr ⟨hlt, mem_ready.2 ⟨by rw [push_lt true (by omega)] at h0; exact h0, o, by rw [Array.getElem?_push_lt hlt] at ho; rw [Array.getElem?_eq_getElem hlt]; exact ho, fun e hem hb => ?_⟩⟩
      have h1 := hall i o ho e hem hb
      have h2 := he e hem hb
      rw [push_lt false (by omega)] at h2
      exact h2
    · have hn : i = ops.size := by omega
      subst hn
      rw [Array.getElem?_push_size] at ho
      cases ho
      refine .inl ⟨rfl, fun k hk => ?_⟩
      obtain ⟨e, hem, hb, rfl⟩ := (lastOk_end hok).2.2 k hk
      have h2 := he e hem hb
      rw [push_lt false (by omega), Array.getD_eq_getD_getElem?, Array.getElem?_eq_getElem (by omega : e.on < listed.size)] at h2
      rw [Array.getD_eq_getD_getElem?, Array.getElem?_eq_getElem (by omega : e.on < listed.size)]
      exact h2
  have hend : ∀ (fuel : Nat) (listed : Array Bool), listed.size = ops.size → (∀ k, k < ops.size → listed.getD k true = true) → ∀ a w, Q .normal a w → wpAny P md (ops.push last) Q fuel ((listed.push false).setIfInBounds ops.size true) a w := by
    intro fuel listed hs hl a w hq
    have hr : Region.ready md (ops.push last) ((listed.push false).setIfInBounds ops.size true) = [] := full_ready fun i hi => by
      rw [Array.size_push] at hi
      by_cases he : ops.size = i
      · subst he
        rw [Array.getD_eq_getD_getElem?, Array.getElem?_setIfInBounds_self_of_lt (by simp [hs])]; rfl
      · rw [getD_set_ne true he, push_lt true (by omega)]
        exact hl i (by omega)
    cases fuel with
    | zero => exact ⟨hr, hq⟩
    | succ k => exact ⟨fun _ => hq, by rw [hr]; simp⟩
  intro fuel
  induction fuel with
  | zero =>
    intro listed a w hs h
    refine ⟨fun hr => absurd hr (hsome listed hs), fun i hi => ?_⟩
    rcases hin listed hs i hi with ⟨rfl, hl⟩ | ⟨hlt, hi'⟩
    · exact wpOp_mono (fun a w hq => hend 0 listed hs hl a w hq) h.2
    · rw [h.1] at hi'; cases hi'
  | succ fuel ih =>
    intro listed a w hs h
    refine ⟨fun hr => absurd hr (hsome listed hs), fun i hi => ?_⟩
    rcases hin listed hs i hi with ⟨rfl, hl⟩ | ⟨hlt, hi'⟩
    · exact wpOp_mono (fun a w hq => hend (fuel + 1) listed hs hl a w hq) (h.1 (full_ready hl))
    · refine wpOp_push hok hlt (fun a w h' => ?_) (h.2 i hi')
      have := ih (listed.setIfInBounds i true) a w (by simp [hs]) h'
      rw [show (listed.push false).setIfInBounds i true = (listed.setIfInBounds i true).push false from by
        apply Array.ext'
        rw [Array.toList_setIfInBounds, Array.toList_push, Array.toList_push, Array.toList_setIfInBounds, List.set_append_left _ _ (by simp; omega)]]
      exact this
/-- A region that draws its order, its last operation waiting for all others: the others with a condition held, then that one. -/
theorem region_push {id : Nat} {all : Array Oper} {a : Act} {w : World} (S : World → Prop) (ops : Array Oper) (last : Oper) (he : all = ops.push last) (hm : P.follows .mixedOrders = true) (hok : lastOk .any ops last = true) (hS : S w.drew)
    (h : S w.drew → wpAnyH P .any ops (Upto P (ops.push last) ops.size Q) S ops.size (Array.replicate ops.size false) a w.drew) : (Code.region id all true).wp P Q a w := by
  subst he
  refine wp_region_any hm ?_
  have := wpAny_push hok ops.size (Array.replicate ops.size false) a w.drew (by simp) (wpAny_of_held _ _ _ _ (h hS))
  rw [Array.size_push, Array.replicate_succ]
  exact this
/-- The last one, where it is carried out. -/
theorem upto_step {n : Nat} {o : Oper} {a : Act} {w : World} (ho : ops[n]? = some o) (h : ∀ K' : Act → World → Prop, (∀ a w, Q .normal a w → K' a w) → if Region.wanted o (yielded ops a.tmps) = true then Oper.wp P o a w K' Q else K' (a.put o.dst undef) w) : Upto P ops n Q .normal a w :=
  wpOp_step ho h
end
open Go.RowKit
section
variable {P : Program} {md : Region.Mode} {ops : Array Oper} {last : Oper} {Q Q' : Exit → Act → World → Prop} {n : Nat} {listed : Array Bool}
theorem wide_op {o : Oper} {a : Act} {w : World} {K : Act → World → Prop} (h : o.wp P a w K Q) : o.wpIn Fence.wide n P a w K Q := by
  refine ⟨fun _ _ => trivial, ?_⟩
  have hr : Fence.wide.round = none := rfl
  rw [hr, Oper.semAt_none]
  unfold Oper.wp at h
  generalize (execOp a.eval o).run P w = r at *
  cases r with
  | ok x w' =>
    cases x <;> simp only [Oper.upon, Oper.uponIn] at h ⊢
    case value => exact h
    case skip => exact h
    case defer => exact h
    case enter => exact ⟨(fun q => by cases q), callsIn_wide.2 (Calls.mono h fun e w'' he => by cases e <;> exact he)⟩
    case row =>
      refine ⟨(fun q => by cases q), fun c cs _ => ?_⟩
      obtain ⟨v, w', r, s⟩ := h c cs
      exact ⟨v, w', r, stepsIn_wide.2 s⟩
  | halt x w' => cases x <;> simp only [Oper.upon, Oper.uponIn] at h ⊢ <;> exact h
/-- What waits, directly or through others. -/
def depsOf (md : Region.Mode) (ops : Array Oper) (k : Nat) : List Nat := match ops[k]? with
  | some o => (o.after.toList.filter (Region.binds md)).map (·.on)
  | none => []
def waits (md : Region.Mode) (ops : Array Oper) : Nat → List Nat → List Nat
  | 0, l => l
  | f + 1, l => waits md ops f ((l ++ l.flatMap (depsOf md ops)).eraseDups)
def tailOk (md : Region.Mode) (ops : Array Oper) (last : Oper) : Bool :=
  (List.range ops.size).all (fun i => match ops[i]? with | some o => o.guard.isNone && o.after.all (fun e => !Region.binds md e || decide (e.on < i)) | none => false) &&
  last.guard.isNone && last.after.all (fun e => !Region.binds md e || decide (e.on < ops.size)) &&
  (List.range ops.size).all (fun k => (waits md ops ops.size ((last.after.toList.filter (Region.binds md)).map (·.on))).contains k)
/-- Whatever has come, what it waits for has come. -/
def Closed (md : Region.Mode) (ops : Array Oper) (listed : Array Bool) : Prop := ∀ (i : Nat) (o : Oper), ops[i]? = some o → listed.getD i false = true → ∀ e ∈ o.after, Region.binds md e = true → listed.getD e.on false = true
theorem waits_listed (hc : Closed md ops listed) : ∀ (f : Nat) (l : List Nat), (∀ k ∈ l, listed.getD k false = true) → ∀ k ∈ waits md ops f l, listed.getD k false = true
  | 0, l, h, k, hk => h k hk
  | f + 1, l, h, k, hk => by
    refine waits_listed hc f _ (fun j hj => ?_) k hk
    rw [List.mem_eraseDups, List.mem_append] at hj
    rcases hj with hj | hj
    · exact h j hj
    · obtain ⟨i, hi, hj⟩ := List.mem_flatMap.1 hj
      unfold depsOf at hj
      cases ho : ops[i]? with
      | none => rw [ho] at hj; cases hj
      | some o =>
        rw [ho] at hj
        obtain ⟨e, he, rfl⟩ := List.mem_map.1 hj
        rw [List.mem_filter] at he
        exact hc i o ho (h i hi) e (Array.mem_toList_iff.1 he.1) he.2
theorem tail_op (h : tailOk md ops last = true) {i : Nat} {o : Oper} (ho : ops[i]? = some o) : o.guard = none ∧ ∀ e ∈ o.after, Region.binds md e = true → e.on < i := by
  unfold tailOk at h
  simp only [Bool.and_eq_true, List.all_eq_true, List.mem_range] at h
  have hi : i < ops.size := (Array.getElem?_eq_some_iff.1 ho).1
  have h1 := h.1.1.1 i hi
  rw [ho] at h1
  simp only [Bool.and_eq_true, Option.isNone_iff_eq_none, Array.all_eq_true_iff_forall_mem, Bool.or_eq_true, Bool.not_eq_true', decide_eq_true_eq] at h1
  exact ⟨h1.1, fun e he hb => (h1.2 e he).resolve_left (by rw [hb]; simp)⟩
theorem tail_end (h : tailOk md ops last = true) : last.guard = none ∧ (∀ e ∈ last.after, Region.binds md e = true → e.on < ops.size) ∧ ∀ k, k < ops.size → k ∈ waits md ops ops.size ((last.after.toList.filter (Region.binds md)).map (·.on)) := by
  unfold tailOk at h
  simp only [Bool.and_eq_true, List.all_eq_true, List.mem_range, Option.isNone_iff_eq_none, Array.all_eq_true_iff_forall_mem, Bool.or_eq_true, Bool.not_eq_true', decide_eq_true_eq, List.contains_iff_mem] at h
  exact ⟨h.1.1.2, fun e he hb => (h.1.2 e he).resolve_left (by rw [hb]; simp), fun k hk => h.2 k hk⟩
/-- What is asked behind the others. -/
def UptoIn (n : Nat) (P : Program) (ops : Array Oper) (k : Nat) (Q : Exit → Act → World → Prop) : Exit → Act → World → Prop
  | .normal, a, w => wpOpIn Fence.wide n P ops Q k (fun a w => Q .normal a w) a w
  | .outgrown, _, _ => False
  | e, a, w => Q e a w
theorem wide_turn {o : Oper} {a : Act} {w : World} {K K' : Act → World → Prop} (hK : ∀ a w, K' a w → K a w) (hp : ∀ c a w, Q' (.panic c) a w → Q (.panic c) a w) (ho : ∀ a w, ¬ Q' .outgrown a w) (h : o.wpIn Fence.wide n P a w K' Q') : o.wpIn Fence.wide n P a w K Q := by
  unfold Oper.wpIn at *
  refine ⟨h.1, ?_⟩
  have h := h.2
  generalize (o.semAt Fence.wide.round a.eval).run P w = r at *
  cases r with
  | ok x w' =>
    cases x <;> simp only [Oper.uponIn] at h ⊢
    case value => exact hK _ _ h
    case skip => exact hK _ _ h
    case defer => exact hK _ _ h
    case enter => exact ⟨h.1, CallsIn.mono h.2 fun e w'' he => by
      cases e with
      | returned u => exact hK _ _ he
      | panicked c => exact hp _ _ _ he
      | outgrown => obtain ⟨a, w, h⟩ := he; exact (ho a w h).elim⟩
    case row => exact ⟨h.1, RowsIn.mono h.2 fun _ _ he => hK _ _ he⟩
    case round => exact ⟨h.1, RoundIn.mono h.2 fun e w'' he => by
      cases e with
      | returned u => exact hK _ _ he
      | panicked c => exact hp _ _ _ he
      | outgrown => obtain ⟨a, w, h⟩ := he; exact (ho a w h).elim⟩
  | halt x w' =>
    cases x <;> simp only [Oper.uponIn] at h ⊢
    exact hp _ _ _ h
theorem wide_any (ho : ∀ a w, ¬ Q .outgrown a w) : ∀ (fuel : Nat) (listed : Array Bool) (a : Act) (w : World), wpAny P md ops Q fuel listed a w → wpAnyIn Fence.wide n P md ops Q fuel listed a w
  | 0, _, _, _, h => h
  | fuel + 1, listed, a, w, h => by
    refine ⟨h.1, fun i hi => ?_⟩
    have h2 := h.2 i hi
    unfold wpOp at h2
    unfold wpOpIn
    cases hoi : ops[i]? with
    | none => rw [hoi] at h2; exact wide_any ho fuel _ _ _ h2
    | some o =>
      rw [hoi] at h2
      simp only at h2 ⊢
      split
      · rename_i hw
        rw [if_pos hw] at h2
        rcases h2 with h2 | ⟨-, a', w', h2⟩
        · exact wide_op (Oper.wp_mono (fun a w h => wide_any ho fuel _ a w h) h2)
        · exact (ho a' w' h2).elim
      · rename_i hw
        rw [if_neg hw] at h2
        exact ⟨fun _ _ => trivial, wide_any ho fuel _ _ _ h2⟩
theorem closed_set (hc : Closed md ops listed) {i : Nat} (hi : i ∈ Region.ready md ops listed) : Closed md ops (listed.setIfInBounds i true) := by
  obtain ⟨h0, o, ho, he⟩ := mem_ready.1 hi
  have hkeep : ∀ k, listed.getD k false = true → (listed.setIfInBounds i true).getD k false = true := fun k hk => by
    by_cases e : i = k
    · subst e
      have hlt : i < listed.size := by
        rcases Nat.lt_or_ge i listed.size with h | h
        · exact h
        · rw [Array.getD_eq_getD_getElem?, Array.getElem?_eq_none h] at hk; cases hk
      rw [Array.getD_eq_getD_getElem?, Array.getElem?_setIfInBounds_self_of_lt hlt]; rfl
    · rw [getD_set_ne false e]; exact hk
  intro k o' ho' hk e hem hb
  by_cases ek : i = k
  · subst ek
    rw [ho] at ho'
    cases ho'
    exact hkeep _ (he e hem hb)
  · rw [getD_set_ne false ek] at hk
    exact hkeep _ (hc k o' ho' hk e hem hb)
theorem wpOpIn_push {i : Nat} {a : Act} {w : World} {K K' : Act → World → Prop} (hok : tailOk md ops last = true) (hi : i < ops.size) (hK : ∀ a w, K' a w → K a w) (h : wpOpIn Fence.wide n P ops (UptoIn n P (ops.push last) ops.size Q) i K' a w) : wpOpIn Fence.wide n P (ops.push last) Q i K a w := by
  have ho : ops[i]? = some ops[i] := Array.getElem?_eq_getElem hi
  have hg := (tail_op hok ho).1
  unfold wpOpIn at h ⊢
  rw [ho] at h
  rw [Array.getElem?_push_lt hi]
  simp only [Region.wanted, hg, if_true] at h ⊢
  exact wide_turn (Q' := UptoIn n P (ops.push last) ops.size Q) hK (fun _ _ _ h => h) (fun _ _ h => h) h
theorem wpAnyIn_push (hok : tailOk md ops last = true) : ∀ (fuel : Nat) (listed : Array Bool) (a : Act) (w : World), listed.size = ops.size → Closed md ops listed → wpAnyIn Fence.wide n P md ops (UptoIn n P (ops.push last) ops.size Q) fuel listed a w → wpAnyIn Fence.wide n P md (ops.push last) Q (fuel + 1) (listed.push false) a w := by
  have hall : ∀ i o, (ops.push last)[i]? = some o → ∀ e ∈ o.after, Region.binds md e = true → e.on < i := by
    intro i o ho e he hb
    have hi : i < ops.size + 1 := by have := (Array.getElem?_eq_some_iff.1 ho).1; rw [Array.size_push] at this; exact this
    rcases Nat.lt_or_ge i ops.size with hlt | hge
    · rw [Array.getElem?_push_lt hlt] at ho
      exact (tail_op hok (by rw [Array.getElem?_eq_getElem hlt]; exact ho)).2 e he hb
    · have : i = ops.size := by omega
      subst this
      rw [Array.getElem?_push_size] at ho
      cases ho
      exact (tail_end hok).2.1 e he hb
  have hsome : ∀ (listed : Array Bool), listed.size = ops.size → ¬ Region.ready md (ops.push last) (listed.push false) = [] := by
    intro listed hs hr
    have := all_listed hall (by simp [hs]) hr ops.size (by simp)
    rw [push_at hs] at this
    cases this
  have hin : ∀ (listed : Array Bool), listed.size = ops.size → Closed md ops listed → ∀ i ∈ Region.ready md (ops.push last) (listed.push false), (i = ops.size ∧ ∀ k, k < ops.size → listed.getD k true = true) ∨ (i < ops.size ∧ i ∈ Region.ready md ops listed) := by
    intro listed hs hc i hi
    obtain ⟨h0, o, ho, he⟩ := mem_ready.1 hi
    have hi' : i < ops.size + 1 := by have := (Array.getElem?_eq_some_iff.1 ho).1; rw [Array.size_push] at this; exact this
    rcases Nat.lt_or_ge i ops.size with hlt | hge
    · refine .inr ⟨hlt, mem_ready.2 ⟨by rw [push_lt true (by omega)] at h0; exact h0, o, by rw [Array.getElem?_push_lt hlt] at ho; rw [Array.getElem?_eq_getElem hlt]; exact ho, fun e hem hb => ?_⟩⟩
      have h1 := hall i o ho e hem hb
      have h2 := he e hem hb
      rw [push_lt false (by omega)] at h2
      exact h2
    · have hn : i = ops.size := by omega
      subst hn
      rw [Array.getElem?_push_size] at ho
      cases ho
      refine .inl ⟨rfl, fun k hk => ?_⟩
      have := waits_listed hc ops.size _ (fun j hj => by
        obtain ⟨e, hem, rfl⟩ := List.mem_map.1 hj
        rw [List.mem_filter] at hem
        have h2 := he e (Array.mem_toList_iff.1 hem.1) hem.2
        have h3 := (tail_end hok).2.1 e (Array.mem_toList_iff.1 hem.1) hem.2
        rw [push_lt false (by omega)] at h2
        exact h2) k ((tail_end hok).2.2 k hk)
      rw [Array.getD_eq_getD_getElem?, Array.getElem?_eq_getElem (by omega : k < listed.size)] at this ⊢
      exact this
  have hend : ∀ (fuel : Nat) (listed : Array Bool), listed.size = ops.size → (∀ k, k < ops.size → listed.getD k true = true) → ∀ a w, Q .normal a w → wpAnyIn Fence.wide n P md (ops.push last) Q fuel ((listed.push false).setIfInBounds ops.size true) a w := by
    intro fuel listed hs hl a w hq
    have hr : Region.ready md (ops.push last) ((listed.push false).setIfInBounds ops.size true) = [] := full_ready fun i hi => by
      rw [Array.size_push] at hi
      by_cases he : ops.size = i
      · subst he
        rw [Array.getD_eq_getD_getElem?, Array.getElem?_setIfInBounds_self_of_lt (by simp [hs])]; rfl
      · rw [getD_set_ne true he, push_lt true (by omega)]
        exact hl i (by omega)
    cases fuel with
    | zero => exact ⟨hr, hq⟩
    | succ k => exact ⟨fun _ => hq, by rw [hr]; simp⟩
  intro fuel
  induction fuel with
  | zero =>
    intro listed a w hs hc h
    refine ⟨fun hr => absurd hr (hsome listed hs), fun i hi => ?_⟩
    rcases hin listed hs hc i hi with ⟨rfl, hl⟩ | ⟨hlt, hi'⟩
    · exact wpOpIn_mono (fun a w hq => hend 0 listed hs hl a w hq) h.2
    · rw [h.1] at hi'; cases hi'
  | succ fuel ih =>
    intro listed a w hs hc h
    refine ⟨fun hr => absurd hr (hsome listed hs), fun i hi => ?_⟩
    rcases hin listed hs hc i hi with ⟨rfl, hl⟩ | ⟨hlt, hi'⟩
    · exact wpOpIn_mono (fun a w hq => hend (fuel + 1) listed hs hl a w hq) (h.1 (full_ready hl))
    · refine wpOpIn_push hok hlt (fun a w h' => ?_) (h.2 i hi')
      have := ih (listed.setIfInBounds i true) a w (by simp [hs]) (closed_set hc hi') h'
      rw [show (listed.push false).setIfInBounds i true = (listed.setIfInBounds i true).push false from by
        apply Array.ext'
        rw [Array.toList_setIfInBounds, Array.toList_push, Array.toList_push, Array.toList_setIfInBounds, List.set_append_left _ _ (by simp; omega)]]
      exact this
theorem closed_none (ops : Array Oper) : Closed md ops (Array.replicate ops.size false) := by
  intro i o ho hl
  have hi : i < ops.size := (Array.getElem?_eq_some_iff.1 ho).1
  rw [Array.getD_eq_getD_getElem?, Array.getElem?_eq_getElem (by simpa using hi)] at hl
  simp at hl
/-- A drawn region of a function that yields: its plain operations with a condition held, then one (the yielding call), then the last. -/
theorem region_yield {id : Nat} {all : Array Oper} {a : Act} {w : World} (S : World → Prop) (ops : Array Oper) (y z : Oper) (he : all = (ops.push y).push z) (hm : P.follows .mixedOrders = true) (hy : tailOk .any ops y = true) (hz : tailOk .any (ops.push y) z = true) (hS : S w.drew)
    (h : S w.drew → wpAnyH P .any ops (UptoIn n P (ops.push y) ops.size (UptoIn n P ((ops.push y).push z) (ops.push y).size Q)) S ops.size (Array.replicate ops.size false) a w.drew) : (Code.region id all true).wpIn Fence.wide n P Q a w := by
  subst he
  refine wpIn_region_any hm ?_
  have h1 := wide_any (n := n) (fun _ _ h => h) _ _ _ _ (wpAny_of_held _ _ _ _ (h hS))
  have h2 := wpAnyIn_push hy ops.size (Array.replicate ops.size false) a w.drew (by simp) (closed_none ops) h1
  rw [← Array.replicate_succ] at h2
  have h3 := wpAnyIn_push hz (ops.size + 1) (Array.replicate (ops.size + 1) false) a w.drew (by simp) (by have := closed_none (md := .any) (ops.push y); rw [Array.size_push] at this; exact this) h2
  rw [Array.size_push, Array.size_push, Array.replicate_succ (n := ops.size + 1)]
  exact h3
end
open Go.RowKit
theorem own_less {W : World} {base n m size g cap : Nat} {e : TypeId} {xs ys : List Value} (hx : xs.length = n * size) (h : W.ownsRow base e size (.slice (some ⟨g, 0, none⟩) (n + m) cap) (n + m) (xs ++ ys)) : W.ownsRow base e size (.slice (some ⟨g, 0, none⟩) n cap) n xs := by
  obtain ⟨hl, ⟨he, h0⟩ | ⟨g', cap', cur, he, hB, hb, hn, hm, hs, ht⟩⟩ := h
  · simp at he
  · simp only [Value.slice.injEq, Option.some.injEq, Addr.mk.injEq] at he
    obtain ⟨⟨rfl, -, -⟩, -, rfl⟩ := he
    refine ⟨hx, .inr ⟨g, cap, cur, rfl, hB, hb, by omega, hm, hs, ?_⟩⟩
    have := congrArg (List.take (n * size)) ht
    rw [List.take_take, Nat.min_eq_left (Nat.mul_le_mul_right _ (by omega)), List.take_left' hx] at this
    exact this
/-- A step appended to a path's row: the new row, and the elder one behind it: in the same block, or in its own as before. -/
theorem append_path (ty : TypeId) (W : World) (B : Nat) (v : Value) (k : Nat) (xs : List Value) (hown : W.ownsRow B 42 2 v k xs) (a : Addr) (news : List Value) (hl : news.length = 2) (hA : ∀ j u, news[j]? = some u → W.cell? (a.add j) = some u) (h1 : ∀ u ∈ news, u.oneCell' = true) (hk : k + 1 ≤ 100000) (hB : B ≤ W.heap.size) :
    ∃ v' W', (Builtin.append_ #[37, 37] ty #[v, .slice (some a) 1 1]).run Tryd.prog W = .ok v' W' ∧ W'.ownsRow B 42 2 v' (k + 1) (xs ++ news) ∧ W.grownBy W' v.ownBlock ∧
      ((v'.ownBlock = v.ownBlock ∧ ∀ X : World, X.ownsRow B 42 2 v' (k + 1) (xs ++ news) → X.ownsRow B 42 2 v k xs) ∨ (v'.ownBlock = some W.heap.size ∧ W'.ownsRow B 42 2 v k xs)) := by
  obtain ⟨i0, hi, hz0, hz1, hz2⟩ := info_parts (P := Tryd.prog) (e := 42) (z := (.agg #[.int .i64 0, .string ⟨#[]⟩])) (size := 2) (bytes := 24) (by kernel_rfl)
  have ht := Tryd.underlying37
  have hl' : news.length = 1 * 2 := hl
  obtain ⟨v', w', hr, h2, h3, h4⟩ := run_append_own (P := Tryd.prog) W B 37 ty 42 i0 (.agg #[.int .i64 0, .string ⟨#[]⟩]) 2 24 ht hi hz0 hz1 hz2 rfl (by omega) v k xs hown a 1 1 news hl' hA h1 (by unfold maxLen; omega) (by omega) hB
  refine ⟨v', w', hr, h2, h3, ?_⟩
  obtain ⟨hlx, ⟨rfl, rfl⟩ | ⟨g, cap, cur, rfl, hbg, hg, hnc, hcm, hcs, htake⟩⟩ := hown
  · have hx := run_append_nil (P := Tryd.prog) W 37 ty 42 i0 _ ht hi hz0 a 1 1 news (by rw [hz1]; exact hl') hA (by omega) (by omega) (by rw [hz2]; omega)
    rw [hx] at hr
    cases hr
    refine .inr ⟨rfl, ?_⟩
    have : xs = [] := List.length_eq_zero_iff.1 (by omega)
    subst this
    exact World.ownsRow_nil _ _ _ _
  · by_cases hroom : k + 1 ≤ cap
    · have hfit : k * i0.size + news.length ≤ cur.size := by rw [hl, hcs, hz1]; omega
      have hx := run_append_room (P := Tryd.prog) W 37 ty 42 i0 ht hi g k cap cur hg a 1 1 news (by rw [hz1]; exact hl') hA h1 hroom hfit
      rw [hx] at hr
      cases hr
      exact .inl ⟨rfl, fun X hX => own_less hlx hX⟩
    · have holds : ∀ j u, xs[j]? = some u → W.cell? ((⟨g, 0, none⟩ : Addr).add j) = some u := World.ownsRow.cells (v := .slice (some ⟨g, 0, none⟩) k cap) ⟨hlx, .inr ⟨g, cap, cur, rfl, hbg, hg, hnc, hcm, hcs, htake⟩⟩ (g := g) rfl
      have hx := run_append_grow (P := Tryd.prog) W 37 ty 42 i0 _ ht hi hz0 ⟨g, 0, none⟩ k cap xs (by rw [hz1]; exact hlx) holds a 1 1 news (by rw [hz1]; exact hl') hA (by omega) (by omega) (growslice_fits (by omega) (by rw [hz2]; omega))
      rw [hx] at hr
      cases hr
      refine .inr ⟨rfl, hlx, .inr ⟨g, cap, cur, rfl, hbg, ?_, hnc, hcm, hcs, htake⟩⟩
      have hlt := (Array.getElem?_eq_some_iff.1 hg).1
      exact (Below.heap_alloc W.drew _ g hlt).trans hg
open Go.RowKit
/-- Every block but those of X is as it was. -/
structure But (X : Nat → Prop) (W W' : World) : Prop where
  os : W'.os = W.os
  tape : W'.tape = W.tape
  output : W'.output = W.output
  size : W.heap.size ≤ W'.heap.size
  block : ∀ b, b < W.heap.size → ¬ X b → W'.heap[b]? = W.heap[b]?
section
variable {X Y : Nat → Prop} {W W1 W2 : World} {n : Nat}
theorem But.refl (X : Nat → Prop) (W : World) : But X W W := ⟨rfl, rfl, rfl, Nat.le_refl _, fun _ _ _ => rfl⟩
theorem But.trans (h : But X W W1) (h' : But Y W1 W2) : But (fun b => X b ∨ Y b) W W2 :=
  ⟨h'.os.trans h.os, h'.tape.trans h.tape, h'.output.trans h.output, Nat.le_trans h.size h'.size, fun b hb hx => (h'.block b (Nat.lt_of_lt_of_le hb h.size) fun e => hx (.inr e)).trans (h.block b hb fun e => hx (.inl e))⟩
theorem But.wider (h : But X W W1) (hX : ∀ b, b < W.heap.size → X b → Y b) : But Y W W1 := ⟨h.os, h.tape, h.output, h.size, fun b hb hy => h.block b hb fun e => hy (hX b hb e)⟩
theorem But.below (h : Below W.heap.size W W1) : But X W W1 := ⟨h.os, h.tape, h.output, h.size, fun b hb _ => h.block b hb⟩
theorem But.grown {r : Option Nat} (h : W.grownBy W1 r) : But (fun b => some b = r) W W1 := ⟨h.os, h.tape, h.output, h.size, fun b hb hx => h.block b hb hx⟩
end
/-- A collector of leaves: its state lies on where its blocks lie on. -/
structure Collects (J : (Nat → Prop) → List Lf → World → Prop) : Prop where
  lt : ∀ U pre W, J U pre W → ∀ b, U b → b < W.heap.size
  on : ∀ U pre W W' X, J U pre W → But X W W' → (∀ b, U b → ¬ X b) → J U pre W'
/-- What a round owes: the leaf is taken, blocks that are not the collector's are kept; or it says 'no more'. -/
def Takes (P : Program) (l N : Nat) (J : (Nat → Prop) → List Lf → World → Prop) (Jx : List Lf → World → Prop) : Prop :=
  ∀ (m : Nat) (U D : Nat → Prop) (pre : List Lf) (x : Lf) (cs : List Value) (W : World), J U pre W → pre.length < N → LeafIn D W x cs → (∀ b, D b → b < W.heap.size ∧ ¬ U b) →
    YieldAt Fence.wide m P l #[.agg cs.toArray] W fun e W' => (e = .returned (.bool true) ∧ ∃ U', J U' (pre ++ [x]) W' ∧ (∀ b, U' b → U b ∨ D b ∨ W.heap.size ≤ b) ∧ But U W W') ∨ (e = .returned (.bool false) ∧ Jx (pre ++ [x]) W')
/-- What a visit leaves. -/
def Visited (J : (Nat → Prop) → List Lf → World → Prop) (Jx : List Lf → World → Prop) (B : Nat) (U : Nat → Prop) (pre m : List Lf) (pv : Value) (k : Nat) (xs : List Value) (W : World) (e : Ending) (W' : World) : Prop :=
  (e = .returned (.bool true) ∧ ∃ U', J U' (pre ++ m) W' ∧ (∀ b, U' b → U b ∨ W.heap.size ≤ b) ∧ But (fun b => U b ∨ some b = pv.ownBlock) W W' ∧ W'.ownsRow B 42 2 pv k xs) ∨
  (e = .returned (.bool false) ∧ ∃ q, q <+: m ∧ Jx (pre ++ q) W')
theorem own_path {W : World} {B c n : Nat} {A : Option Addr} {p : List Stp} {D : Nat → Prop} (hps : ∀ s ∈ p, s.2.size ≤ maxLen) (h : W.ownsRow B 42 2 (.slice A n c) p.length (stepCells p)) (hD : ∀ b, (Value.slice A n c).ownBlock = some b → D b) : PIn D W A c p := by
  have h5 := h
  obtain ⟨hl, ⟨he, h0⟩ | ⟨g, cap', cur, he, hbg, hg, hnc, hcm, hcs, ht⟩⟩ := h5
  · simp only [Value.slice.injEq] at he
    obtain ⟨rfl, -, rfl⟩ := he
    exact ⟨by omega, Nat.zero_le _, .inl (List.length_eq_zero_iff.1 h0)⟩
  · simp only [Value.slice.injEq] at he
    obtain ⟨rfl, rfl, rfl⟩ := he
    refine ⟨hnc, hcm, .inr ⟨g, 0, rfl, hD g rfl, stepCells_lie _ 0 hps fun j u hu => ?_⟩⟩
    have := World.ownsRow.cells h (g := g) rfl j u hu
    rw [Addr.add_lit] at this
    exact this
/-- What is asked behind the plain part, where it is carried out. -/
theorem uptoIn_step {P : Program} {ops : Array Oper} {Q : Exit → Act → World → Prop} {n k : Nat} {o : Oper} {a : Act} {w : World} (ho : ops[k]? = some o) (hg : o.guard = none) (h : ∀ K' : Act → World → Prop, (∀ a w, Q .normal a w → K' a w) → o.wpIn Fence.wide n P a w K' Q) : UptoIn n P ops k Q .normal a w := by
  show wpOpIn Fence.wide n P ops Q k (fun a w => Q .normal a w) a w
  unfold wpOpIn
  rw [ho]
  simp only [Region.wanted, hg, if_true]
  exact h _ fun _ _ h => h
set_option maxRecDepth 100000 in
set_option maxHeartbeats 2000000 in
theorem visit_leaf (l N : Nat) (J : (Nat → Prop) → List Lf → World → Prop) (Jx : List Lf → World → Prop) (hJ : Collects J) (hY : Takes Tryd.prog l N J Jx) (n : Nat)
    (x : V) (p : List Stp) (B : Nat) (U Pv : Nat → Prop) (pre : List Lf) (W : World) (A K : Option Addr) (c d : Nat) (pv : Value)
    (hju : J U pre W) (hPv : ∀ b, Pv b → b < W.heap.size ∧ ¬ U b) (hx : LiesIn Pv W x A c K d) (hok : x.ok = true) (hn : x.nodes ≤ 5000) (h0 : x.items = []) (hrow : W.ownsRow B 42 2 pv p.length (stepCells p)) (hps : ∀ s ∈ p, s.2.size ≤ maxLen) (hpl : p.length ≤ 1000) (hB : B ≤ W.heap.size) (hpu : ∀ b, pv.ownBlock = some b → ¬ U b) (hlen : pre.length < N) :
    CallsIn Fence.wide n Tryd.prog 31 #[.agg #[.int .i64 x.kind, .int .i64 x.int, .string x.text, .slice A x.items.length c, .slice K x.keys.length d], pv, .func (.yield l) #[] #[]] W (Visited J Jx B U pre (leavesV p x) pv p.length (stepCells p) W) := by
  rw [leavesV_none h0]
  obtain ⟨PA, pc, rfl⟩ := own_form hrow
  obtain ⟨k0, hk0⟩ : ∃ k0, k0 = x.items.length := ⟨_, rfl⟩
  have hkz : k0 = 0 := by rw [hk0, h0]; rfl
  have hn0 : ((k0 : Int) == 0) = true := by simp [hkz]
  have HK0 := Lib.hid hk0
  rw [← hk0]
  clear hkz hk0 h0
  refine callsIn_of_wp Tryd.func31 rfl trivial ?_
  simp only [Tryd.ntmps31, List.size_toArray, List.length_cons, List.length_nil, Nat.reduceAdd, Nat.reduceSub, Array.replicate_succ, Array.replicate_zero, List.push_toArray, List.append_toArray, List.nil_append, List.cons_append]
  gi_upto_region 2 with (fail)
  obtain ⟨W1, hW1⟩ : ∃ W1, W1 = W.alloc (.cells #[.int .i64 x.kind, .int .i64 x.int, .string x.text, .slice A k0 c, .slice K x.keys.length d] 25) := ⟨_, rfl⟩
  have hb1 : Below W.heap.size W W1 := by rw [hW1]; exact below_al (Below.refl _ W) _
  have hbx : BlockIs W1 W.heap.size 25 #[.int .i64 x.kind, .int .i64 x.int, .string x.text, .slice A k0 c, .slice K x.keys.length d] := by rw [hW1]; exact BlockIs.new W _ _
  have hx1 : LiesIn Pv W1 x A c K d := LiesIn.keep (fun b o hb => bcell hb1 b o (hPv b hb).1) (fun _ h => h) x hx
  have hrow1 : W1.ownsRow B 42 2 (.slice PA p.length pc) p.length (stepCells p) := by rw [hW1]; exact World.ownsRow.alloc hrow _
  rw [← hW1]
  have hs1 : W.heap.size < W1.heap.size := hbx.lt
  have hsrc : p.length = 0 ∨ ∃ a, PA = some a ∧ ∀ j u, (stepCells p)[j]? = some u → W1.drew.cell? (a.add j) = some u := by
    obtain ⟨hl, ⟨he, h0'⟩ | ⟨g, cap, cur, he, -⟩⟩ := id hrow1
    · exact .inl h0'
    · simp only [Value.slice.injEq] at he
      obtain ⟨rfl, -, rfl⟩ := he
      exact .inr ⟨_, rfl, fun j u hu => World.ownsRow.cells hrow1 (g := g) rfl j u hu⟩
  obtain ⟨v2, W2, hr2, ho2, hg2⟩ := appendT 37 W1.drew W1.heap.size (.slice none 0 0) 0 [] (World.ownsRow_nil _ _ _ _) PA p.length pc (stepCells p) (stepCells_length p) hsrc (stepCells_one p) (by omega) (Nat.le_refl _)
  obtain ⟨PB, pb, rfl⟩ := own_form ho2
  simp only [Nat.zero_add, List.nil_append] at ho2 hr2
  have hb2 : Below W1.heap.size W1 W2 := (Below.drew (Below.refl _ W1)).trans (none_below hg2 (Nat.le_refl _) (fun b hb => by simp [Value.ownBlock] at hb))
  have HCP := Lib.hid (show Calls Tryd.prog 22 #[.agg #[.int .i64 x.kind, .int .i64 x.int, .string x.text, .slice A k0 c, .slice K x.keys.length d]] W2 fun e w' => ∃ Az cz Kz dz, e = .returned (.agg #[.int .i64 x.kind, .int .i64 x.int, .string x.text, .slice Az k0 cz, .slice Kz x.keys.length dz]) ∧ LiesIn (Fresh W2 w') w' x Az cz Kz dz ∧ Below W2.heap.size W2 w' from by
    rw [HK0.out]
    exact (copied_tree x.nodes x W2 A K c d (Nat.le_refl _) hn hok (LiesIn.lies (fun b hb => by have := (hPv b hb).1; have := hb2.size; omega) x (LiesIn.keep (fun b o hb => bcell hb2 b o (by have := (hPv b hb).1; omega)) (fun _ h => h) x hx1))).mono fun e w' ⟨xI, xK, he, ht, hb⟩ => by
      obtain ⟨Az, cz, Kz, dz, rfl, rfl, hl⟩ := Tree.inn x ht (fun _ h => h)
      exact ⟨Az, cz, Kz, dz, he, hl, hb⟩)
  refine region_yield (fun X => (X.cell? ⟨W.heap.size, 0, none⟩ = some (.int .i64 x.kind) ∧ X.cell? ⟨W.heap.size, 1, none⟩ = some (.int .i64 x.int) ∧ X.cell? ⟨W.heap.size, 2, none⟩ = some (.string x.text) ∧ X.cell? ⟨W.heap.size, 3, none⟩ = some (.slice A k0 c) ∧ X.cell? ⟨W.heap.size, 4, none⟩ = some (.slice K x.keys.length d))) #[{ dst := some 13, op := Go.Op.move (Go.Operand.tmp 2), type := 67, pos := "leaves.go:68", after := #[], guard := none }, { dst := some 14, op := Go.Op.move (Go.Operand.tmp 1), type := 37, pos := "leaves.go:68", after := #[], guard := none }, { dst := some 15, op := Go.Op.call { callee := Go.Callee.builtin Go.Builtin.append, args := #[Go.Operand.const (Go.Value.slice none 0 0), Go.Operand.tmp 14], argTypes := #[37, 37] }, type := 37, pos := "leaves.go:68", after := #[{ on := 1, ground := Go.Ground.data }], guard := none }, { dst := some 16, op := Go.Op.load 25 (Go.Operand.tmp 3), type := 25, pos := "leaves.go:68", after := #[], guard := none }, { dst := some 17, op := Go.Op.call { callee := Go.Callee.value (Go.Operand.func 22), args := #[Go.Operand.tmp 16], argTypes := #[25] }, type := 25, pos := "leaves.go:68", after := #[{ on := 3, ground := Go.Ground.data }, { on := 2, ground := Go.Ground.chain }], guard := none }, { dst := some 18, op := Go.Op.build 39 #[(0, Go.Operand.tmp 15), (1, Go.Operand.tmp 17)], type := 39, pos := "leaves.go:68", after := #[{ on := 2, ground := Go.Ground.data }, { on := 4, ground := Go.Ground.data }], guard := none }] ({ dst := some 19, op := Go.Op.call { callee := Go.Callee.value (Go.Operand.tmp 13), args := #[Go.Operand.tmp 18], argTypes := #[39] }, type := 4, pos := "leaves.go:68", after := #[{ on := 0, ground := Go.Ground.data }, { on := 5, ground := Go.Ground.data }, { on := 4, ground := Go.Ground.chain }], guard := none }) ({ dst := some 6, op := Go.Op.assign (Go.Operand.tmp 19), type := 4, pos := "leaves.go:68", after := #[{ on := 6, ground := Go.Ground.data }, { on := 6, ground := Go.Ground.chain }, { on := 0, ground := Go.Ground.phase }, { on := 1, ground := Go.Ground.phase }, { on := 2, ground := Go.Ground.phase }, { on := 3, ground := Go.Ground.phase }, { on := 4, ground := Go.Ground.phase }, { on := 5, ground := Go.Ground.phase }, { on := 6, ground := Go.Ground.phase }], guard := none }) rfl (by kernel_rfl) (by kernel_rfl) (by kernel_rfl) (five_of (show BlockIs W1.drew _ _ _ from hbx)) (fun hH0 => ?_)
  refine wpAnyH_take (i := 0) (oi := { dst := some 13, op := Go.Op.move (Go.Operand.tmp 2), type := 67, pos := "leaves.go:68", after := #[], guard := none }) (v := ?_) rfl (by kernel_rfl) (by kernel_rfl) (by kernel_rfl) (fun _ _ _ h => h) (Or.inl ⟨by rfl, ?_⟩) (by assumption) ?_
  rotate_left
  · (intro w hSw; (try dsimp only at hSw); go_simp; try with_reducible rfl)
  (try simp only [Act.put, List.setIfInBounds_toArray, List.set_cons_zero, List.set_cons_succ])
  refine wpAnyH_take (i := 1) (oi := { dst := some 14, op := Go.Op.move (Go.Operand.tmp 1), type := 37, pos := "leaves.go:68", after := #[], guard := none }) (v := ?_) rfl (by kernel_rfl) (by kernel_rfl) (by kernel_rfl) (fun _ _ _ h => h) (Or.inl ⟨by rfl, ?_⟩) (by assumption) ?_
  rotate_left
  · (intro w hSw; (try dsimp only at hSw); go_simp; try with_reducible rfl)
  (try simp only [Act.put, List.setIfInBounds_toArray, List.set_cons_zero, List.set_cons_succ])
  refine wpAnyH_take (i := 3) (oi := { dst := some 16, op := Go.Op.load 25 (Go.Operand.tmp 3), type := 25, pos := "leaves.go:68", after := #[], guard := none }) (v := ?_) rfl (by kernel_rfl) (by kernel_rfl) (by kernel_rfl) (fun _ _ _ h => h) (Or.inl ⟨by rfl, ?_⟩) (by assumption) ?_
  rotate_left
  · (intro w hSw; (try dsimp only at hSw); go_simp; try with_reducible rfl)
  (try simp only [Act.put, List.setIfInBounds_toArray, List.set_cons_zero, List.set_cons_succ])
  refine wpAnyH_ready (rs := [2]) (by kernel_rfl) (by simp) ?_
  refine AllReadyH.cons (o := { dst := some 15, op := Go.Op.call { callee := Go.Callee.builtin Go.Builtin.append, args := #[Go.Operand.const (Go.Value.slice none 0 0), Go.Operand.tmp 14], argTypes := #[37, 37] }, type := 37, pos := "leaves.go:68", after := #[{ on := 1, ground := Go.Ground.data }], guard := none }) rfl (fun KK hK => ?_) (AllReadyH.nil)
  · refine step_append_run (by rfl) _ _ _ _ (by rfl) _ _ (by rfl) (by rfl) _ _ hr2 ?_
    refine hK.out _ _ (five_of (hbx.below hb2 hbx.lt)) (fun hH1 => ?_)
    clear hK KK
    (try simp only [Act.put, List.setIfInBounds_toArray, List.set_cons_zero, List.set_cons_succ])
    refine wpAnyH_ready (rs := [4]) (by kernel_rfl) (by simp) ?_
    refine AllReadyH.cons (o := { dst := some 17, op := Go.Op.call { callee := Go.Callee.value (Go.Operand.func 22), args := #[Go.Operand.tmp 16], argTypes := #[25] }, type := 25, pos := "leaves.go:68", after := #[{ on := 3, ground := Go.Ground.data }, { on := 2, ground := Go.Ground.chain }], guard := none }) rfl (fun KK hK => ?_) (AllReadyH.nil)
    · go_simp
      refine (HCP.out).mono ?_
      rintro e w3 ⟨Az, cz, Kz, dz, rfl, hl3, h3⟩
      skip
      (try go_wp2_with fail)
      refine hK.out _ _ (five_of ((hbx.below hb2 hbx.lt).below h3 (hbx.below hb2 hbx.lt).lt)) (fun hH2 => ?_)
      clear hK KK
      (try simp only [Act.put, List.setIfInBounds_toArray, List.set_cons_zero, List.set_cons_succ])
      refine wpAnyH_take (i := 5) (oi := { dst := some 18, op := Go.Op.build 39 #[(0, Go.Operand.tmp 15), (1, Go.Operand.tmp 17)], type := 39, pos := "leaves.go:68", after := #[{ on := 2, ground := Go.Ground.data }, { on := 4, ground := Go.Ground.data }], guard := none }) (v := ?_) rfl (by kernel_rfl) (by kernel_rfl) (by kernel_rfl) (fun _ _ _ h => h) (Or.inl ⟨by rfl, ?_⟩) (by assumption) ?_
      rotate_left
      · (intro w hSw; (try dsimp only at hSw); go_simp; try with_reducible rfl)
      (try simp only [Act.put, List.setIfInBounds_toArray, List.set_cons_zero, List.set_cons_succ])
      refine wpAnyH_done (by kernel_rfl) ?_ _
      have hb3 : Below W1.heap.size W1 w3 := hb2.trans (h3.mono hb2.size)
      have hbW : Below W.heap.size W w3 := below_on hb1 hb3
      have hju3 : J U pre w3 := hJ.on U pre W w3 (fun _ => False) hju (But.below hbW) (fun _ _ h => h)
      have hleaf : LeafIn (fun b => W1.heap.size ≤ b ∧ b < w3.heap.size) w3 (p, x) [.slice PB p.length pb, .int .i64 x.kind, .int .i64 x.int, .string x.text, .slice Az k0 cz, .slice Kz x.keys.length dz] := ⟨PB, pb, Az, cz, Kz, dz, (by rw [HK0.out]), own_path hps (own_stays ho2 fun b hb => h3.block b (World.ownsRow.lt ho2 b hb).2) (fun b hb => ⟨(World.ownsRow.lt ho2 b hb).1, Nat.lt_of_lt_of_le (World.ownsRow.lt ho2 b hb).2 h3.size⟩), LiesIn.keep (fun _ _ _ => rfl) (fun b hb => ⟨Nat.le_trans hb2.size hb.1, hb.2⟩) x hl3⟩
      obtain ⟨fn, tmps, assign, body, hy, hR⟩ := hY (n - 1) U (fun b => W1.heap.size ≤ b ∧ b < w3.heap.size) pre (p, x) _ w3 hju3 hlen hleaf (fun b hb => ⟨hb.2, fun hu => by have := hJ.lt U pre W hju b hu; have := hb.1; omega⟩)
      have hdd : ∀ k : Nat, (Fence.wide.depth.isSome = true → 1 ≤ k) := fun k h => by cases h
      have hown3 : w3.ownsRow B 42 2 (.slice PA p.length pc) p.length (stepCells p) := own_stays hrow fun b hb => hbW.block b (World.ownsRow.lt hrow b hb).2
      refine uptoIn_step (o := { dst := some 19, op := Go.Op.call { callee := Go.Callee.value (Go.Operand.tmp 13), args := #[Go.Operand.tmp 18], argTypes := #[39] }, type := 4, pos := "leaves.go:68", after := #[{ on := 0, ground := Go.Ground.data }, { on := 5, ground := Go.Ground.data }, { on := 4, ground := Go.Ground.chain }], guard := none }) rfl rfl (fun K' hK => ?_)
      gi_wp2_with ((try refine ⟨hdd _, ?_⟩); refine hR.mono ?_; rintro e W' (⟨rfl, U', hJ', hU', hB'⟩ | ⟨rfl, hJx'⟩))
      · refine uptoIn_step (o := { dst := some 6, op := Go.Op.assign (Go.Operand.tmp 19), type := 4, pos := "leaves.go:68", after := #[{ on := 6, ground := Go.Ground.data }, { on := 6, ground := Go.Ground.chain }, { on := 0, ground := Go.Ground.phase }, { on := 1, ground := Go.Ground.phase }, { on := 2, ground := Go.Ground.phase }, { on := 3, ground := Go.Ground.phase }, { on := 4, ground := Go.Ground.phase }, { on := 5, ground := Go.Ground.phase }, { on := 6, ground := Go.Ground.phase }], guard := none }) rfl rfl (fun K2 hK2 => ?_)
        gi_wp2
        go_ret
        refine .inl ⟨rfl, U', hJ', fun b hb => ?_, ?_, own_stays hown3 fun b hb => hB'.block b (Nat.lt_of_lt_of_le (World.ownsRow.lt hrow b hb).2 hbW.size) (hpu b hb)⟩
        · rcases hU' b hb with h | h | h
          · exact .inl h
          · exact .inr (by have := h.1; omega)
          · exact .inr (by have := hbW.size; omega)
        · exact ((But.below (X := fun _ => False) hbW).trans hB').wider fun b _ h => h.elim False.elim .inl
      · refine uptoIn_step (o := { dst := some 6, op := Go.Op.assign (Go.Operand.tmp 19), type := 4, pos := "leaves.go:68", after := #[{ on := 6, ground := Go.Ground.data }, { on := 6, ground := Go.Ground.chain }, { on := 0, ground := Go.Ground.phase }, { on := 1, ground := Go.Ground.phase }, { on := 2, ground := Go.Ground.phase }, { on := 3, ground := Go.Ground.phase }, { on := 4, ground := Go.Ground.phase }, { on := 5, ground := Go.Ground.phase }, { on := 6, ground := Go.Ground.phase }], guard := none }) rfl rfl (fun K2 hK2 => ?_)
        gi_wp2
        go_ret
        exact .inr ⟨rfl, [(p, x)], List.prefix_rfl, hJx'⟩
end Go.Proofs.YtchadlbhdcpojaaDoor

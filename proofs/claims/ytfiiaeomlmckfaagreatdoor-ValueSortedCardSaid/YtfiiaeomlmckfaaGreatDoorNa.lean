/- Values in their order, each once: plain lists. -/
import Derived.Test.YtfiiaeomlmckfaaGreatDoorPv
namespace Go.Proofs.YtfiiaeomlmckfaaGreatDoor

def leV (x y : V) : Bool := decide (x.cmp y ≤ 0)
theorem leV_iff {x y : V} : leV x y = true ↔ x.cmp y ≤ 0 := by simp [leV]
theorem leV_not {x y : V} : leV x y = false ↔ 0 < x.cmp y := by simp [leV]
theorem leV_trans (x y z : V) (h : leV x y = true) (h' : leV y z = true) : leV x z = true := by
  rw [leV_iff] at *
  exact ((cmp_order x y z).2.2.2 h h').1
theorem leV_total (x y : V) : (leV x y || leV y x) = true := by
  have h := (cmp_order x y x).2.1
  by_cases hx : x.cmp y ≤ 0
  · simp [leV_iff.2 hx]
  · have : leV y x = true := leV_iff.2 (by omega)
    simp [this]
def Ok (l : List V) : Prop := ∀ x ∈ l, x.ok = true
/-- The values in their order. -/
def sortV (l : List V) : List V := l.mergeSort leV
theorem sortV_perm (l : List V) : (sortV l).Perm l := List.mergeSort_perm l leV
theorem sortV_ok {l : List V} (h : Ok l) : Ok (sortV l) := fun x hx => h x ((sortV_perm l).mem_iff.1 hx)
theorem sortV_rises (l : List V) : (sortV l).Pairwise fun x y => leV x y = true := List.pairwise_mergeSort leV_trans leV_total l
theorem sortV_is {l m : List V} (h : Ok l) (hp : m.Perm l) (hs : m.Pairwise fun x y => leV x y = true) : m = sortV l := by
  refine List.Perm.eq_of_pairwise (le := fun x y => leV x y = true) ?_ hs (sortV_rises l) (hp.trans (sortV_perm l).symm)
  intro a b ha _ h1 h2
  have hb := h b (by rename_i hb; exact (sortV_perm l).mem_iff.1 hb)
  have ha' := h a (hp.mem_iff.1 ha)
  rw [leV_iff] at h1 h2
  have := (cmp_order a b a).2.1
  exact (cmp_zero ha' hb).1 (by omega)
theorem sortV_of_perm {l m : List V} (h : Ok l) (hp : m.Perm l) : sortV m = sortV l :=
  sortV_is h ((sortV_perm m).trans hp) (sortV_rises m)

/-- The first of each run of equal values that comes behind p. -/
def runV (p : V) : List V → List V
  | [] => []
  | x :: r => if x.cmp p = 0 then runV x r else x :: runV x r
def onceV : List V → List V
  | [] => []
  | x :: r => x :: runV x r
theorem runV_mem {p y : V} {l : List V} (h : y ∈ runV p l) : y ∈ l := by
  induction l generalizing p with
  | nil => exact h
  | cons x r ih =>
    rw [runV] at h
    split at h
    · exact List.mem_cons_of_mem _ (ih h)
    · rcases List.mem_cons.1 h with rfl | h
      · exact List.mem_cons_self
      · exact List.mem_cons_of_mem _ (ih h)
theorem onceV_mem {y : V} {l : List V} (h : y ∈ onceV l) : y ∈ l := by
  cases l with
  | nil => exact h
  | cons x r =>
    rcases List.mem_cons.1 h with rfl | h
    · exact List.mem_cons_self
    · exact List.mem_cons_of_mem _ (runV_mem h)
theorem runV_len (p : V) (l : List V) : (runV p l).length ≤ l.length := by
  induction l generalizing p with
  | nil => simp [runV]
  | cons x r ih =>
    rw [runV]
    split
    · have := ih x; simp; omega
    · have := ih x; simp; omega
theorem onceV_len (l : List V) : (onceV l).length ≤ l.length := by
  cases l with
  | nil => simp [onceV]
  | cons x r => have := runV_len x r; simp [onceV]; omega
/-- What was kept of the first k values. -/
theorem runV_snoc (p : V) (l : List V) (y : V) : runV p (l ++ [y]) = runV p l ++ (if y.cmp (l.getLastD p) = 0 then [] else [y]) := by
  induction l generalizing p with
  | nil => simp [runV]
  | cons x r ih =>
    rw [List.cons_append, runV, runV, ih x]
    have e : (x :: r).getLastD p = r.getLastD x := by cases r <;> rfl
    rw [e]
    split <;> simp
theorem onceV_take {l : List V} {k : Nat} {x y : V} (hx : l[k]? = some x) (hy : l[k + 1]? = some y) : onceV (l.take (k + 2)) = onceV (l.take (k + 1)) ++ (if y.cmp x = 0 then [] else [y]) := by
  have e1 : l.take (k + 2) = l.take (k + 1) ++ [y] := by rw [List.take_add_one, hy]; rfl
  have e0 : l.take (k + 1) = l.take k ++ [x] := by rw [List.take_add_one, hx]; rfl
  cases l with
  | nil => simp at hx
  | cons z r =>
    cases k with
    | zero =>
      simp at hx; subst hx
      cases r with
      | nil => simp at hy
      | cons u t => simp at hy; subst hy; simp [onceV, runV]
    | succ k =>
      simp only [List.take_succ_cons, List.cons_append, List.cons.injEq, true_and, onceV] at e1 e0 ⊢
      rw [e1, runV_snoc, e0]
      simp
theorem onceV_one {l : List V} {x : V} (hx : l[0]? = some x) : onceV (l.take 1) = [x] := by
  cases l with
  | nil => simp at hx
  | cons z r => simp at hx; subst hx; rfl
/-- Once each of values that rise: they rise strictly. -/
theorem runV_rises {p : V} {l : List V} (h : (p :: l).Pairwise fun x y => leV x y = true) : (p :: runV p l).Pairwise fun x y => x.cmp y < 0 := by
  induction l generalizing p with
  | nil => simp [runV]
  | cons x r ih =>
    have hp := List.pairwise_cons.1 h
    have hx := List.pairwise_cons.1 hp.2
    have hr := List.pairwise_cons.1 (ih hp.2)
    have hpx := leV_iff.1 (hp.1 x List.mem_cons_self)
    have hxp := (cmp_order p x p).2.1
    rw [runV]
    by_cases h0 : x.cmp p = 0
    · rw [if_pos h0, List.pairwise_cons]
      refine ⟨fun y hy => ?_, hr.2⟩
      exact ((cmp_order p x y).2.2.2 hpx (by have := hr.1 y hy; omega)).2 (.inr (hr.1 y hy))
    · rw [if_neg h0, List.pairwise_cons]
      have hlt : p.cmp x < 0 := by omega
      refine ⟨fun y hy => ?_, ih hp.2⟩
      rcases List.mem_cons.1 hy with rfl | hy
      · exact hlt
      · exact ((cmp_order p x y).2.2.2 hpx (by have := hr.1 y hy; omega)).2 (.inl hlt)
theorem onceV_rises {l : List V} (h : l.Pairwise fun x y => leV x y = true) : (onceV l).Pairwise fun x y => x.cmp y < 0 := by
  cases l with
  | nil => simp [onceV]
  | cons x r => exact runV_rises h

/-- Two lists merged, taken step by step. -/
theorem merge_nil_right (l : List V) : List.merge l [] leV = l := by cases l <;> simp
theorem merge_nil_left (l : List V) : List.merge [] l leV = l := by simp
theorem merge_cons (x y : V) (l m : List V) : List.merge (x :: l) (y :: m) leV = if leV x y = true then x :: List.merge l (y :: m) leV else y :: List.merge (x :: l) m leV := by
  rw [List.merge]
theorem merged {l a b : List V} (k : Nat) (ha : a = sortV (l.take k)) (hb : b = sortV (l.drop k)) (hok : Ok l) : List.merge a b leV = sortV l := by
  refine sortV_is hok ?_ ?_
  · refine List.Perm.trans (List.merge_perm_append leV) ?_
    rw [ha, hb]
    exact ((sortV_perm _).append (sortV_perm _)).trans (by rw [List.take_append_drop])
  · rw [ha, hb]
    exact List.pairwise_merge leV_trans leV_total _ _ (sortV_rises _) (sortV_rises _)
theorem sortV_short {l : List V} (h : l.length < 2) : sortV l = l := by
  unfold sortV
  match l, h with
  | [], _ => simp
  | [x], _ => simp
theorem Ok.take {l : List V} (h : Ok l) (k : Nat) : Ok (l.take k) := fun x hx => h x (List.mem_of_mem_take hx)
theorem Ok.drop {l : List V} (h : Ok l) (k : Nat) : Ok (l.drop k) := fun x hx => h x (List.mem_of_mem_drop hx)
end Go.Proofs.YtfiiaeomlmckfaaGreatDoor

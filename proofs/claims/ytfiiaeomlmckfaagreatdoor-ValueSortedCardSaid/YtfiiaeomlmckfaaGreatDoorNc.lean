/- The program's sort of values: what the library's sort leaves of a row. -/
import Derived.Test.YtfiiaeomlmckfaaGreatDoorNa
import Derived.Test.YtfiiaeomlmckfaaGreatDoorNb
import Derived.Test.YtfiiaeomlmckfaaGreatDoorRk
import Derived.Test.YtfiiaeomlmckfaaGreatDoorSort
namespace Go.Proofs.YtfiiaeomlmckfaaGreatDoor
open Go.RowKit

/-- A value with what hangs on it, at rest while block g is written. -/
structure At (w : World) (g : Nat) where
  x : V
  A : Option Addr
  c : Nat
  K : Option Addr
  d : Nat
  lies : LiesIn (fun b => g < b ∧ b < w.heap.size) w x A c K d
  ok : x.ok = true
theorem leaf_ok0 : (leaf 0 0 ⟨#[]⟩).ok = true := by decide
theorem leafAt_in (P : Nat → Prop) (w : World) (k i : Int) {t : ByteArray} (ht : t.size ≤ maxLen) : LiesIn P w (leaf k i t) none 0 none 0 := by
  rw [leaf, LiesIn]
  exact ⟨ht, Nat.le_refl _, Nat.zero_le _, ⟨Nat.le_refl _, Nat.zero_le _, .inl rfl⟩, .inl rfl⟩
instance (w : World) (g : Nat) : Inhabited (At w g) := ⟨⟨leaf 0 0 ⟨#[]⟩, none, 0, none, 0, leafAt_in _ _ _ _ (by decide), leaf_ok0⟩⟩
variable {w : World} {g : Nat}
def At.enc (p : At w g) : List Value := fieldsL p.x p.A p.c p.K p.d
theorem At.len (p : At w g) : p.enc.length = 5 := rfl
theorem At.one (p : At w g) : ∀ v ∈ p.enc, v.oneCell' = true := by
  intro v hv
  simp [At.enc, fieldsL] at hv
  rcases hv with rfl | rfl | rfl | rfl | rfl <;> rfl
theorem rows_at : ∀ {xs : List V} {css : List (List Value)}, RowsIn (fun b => g < b ∧ b < w.heap.size) w xs css → Ok xs → ∃ d : List (At w g), d.map At.x = xs ∧ d.map At.enc = css
  | [], [], _, _ => ⟨[], rfl, rfl⟩
  | x :: r, cs :: t, h, hok => by
    obtain ⟨⟨A, c, K, d, rfl, hl⟩, h2⟩ := h
    obtain ⟨ds, h3, h4⟩ := rows_at h2 fun y hy => hok y (List.mem_cons_of_mem _ hy)
    exact ⟨⟨x, A, c, K, d, hl, hok x List.mem_cons_self⟩ :: ds, by simp [h3], by simp [h4, At.enc]⟩
  | [], _ :: _, h, _ => h.elim
  | _ :: _, [], h, _ => h.elim
theorem at_rows {P : Nat → Prop} {w' : World} (hk : ∀ b o, g < b → b < w.heap.size → w'.cell? ⟨b, o, none⟩ = w.cell? ⟨b, o, none⟩) (hP : ∀ b, g < b → b < w.heap.size → P b) : ∀ d : List (At w g), RowsIn P w' (d.map At.x) (d.map At.enc)
  | [] => trivial
  | p :: r => ⟨⟨p.A, p.c, p.K, p.d, rfl, LiesIn.keep (fun b o hb => hk b o hb.1 hb.2) (fun b hb => hP b hb.1 hb.2) p.x p.lies⟩, at_rows hk hP r⟩
/-- Element t / 5's cell t % 5. -/
theorem flat_at {α : Type} [Inhabited α] (f : α → List Value) (hf : ∀ x, (f x).length = 5) : ∀ (d : List α) (t : Nat), t < d.length * 5 → (d.map f).flatten[t]? = some (f d[t / 5]!)[t % 5]!
  | [], t, h => by simp at h
  | x :: r, t, h => by
    rw [List.map_cons, List.flatten_cons]
    by_cases ht : t < 5
    · rw [List.getElem?_append_left (by rw [hf]; exact ht), Nat.div_eq_of_lt ht, Nat.mod_eq_of_lt ht]
      rw [List.getElem?_eq_getElem (by rw [hf]; exact ht)]
      simp [hf, ht]
    · rw [List.getElem?_append_right (by rw [hf]; omega), hf, flat_at f hf r (t - 5) (by simp at h; omega)]
      obtain ⟨u, rfl⟩ : ∃ u, t = u + 5 := ⟨t - 5, by omega⟩
      rw [Nat.add_sub_cancel, Nat.add_mod_right, show (u + 5) / 5 = u / 5 + 1 by omega]
      simp
theorem flat_is {α : Type} [Inhabited α] (f : α → List Value) (hf : ∀ x, (f x).length = 5) (d : Array α) : (d.toList.map f).flatten.toArray = Go.Sort.flatK f 5 d := by
  have hl : (d.toList.map f).flatten.length = d.size * 5 := by
    have : ∀ l : List α, (l.map f).flatten.length = l.length * 5 := fun l => by
      induction l with
      | nil => rfl
      | cons x r ih => rw [List.map_cons, List.flatten_cons, List.length_append, ih, hf, List.length_cons]; omega
    rw [this, Array.length_toList]
  refine Go.Sort.ext_get! (by simpa using hl) fun t ht => ?_
  have ht' : t < d.size * 5 := by simpa [hl] using ht
  rw [Go.Sort.get_flatK f 5 d t ht']
  have h := flat_at f hf d.toList t (by simpa using ht')
  rw [getElem!_def, List.getElem?_toArray, h]
  simp [getElem!_def]

/-- A world that grew from another one by draws and new blocks alone. -/
theorem grown_from {W w' : World} (h : BelowD W.heap.size W w') : ∃ q os', w' = Go.Sort.grow (W.drewN q) os' := by
  refine ⟨w'.drawn - W.drawn, w'.heap.extract W.heap.size w'.heap.size, ?_⟩
  obtain ⟨⟨h1, h2, h3, h4, h5⟩, h6⟩ := h
  cases w' with
  | mk heap tape drawn os output =>
    simp only at h1 h2 h3 h4 h5 h6 ⊢
    unfold Go.Sort.grow World.drewN
    simp only [World.mk.injEq]
    refine ⟨?_, h2, by omega, h1, h3⟩
    apply Array.ext_getElem?
    intro i
    rw [Array.getElem?_append]
    by_cases hi : i < W.heap.size
    · rw [if_pos hi, h5 i hi]
    · rw [if_neg hi, Array.getElem?_extract]
      split
      · congr 1; omega
      · rw [Array.getElem?_eq_none (by omega)]
def cmpAtV (p q : At w g) : Int := p.x.cmp q.x
theorem at_swo : Go.Sort.SWO (ltOf (cmpAtV (w := w) (g := g))) where
  irrefl p := by have := (cmp_order p.x p.x p.x).2.2.1; unfold ltOf cmpAtV; rw [this]; rfl
  trans p q r h1 h2 := by
    have h1 : p.x.cmp q.x < 0 := of_decide_eq_true h1
    have h2 : q.x.cmp r.x < 0 := of_decide_eq_true h2
    exact decide_eq_true ((cmp_order p.x q.x r.x).2.2.2 (by omega) (by omega) |>.2 (.inl h1))
  ntrans p q r h1 h2 := by
    have h1 : ¬ p.x.cmp q.x < 0 := of_decide_eq_false h1
    have h2 : ¬ q.x.cmp r.x < 0 := of_decide_eq_false h2
    have a := (cmp_order p.x q.x r.x).2.1
    have b := (cmp_order q.x r.x r.x).2.1
    have c := (cmp_order p.x r.x r.x).2.1
    have := ((cmp_order r.x q.x p.x).2.2.2 (by omega) (by omega)).1
    exact decide_eq_false (show ¬ p.x.cmp r.x < 0 by omega)

open Go.Sort in
theorem sort_keeps (m : Nat) (os : Array Obj) (dk : Array (At w g)) (_hg : g < w.heap.size) : (∀ b o, b < w.heap.size → b ≠ g → (sortWorldK At.enc 5 w g 0 m dk os).cell? ⟨b, o, none⟩ = w.cell? ⟨b, o, none⟩) ∧ w.heap.size ≤ (sortWorldK At.enc 5 w g 0 m dk os).heap.size := by
  refine ⟨fun b o hb hne => ?_, size_sortWorldK_c At.enc 5 w g 0 m dk os⟩
  unfold sortWorldK
  rw [cell?_grow _ _ _ (by rw [size_putRowK]; exact hb), cell?_putRowK_other _ _ _ _ _ _ _ (by exact hne)]
  rfl
theorem at_lies {W : World} {p : At w g} (hk : (∀ b o, b < w.heap.size → b ≠ g → W.cell? ⟨b, o, none⟩ = w.cell? ⟨b, o, none⟩) ∧ w.heap.size ≤ W.heap.size) : Lies W W.heap.size p.x p.A p.c p.K p.d :=
  LiesIn.lies (P := fun b => g < b ∧ b < w.heap.size) (fun b hb => by have := hb.2; have := hk.2; omega) _ (LiesIn.keep (fun b o hb => hk.1 b o hb.2 (by have := hb.1; omega)) (fun _ h => h) _ p.lies)
open Go.Sort in
theorem at_cmp (n : Nat) (hg : g < w.heap.size) : CmpLays Tryz.prog 25 #[] At.enc 5 (cmpAtV (w := w) (g := g)) g 0 n w := by
  intro m os dk hdk p q
  have hk := sort_keeps m os dk hg
  rw [Array.append_empty]
  exact (order_anyD p.x.nodes p.x q.x _ p.A p.K p.c p.d q.A q.K q.c q.d (Nat.le_refl _) p.ok q.ok (at_lies hk) (at_lies hk)).mono fun e w' hh => ⟨hh.1, grown_from hh.2⟩
open Go.Sort in
set_option maxRecDepth 100000 in
theorem sort_row (w : World) (g cap : Nat) (css : List (List Value)) (l : List V) (hr : RowsIn (fun b => g < b ∧ b < w.heap.size) w l css) (hb : BlockIs w g 35 css.flatten.toArray) (hok : Ok l) (hl : l.length ≤ 1000000) :
    Calls Tryz.prog 24 #[.slice (some ⟨g, 0, none⟩) l.length cap, .func (.func 25) #[] #[]] w fun e w' =>
      e = .returned (.tuple #[]) ∧ ∃ css', RowsIn (fun b => g < b ∧ b < w'.heap.size) w' (sortV l) css' ∧ BlockIs w' g 35 css'.flatten.toArray ∧ w.grownBy w' (some g) := by
  obtain ⟨d, hd1, hd2⟩ := rows_at hr hok
  have hfl : css.flatten.toArray = flatK At.enc 5 d.toArray := by rw [← hd2, ← flat_is At.enc At.len d.toArray]
  have hfs : (flatK At.enc 5 d.toArray).size = d.toArray.size * 5 := size_flatK At.enc 5 d.toArray
  rw [hfl] at hb
  have hH : HoldsK At.enc 5 w g 0 d.toArray := fun j hj => by
    refine ⟨?_, hb.frozen _⟩
    rw [Nat.zero_add, hb.cell, Array.getElem?_eq_getElem hj]
    exact congrArg some (getElem!_pos _ j hj).symm
  have eg : ∀ args w, (callFunc 25 args).run Tryz.prog w = .ok (.enter 25 args) w := enters_of Tryz.func25 (by kernel_rfl) rfl
  have hlen : d.toArray.size = l.length := by rw [← hd1]; simp
  have hcon := AnyQ.slices_SortFunc Tryz.sortV 5 Tryz.isAgg35 Tryz.sizeOf35 At.enc At.len At.one cmpAtV at_swo 25 #[] g 0 cap d.toArray w eg (at_cmp _ hb.lt) hH hb.lt (by omega)
  rw [hlen] at hcon
  refine Calls.mono hcon ?_
  rintro e w' ⟨he, d', n, os, hp, hs, rfl⟩
  refine ⟨he, d'.toList.map At.enc, ?_, ?_, ?_⟩
  · obtain ⟨hz, -, hperm⟩ := hp
    have hz' : d'.size = l.length := hz.trans hlen
    rw [show (d'.extract 0 l.length) = d' by rw [← hz']; exact Array.extract_size, show (d.toArray.extract 0 l.length) = d.toArray by rw [← hlen]; exact Array.extract_size] at hperm
    have hx : d'.toList.map At.x = sortV l := by
      refine sortV_is hok ?_ ?_
      · rw [← hd1]; exact (hperm.map At.x)
      · rw [List.pairwise_map, List.pairwise_iff_getElem]
        intro i j hi hj hij
        have hi' : i < d'.size := by simpa using hi
        have hj' : j < d'.size := by simpa using hj
        have := hs i j (Nat.zero_le _) hij (by omega)
        rw [getElem!_pos d' j hj', getElem!_pos d' i hi'] at this
        have this : ¬ d'[j].x.cmp d'[i].x < 0 := of_decide_eq_false this
        have h2 := (cmp_order d'[i].x d'[j].x d'[i].x).2.1
        rw [leV_iff]
        simp only [Array.getElem_toList]
        omega
    rw [← hx]
    have hk := sort_keeps (w := w) (g := g) n os d' hb.lt
    exact at_rows (fun b o h1 h2 => hk.1 b o h2 (by omega)) (fun b h1 h2 => ⟨h1, by have := hk.2; omega⟩) d'.toList
  · rw [flat_is At.enc At.len d']
    have hz : d'.size = d.toArray.size := hp.1
    show (sortWorldK At.enc 5 w g 0 n d' os).heap[g]? = _
    unfold sortWorldK
    rw [heap_grow_old _ _ (by rw [size_putRowK]; exact hb.lt)]
    have h0 : (Sort.ahead w n).heap[g]? = some (Obj.cells (flatK At.enc 5 d.toArray) 35 (0, 0)) := hb.eq
    unfold putRowK putRow mapBlock
    simp only [Array.getElem?_modify, if_true, h0, Option.map_some, onCells]
    congr 2
    refine ext_get! ?_ fun t ht => ?_
    · unfold putCells; rw [Array.size_mapIdx, size_flatK, size_flatK, hz]
    · have ht' : t < (flatK At.enc 5 d').size := by
        unfold putCells at ht; rw [Array.size_mapIdx, size_flatK] at ht; rw [size_flatK, hz]; exact ht
      unfold putCells
      have ht2 : t < (flatK At.enc 5 d.toArray).size := by rw [size_flatK, ← hz, ← size_flatK At.enc 5 d']; exact ht'
      rw [getElem!_def, Array.getElem?_mapIdx, Array.getElem?_eq_getElem ht2, Option.map_some, if_pos ⟨Nat.zero_le _, by omega⟩]
      simp
  · refine ⟨rfl, rfl, rfl, size_sortWorldK_c At.enc 5 w g 0 n d' os, fun b hb1 hb2 => ?_⟩
    unfold sortWorldK
    rw [heap_grow_old _ _ (by rw [size_putRowK]; exact hb1)]
    unfold putRowK putRow mapBlock
    have : ¬ g = b := fun e => hb2 (by rw [e])
    simp only [Array.getElem?_modify, if_neg this]
    rfl
end Go.Proofs.YtfiiaeomlmckfaaGreatDoor

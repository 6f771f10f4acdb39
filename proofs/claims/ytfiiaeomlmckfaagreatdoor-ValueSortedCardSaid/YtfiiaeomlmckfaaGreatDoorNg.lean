/- The library's CompactFunc at rows of values, walked. -/
import Derived.Test.YtfiiaeomlmckfaaGreatDoorNf
import Derived.Deep.QuietTactic
import Derived.BigQuiet
import Derived.Deep.RegionHeld3
import Derived.IntWalk
namespace Go.Proofs.YtfiiaeomlmckfaaGreatDoor
open Go.RowKit

/-- What is left of a row of values: each of equal ones that follow one another once. -/
def CompactPost (m : List V) (g : Nat) (w : World) (e : Ending) (w' : World) : Prop :=
  ∃ kss rest, e = .returned (.slice (some ⟨g, 0, none⟩) (onceV m).length m.length) ∧ w.grownBy w' (some g) ∧ BlockIs w' g 35 (kss ++ rest).flatten.toArray ∧ RowsIn (fun b => g < b ∧ b < w.heap.size) w (onceV m) kss
theorem wp_clear_run {P : Program} (w : World) {o : Oper} {a : Act} {K : Act → World → Prop} {Q : Exit → Act → World → Prop} (d : Operand) (t : TypeId)
    (ho : o.op = .call { callee := .builtin .clear, args := #[d], argTypes := #[t] }) (v : Value) (hd : a.eval d = v) {v' : Value} {w' : World}
    (hr : (Builtin.clear_ #[t] o.type #[v]).run P w = .ok v' w') (h : K (a.put o.dst v') w') : o.wp P a w K Q := by
  unfold Oper.wp execOp
  simp only [ho, resolve, invoke, builtin, Sem.run_bind, Sem.run_pure, Result.andThen_ok, List.map_toArray, List.map_cons, List.map_nil, hd, hr]
  exact h
/-- The operation 'clear(d)', where its run is known. -/
theorem wpList_clear_run {P : Program} (w : World) {ops : Array Oper} {rest : List Oper} {o : Oper} {a : Act} {Q : Exit → Act → World → Prop} (hgd : o.guard = none) (d : Operand) (t : TypeId)
    (ho : o.op = .call { callee := .builtin .clear, args := #[d], argTypes := #[t] }) (v : Value) (hd : a.eval d = v) {v' : Value} {w' : World}
    (hr : (Builtin.clear_ #[t] o.type #[v]).run P w = .ok v' w') (h : wpList P ops Q rest (a.put o.dst v') w') : wpList P ops Q (o :: rest) a w :=
  wpList_plain hgd fun _ hK => wp_clear_run w d t ho v hd hr (hK _ _ h)
theorem clear_rows (w : World) (g off len cap : Nat) (cur : Array Value) (t ty : TypeId) (hg : w.heap[g]? = some (.cells cur t (0, 0))) (hfit : off + len * 5 ≤ cur.size) (hpos : 0 < len) :
    ∃ zs : List Value, zs.length = len * 5 ∧ (Builtin.clear_ #[22] ty #[.slice (some ⟨g, off, none⟩) len cap]).run Tryz.prog w = .ok (.tuple #[]) (w.setRow g (cur.toList.take off ++ zs ++ cur.toList.drop (off + len * 5)).toArray) := by
  have hz : (Value.agg zeroF).cells.size = 5 := rfl
  have hl : (Builtin.zeroCells (Value.agg zeroF).cells len).toList.length = len * 5 := by simp [Builtin.zeroCells, hz]
  have h1 : ∀ v ∈ (Builtin.zeroCells (Value.agg zeroF).cells len).toList, v.oneCell' = true := by
    intro v hv
    simp only [Builtin.zeroCells, Array.toList_map, List.mem_map] at hv
    obtain ⟨i, -, rfl⟩ := hv
    have hi : i % 5 < 5 := Nat.mod_lt _ (by omega)
    rw [hz]
    generalize i % 5 = j at hi
    match j, hi with
    | 0, _ => rfl
    | 1, _ => rfl
    | 2, _ => rfl
    | 3, _ => rfl
    | 4, _ => rfl
  have hst := run_storeCells_at (P := Tryz.prog) g off t _ 0 cur w hg (by rw [hl]; omega) h1
  rw [hl] at hst
  simp only [Nat.add_zero] at hst
  refine ⟨_, hl, ?_⟩
  obtain ⟨m, rfl⟩ : ∃ m, len = m + 1 := ⟨len - 1, by omega⟩
  have hv := Tryz.zeroValue35 w
  simp [Builtin.clear_, run_underlying Tryz.underlying22, hv]
  erw [hst]
  rw [List.append_assoc]
  rfl
theorem onceV_short {m : List V} (h : m.length < 2) : onceV m = m := by
  match m, h with
  | [], _ => rfl
  | [x], _ => rfl
theorem compact_end {w W : World} {g q r n : Nat} {m : List V} {css kss : List (List Value)} {zs : List Value} (h : CQ w g m css q kss W) (hr : kss.length = r) (hq : q = m.length) (hfl : (kss ++ css.drop kss.length).flatten.length = m.length * 5) (hn : n = m.length) (hrn : r ≤ n) :
    CompactPost m g w (.returned (.slice (some ⟨g, 0, none⟩) r n)) (W.setRow g ((kss ++ css.drop kss.length).flatten.toArray.toList.take (r * 5) ++ zs ++ (kss ++ css.drop kss.length).flatten.toArray.toList.drop (r * 5 + (n - r) * 5)).toArray) := by
  have ht : m.take q = m := List.take_of_length_le (by omega)
  have hk := h.kept
  rw [ht] at hk
  have hkl : (onceV m).length = r := by rw [← hr]; exact hk.length.symm
  have hkf : kss.flatten.length = r * 5 := by rw [hk.flat, hkl]
  have e1 : (kss ++ css.drop kss.length).flatten.toArray.toList.take (r * 5) = kss.flatten := by
    rw [List.toList_toArray, List.flatten_append, List.take_left' hkf]
  have e2 : (kss ++ css.drop kss.length).flatten.toArray.toList.drop (r * 5 + (n - r) * 5) = [] := by
    rw [List.toList_toArray]
    exact List.drop_eq_nil_of_le (by rw [hfl, ← Nat.add_mul]; exact Nat.mul_le_mul_right _ (by omega))
  rw [e1, e2, List.append_nil]
  refine ⟨kss, [zs], by rw [hkl, hn], ?_, ?_, hk⟩
  · exact grow_trans h.grown ⟨rfl, rfl, rfl, by rw [size_setRow]; exact Nat.le_refl _, fun k _ hk => setRow_other _ g k _ (fun e => hk (by rw [e]))⟩
  · have := setRow_heap W g _ (kss.flatten ++ zs).toArray _ _ h.row.eq
    show _ = _
    rw [this]
    simp [List.flatten_append]
set_option maxRecDepth 100000 in
set_option maxHeartbeats 8000000 in
theorem compact_any (m : List V) (css : List (List Value)) (g : Nat) (w : World) (hr : RowsIn (fun b => g < b ∧ b < w.heap.size) w m css) (hb : BlockIs w g 35 css.flatten.toArray) (hok : Ok m) (hl : m.length ≤ 1000) :
    Calls Tryz.prog 27 #[.slice (some ⟨g, 0, none⟩) m.length m.length, .func (.func 28) #[] #[]] w (CompactPost m g w) := by
  have HS := Lib.hid (CQ.start w g m css hr hb)
  have HOK := Lib.hid hok
  have HR := Lib.hid hr
  have HB := Lib.hid hb
  obtain ⟨n, hn⟩ : ∃ n, n = m.length := ⟨_, rfl⟩
  have HN := Lib.hid hn
  have hnb : n ≤ 1000 := by omega
  rw [← hn]
  clear hr hb hok hl hn
  by_cases h2 : n < 2
  · go_enter Tryz.func27, Tryz.ntmps27
    go_wp2_with fail
    go_ret
    have ho := onceV_short (m := m) (by have := HN.out; omega)
    refine ⟨css, [], by rw [ho, ← HN.out]; rfl, ⟨rfl, rfl, rfl, Nat.le_refl _, fun _ _ _ => rfl⟩, by simpa using HB.out, by rw [ho]; exact HR.out⟩
  · have hn2 : ¬ ((n : Int) < 2) := by omega
    go_enter Tryz.func27, Tryz.ntmps27
    go_wp2_with fail
    go_loopw [5] (fun kv wr => ∃ k : Nat, kv = .int .i64 k ∧ 1 ≤ k ∧ k ≤ n ∧ Hid (onceV (m.take k) = m.take k) ∧ Hid (CQ w g m css 0 [] wr)) (fun kv _ => n - (intOf kv).toNat)
    case atStart => exact ⟨1, rfl, Nat.le_refl _, by omega, Lib.hid (onceV_short (by rw [List.length_take]; omega)), HS⟩
    case round =>
      clear HS
      obtain ⟨k, rfl, hk1, hkn, HO, HC⟩ := hrel
      by_cases hlt : k < n
      · have hk0 : 1 ≤ (k : Int) := by omega
        have hki : (k : Int) < n := by omega
        have HP := Lib.hid (show k - 1 < m.length ∧ k < m.length from ⟨by have := HN.out; omega, by have := HN.out; omega⟩)
        obtain ⟨x, hx⟩ : ∃ x, m[k - 1]? = some x := ⟨_, List.getElem?_eq_getElem HP.out.1⟩
        obtain ⟨y, hy⟩ : ∃ y, m[k]? = some y := ⟨_, List.getElem?_eq_getElem HP.out.2⟩
        obtain ⟨A1, c1, K1, d1, hc1, hl1, x0, x1, x2, x3, x4⟩ := HC.out.elem (Nat.zero_le _) hx
        obtain ⟨A2, c2, K2, d2, hc2, hl2, y0, y1, y2, y3, y4⟩ := HC.out.elem (Nat.zero_le _) hy
        have hxo := HOK.out x (List.mem_of_getElem? hx)
        have hyo := HOK.out y (List.mem_of_getElem? hy)
        obtain ⟨b, hb⟩ : ∃ b, (y.cmp x == 0) = b := ⟨_, rfl⟩
        have HE := Lib.hid fun W (hW : Below wr.heap.size wr W) => equal_any y x b hb W A2 K2 c2 d2 A1 K1 c1 d1 hyo hxo (lies_on hl2 hW) (lies_on hl1 hW)
        have HX := Lib.hid hx
        have HY := Lib.hid hy
        have HBB := Lib.hid hb
        have gl : g < wr.heap.size := HC.out.row.lt
        clear hx hy hc1 hc2 hl1 hl2 hxo hyo hb
        have v1 : 0 ≤ (k : Int) - 1 := by omega
        have v2 : (k : Int) - 1 < n := by omega
        have v3 : ((k : Int) - 1).toNat = k - 1 := by omega
        have v4 : IntKind.i64.wrap ((k : Int) - 1) = (k : Int) - 1 := IntWalk.i64_in _ (by omega)
        go_wp2_with fail
        go_region_held3 (fun W => Hid (Below wr.heap.size wr W) ∧
            (W.cell? ⟨g, k * 5, none⟩ = some (.int .i64 y.kind) ∧ W.cell? ⟨g, k * 5 + 1, none⟩ = some (.int .i64 y.int) ∧ W.cell? ⟨g, k * 5 + 2, none⟩ = some (.string y.text) ∧ W.cell? ⟨g, k * 5 + 3, none⟩ = some (.slice A2 y.items.length c2) ∧ W.cell? ⟨g, k * 5 + 4, none⟩ = some (.slice K2 y.keys.length d2)) ∧
            (W.cell? ⟨g, (k - 1) * 5, none⟩ = some (.int .i64 x.kind) ∧ W.cell? ⟨g, (k - 1) * 5 + 1, none⟩ = some (.int .i64 x.int) ∧ W.cell? ⟨g, (k - 1) * 5 + 2, none⟩ = some (.string x.text) ∧ W.cell? ⟨g, (k - 1) * 5 + 3, none⟩ = some (.slice A1 x.items.length c1) ∧ W.cell? ⟨g, (k - 1) * 5 + 4, none⟩ = some (.slice K1 x.keys.length d1)))
          (first
            | (exact ⟨Lib.hid (Below.drew (Below.refl _ _)), ⟨y0, y1, y2, y3, y4⟩, x0, x1, x2, x3, x4⟩)
            | (go_split_ands
               have hB := keepB (by assumption) hb3
               exact ⟨Lib.hid hB, ⟨(bcell hB _ _ gl).trans y0, (bcell hB _ _ gl).trans y1, (bcell hB _ _ gl).trans y2, (bcell hB _ _ gl).trans y3, (bcell hB _ _ gl).trans y4⟩, (bcell hB _ _ gl).trans x0, (bcell hB _ _ gl).trans x1, (bcell hB _ _ gl).trans x2, (bcell hB _ _ gl).trans x3, (bcell hB _ _ gl).trans x4⟩))
          (first
            | (go_at_call 28; refine (HE.out _ ?_).mono ?_; (go_split_ands; exact Hid.out (by assumption)); rintro e w1 ⟨rfl, hb3⟩))
        rename_i hS
        have HC1 := Lib.hid (HC.out.on hS.1.out)
        clear hS hb3 v1 v2 v3 v4 x0 x1 x2 x3 x4 y0 y1 y2 y3 y4 HE gl
        cases b
        · have HNE := Lib.hid (show ¬ y.cmp x = 0 by simpa using HBB.out)
          go_wp2_with fail
          go_roundw
          case rel => exact ⟨k + 1, by go_num, by omega, by omega, Lib.hid (onceV_more HO.out hk1 HX.out HY.out HNE.out), HC1⟩
          case measure => simp [intOf]; omega
        · have HQ := Lib.hid (HC1.out.twice HO.out hk1 HX.out HY.out (by simpa using HBB.out))
          clear HC1 HC HO HX HY
          go_wp2_with fail
          go_loopw [5, 7] (fun kv jv wq => ∃ (r j : Nat) (kss : List (List Value)), kv = .int .i64 r ∧ jv = .int .i64 j ∧ 1 ≤ j ∧ k + j ≤ n ∧ r < k + j ∧ Hid (kss.length = r) ∧ Hid (CQ w g m css (k + j) kss wq)) (fun _ jv _ => n - k - (intOf jv).toNat)
          case atStart => exact ⟨k, 1, _, rfl, rfl, Nat.le_refl _, by omega, by omega, Lib.hid (by rw [List.length_take, Nat.min_eq_left (by have := HR.out.length; have := HN.out; omega)]), HQ⟩
          case round =>
            clear HQ
            obtain ⟨r, j, kss, rfl, rfl, hj1, hjn, hrj, HKL, HC⟩ := hrel
            have hr0 : 0 ≤ (r : Int) := by omega
            have hrn : (r : Int) < n := by omega
            by_cases hlt2 : k + j < n
            · have hj0 : 1 ≤ (j : Int) := by omega
              have hji : (j : Int) < (n - k : Nat) := by omega
              have HP2 := Lib.hid (show k + j - 1 < m.length ∧ k + j < m.length from ⟨by have := HN.out; omega, by have := HN.out; omega⟩)
              obtain ⟨x', hx⟩ : ∃ x, m[k + j - 1]? = some x := ⟨_, List.getElem?_eq_getElem HP2.out.1⟩
              obtain ⟨y', hy⟩ : ∃ y, m[k + j]? = some y := ⟨_, List.getElem?_eq_getElem HP2.out.2⟩
              obtain ⟨A3, c3, K3, d3, hc1, hl1, x0, x1, x2, x3, x4⟩ := HC.out.elem (show kss.length ≤ k + j - 1 by have := HKL.out; omega) hx
              obtain ⟨A4, c4, K4, d4, hc2, hl2, y0, y1, y2, y3, y4⟩ := HC.out.elem (show kss.length ≤ k + j by have := HKL.out; omega) hy
              have hxo := HOK.out x' (List.mem_of_getElem? hx)
              have hyo := HOK.out y' (List.mem_of_getElem? hy)
              obtain ⟨b, hb⟩ : ∃ b, (y'.cmp x' == 0) = b := ⟨_, rfl⟩
              have HE := Lib.hid fun W (hW : Below wr.heap.size wr W) => equal_any y' x' b hb W A4 K4 c4 d4 A3 K3 c3 d3 hyo hxo (lies_on hl2 hW) (lies_on hl1 hW)
              have HX := Lib.hid hx
              have HY := Lib.hid hy
              have HC2 := Lib.hid hc2
              have HBB2 := Lib.hid hb
              have gl : g < wr.heap.size := HC.out.row.lt
              rw [show (k + j - 1) * 5 = k * 5 + (j - 1) * 5 by omega] at x0 x1 x2 x3 x4
              rw [show (k + j) * 5 = k * 5 + j * 5 by omega] at y0 y1 y2 y3 y4
              clear hx hy hc1 hc2 hl1 hl2 hxo hyo hb
              have v1 : 0 ≤ (j : Int) - 1 := by omega
              have v2 : (j : Int) - 1 < (n - k : Nat) := by omega
              have v3 : ((j : Int) - 1).toNat = j - 1 := by omega
              have v4 : IntKind.i64.wrap ((j : Int) - 1) = (j : Int) - 1 := IntWalk.i64_in _ (by omega)
              go_wp2_with fail
              go_region_held3 (fun W => Hid (Below wr.heap.size wr W) ∧
                  (W.cell? ⟨g, k * 5 + j * 5, none⟩ = some (.int .i64 y'.kind) ∧ W.cell? ⟨g, k * 5 + j * 5 + 1, none⟩ = some (.int .i64 y'.int) ∧ W.cell? ⟨g, k * 5 + j * 5 + 2, none⟩ = some (.string y'.text) ∧ W.cell? ⟨g, k * 5 + j * 5 + 3, none⟩ = some (.slice A4 y'.items.length c4) ∧ W.cell? ⟨g, k * 5 + j * 5 + 4, none⟩ = some (.slice K4 y'.keys.length d4)) ∧
                  (W.cell? ⟨g, k * 5 + (j - 1) * 5, none⟩ = some (.int .i64 x'.kind) ∧ W.cell? ⟨g, k * 5 + (j - 1) * 5 + 1, none⟩ = some (.int .i64 x'.int) ∧ W.cell? ⟨g, k * 5 + (j - 1) * 5 + 2, none⟩ = some (.string x'.text) ∧ W.cell? ⟨g, k * 5 + (j - 1) * 5 + 3, none⟩ = some (.slice A3 x'.items.length c3) ∧ W.cell? ⟨g, k * 5 + (j - 1) * 5 + 4, none⟩ = some (.slice K3 x'.keys.length d3)))
                (first
                  | (exact ⟨Lib.hid (Below.drew (Below.refl _ _)), ⟨y0, y1, y2, y3, y4⟩, x0, x1, x2, x3, x4⟩)
                  | (go_split_ands
                     have hB := keepB (by assumption) hb3
                     exact ⟨Lib.hid hB, ⟨(bcell hB _ _ gl).trans y0, (bcell hB _ _ gl).trans y1, (bcell hB _ _ gl).trans y2, (bcell hB _ _ gl).trans y3, (bcell hB _ _ gl).trans y4⟩, (bcell hB _ _ gl).trans x0, (bcell hB _ _ gl).trans x1, (bcell hB _ _ gl).trans x2, (bcell hB _ _ gl).trans x3, (bcell hB _ _ gl).trans x4⟩))
                (first
                  | (go_at_call 28; refine (HE.out _ ?_).mono ?_; (go_split_ands; exact Hid.out (by assumption)); rintro e w2 ⟨rfl, hb3⟩))
              rename_i hS
              obtain ⟨hS1, ⟨y0', y1', y2', y3', y4'⟩, -⟩ := hS
              have HC1 := Lib.hid (HC.out.on hS1.out)
              clear hS1 hb3 v1 v2 v3 v4 x0 x1 x2 x3 x4 y0 y1 y2 y3 y4 HE gl
              cases b
              · have hrm : r < m.length := by have := HP2.out; omega
                obtain ⟨A5, c5, K5, d5, -, -, z0, z1, z2, z3, z4⟩ := HC1.out.elem (show kss.length ≤ r by have := HKL.out; omega) (List.getElem?_eq_getElem hrm)
                have n0 := HC1.out.row.frozen (r * 5)
                have n1 := HC1.out.row.frozen (r * 5 + 1)
                have n2 := HC1.out.row.frozen (r * 5 + 2)
                have n3 := HC1.out.row.frozen (r * 5 + 3)
                have n4 := HC1.out.row.frozen (r * 5 + 4)
                have nl := HC1.out.row.lt
                have HCK := Lib.hid (HC1.out.keep (show kss.length < k + j by have := HKL.out; omega) HX.out HY.out (by simpa using HBB2.out) HC2.out)
                rw [HKL.out] at HCK
                generalize m[r] = zz at z0 z1 z2 z3 z4
                clear hrm HC1
                go_wp2_with fail
                go_roundw
                case rel => exact ⟨r + 1, j + 1, _, by go_num, by go_num, by omega, by omega, by omega, Lib.hid (by simp; exact HKL.out), HCK⟩
                case measure => simp [intOf]; omega
              · clear y0' y1' y2' y3' y4'
                go_wp2_with fail
                go_roundw
                case rel => exact ⟨r, j + 1, kss, rfl, by go_num, by omega, by omega, by omega, HKL, Lib.hid (HC1.out.skip (by omega) HX.out HY.out (by simpa using HBB2.out))⟩
                case measure => simp [intOf]; omega
            · have hji : ¬ ((j : Int) < (n - k : Nat)) := by omega
              have hkj : k + j = m.length := by have := HN.out; omega
              have hcl : css.length = m.length := HR.out.length
              have hfl : (kss ++ css.drop kss.length).flatten.length = m.length * 5 := by
                have h1 : ∀ L : List (List Value), (∀ cs ∈ L, cs.length = 5) → L.flatten.length = L.length * 5 := fun L => by
                  induction L with
                  | nil => intro _; rfl
                  | cons a r ih => intro h; rw [List.flatten_cons, List.length_append, ih (fun cs hc => h cs (List.mem_cons_of_mem _ hc)), h a List.mem_cons_self, List.length_cons]; omega
                rw [h1 _ HC.out.five, List.length_append, List.length_drop, hcl]
                have := HKL.out
                have := HN.out
                congr 1; omega
              obtain ⟨zs, -, hclr⟩ := clear_rows wr g (r * 5) (n - r) (n - r) _ _ 0 HC.out.row.eq (by rw [List.size_toArray, hfl]; have := HN.out; omega) (by omega)
              have HCLR := Lib.hid hclr
              have HCL := Lib.hid (And.intro hkj hfl)
              clear hkj hcl hfl hclr
              go_wp2_with (refine wpList_clear_run _ rfl _ _ rfl _ rfl HCLR.out ?_)
              go_ret
              have hE := compact_end (zs := zs) HC.out HKL.out HCL.out.1 HCL.out.2 HN.out (by omega)
              simp only [List.flatten_append, List.append_assoc] at hE
              exact hE
      · have hki : ¬ ((k : Int) < n) := by omega
        go_wp2_with fail
        go_ret
        have ho : onceV m = m := by
          have h := HO.out
          rw [List.take_of_length_le (by have := HN.out; omega)] at h
          exact h
        exact ⟨css, [], by rw [ho, ← HN.out]; rfl, HC.out.grown, by simpa using HC.out.row, by rw [ho]; exact HR.out⟩
end Go.Proofs.YtfiiaeomlmckfaaGreatDoor

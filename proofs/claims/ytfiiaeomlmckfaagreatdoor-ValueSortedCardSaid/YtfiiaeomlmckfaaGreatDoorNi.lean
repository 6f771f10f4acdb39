/- The specification's sort: halves sorted, and merged, walked. -/
import Derived.Test.YtfiiaeomlmckfaaGreatDoorNe
import Derived.Test.YtfiiaeomlmckfaaGreatDoorNh
import Derived.Lib.AppendZeros
namespace Go.Proofs.YtfiiaeomlmckfaaGreatDoor
open Go.RowKit

/-- A list of values is answered. -/
def ListPost (r : List V) (w : World) (e : Ending) (w' : World) : Prop := ∃ A c, e = .returned (.slice A r.length c) ∧ LiesL w' w'.heap.size A c r ∧ Below w.heap.size w w'
theorem LiesL.part {w : World} {B : Nat} {A : Option Addr} {c : Nat} {l : List V} (h : LiesL w B A c l) (k : Nat) : LiesL w B A c (l.take k) := by
  obtain ⟨h1, h2, h3⟩ := h
  refine ⟨by rw [List.length_take]; omega, h2, ?_⟩
  rcases h3 with rfl | ⟨b, o, hA, hb, hf⟩
  · exact .inl (by simp)
  · refine .inr ⟨b, o, hA, hb, ?_⟩
    clear hA h1
    induction k generalizing l o with
    | zero => simp [LiesFrom]
    | succ k ih =>
      cases l with
      | nil => simp [LiesFrom]
      | cons x r => exact ⟨hf.1, ih _ hf.2⟩
theorem LiesFrom.later {w : World} {B b : Nat} : ∀ (k : Nat) {l : List V} {o : Nat}, LiesFrom w B l b o → LiesFrom w B (l.drop k) b (o + k * 5)
  | 0, l, o, h => by simpa using h
  | k + 1, [], o, h => by simp [LiesFrom]
  | k + 1, x :: r, o, h => by
    have := LiesFrom.later k h.2
    rw [show o + (k + 1) * 5 = o + 5 + k * 5 by omega]
    exact this
theorem LiesL.rest {w : World} {B b o c k : Nat} {l : List V} (h : LiesL w B (some ⟨b, o, none⟩) c l) (hk : k < l.length) : LiesL w B (some ⟨b, o + k * 5, none⟩) (c - k) (l.drop k) := by
  obtain ⟨h1, h2, h3⟩ := h
  refine ⟨by rw [List.length_drop]; omega, by omega, .inr ?_⟩
  rcases h3 with rfl | ⟨b', o', hA, hb, hf⟩
  · simp at hk
  · cases hA
    exact ⟨b, _, rfl, hb, hf.later k⟩
/-- How far two halves are merged. -/
theorem merge_left {a b acc M : List V} {i k : Nat} {x : V} (h : acc ++ List.merge (a.drop i) (b.drop k) leV = M) (hx : a[i]? = some x) (ho : b.length ≤ k ∨ ∃ y, b[k]? = some y ∧ x.cmp y ≤ 0) : (acc ++ [x]) ++ List.merge (a.drop (i + 1)) (b.drop k) leV = M := by
  rw [drop_at hx] at h
  rcases ho with ho | ⟨y, hy, hxy⟩
  · rw [List.drop_eq_nil_of_le ho] at h ⊢
    rw [merge_nil_right] at h ⊢
    rw [← h]; simp
  · rw [drop_at hy, merge_cons, if_pos (leV_iff.2 hxy)] at h
    rw [drop_at hy, ← h]; simp
theorem merge_right {a b acc M : List V} {i k : Nat} {y : V} (h : acc ++ List.merge (a.drop i) (b.drop k) leV = M) (hy : b[k]? = some y) (ho : a.length ≤ i ∨ ∃ x, a[i]? = some x ∧ ¬ x.cmp y ≤ 0) : (acc ++ [y]) ++ List.merge (a.drop i) (b.drop (k + 1)) leV = M := by
  rw [drop_at hy] at h
  rcases ho with ho | ⟨x, hx, hxy⟩
  · rw [List.drop_eq_nil_of_le ho] at h ⊢
    rw [merge_nil_left] at h ⊢
    rw [← h]; simp
  · rw [drop_at hx, merge_cons, if_neg (fun e => hxy (leV_iff.1 e))] at h
    rw [drop_at hx, ← h]; simp
theorem merge_over {a b acc M : List V} {i k : Nat} (h : acc ++ List.merge (a.drop i) (b.drop k) leV = M) (hi : a.length ≤ i) (hk : b.length ≤ k) : acc = M := by
  rw [List.drop_eq_nil_of_le hi, List.drop_eq_nil_of_le hk, merge_nil_left, List.append_nil] at h
  exact h
theorem coll_one {w w5 : World} {g' cap : Nat} {x : V} {A K : Option Addr} {c d : Nat} (hx : LiesIn (fun b => b < w.heap.size) w x A c K d) (o : Obj) (hgrow : (w.alloc o).grownBy w5 (some w.heap.size))
    (hown : w5.ownsRow w.heap.size 35 5 (.slice (some ⟨g', 0, none⟩) 1 cap) 1 (fieldsL x A c K d)) : Coll w [x] (.slice (some ⟨g', 0, none⟩) 1 cap) [fieldsL x A c K d] w5 := by
  have hold : ∀ b, b < w.heap.size → w5.heap[b]? = w.heap[b]? := fun b hb => by
    rw [hgrow.block b (by simp; omega) (fun e => by rw [Option.some.injEq] at e; omega), Below.heap_alloc _ _ _ hb]
  refine ⟨⟨hgrow.os, hgrow.tape, hgrow.output, by have := hgrow.size; simp at this; omega, fun b hb => hold b hb⟩, by simpa [fieldsL] using hown, ⟨⟨_, _, _, _, rfl, LiesIn.keep (fun b o hb => World.cell?_of_block (hold b hb)) (fun _ h => h) x hx⟩, trivial⟩⟩
set_option maxRecDepth 100000 in
/-- A short list is its own sort: an append onto nothing. -/
theorem sorted_short (l : List V) (w : World) (A : Option Addr) (c : Nat) (hl : l.length < 2) (h : LiesL w w.heap.size A c l) :
    Calls Tryz.prog 26 #[.slice A l.length c] w (ListPost (sortV l) w) := by
  obtain ⟨iv0, hiv, hzv0, hzv1, hzv2⟩ := info_parts (P := Tryz.prog) (e := 35) (z := .agg zeroF) (size := 5) (bytes := 80) (by kernel_rfl)
  rw [sortV_short hl]
  match l, hl with
  | [], _ =>
    have hs : Src Tryz.prog iv0.size 22 (.slice A 0 c) 0 [] (w.alloc (.cells #[] 35)) := by
      cases A with
      | none => exact Src.ofNil _ Tryz.underlying22 c
      | some a => exact Src.ofSlice _ Tryz.underlying22 a 0 c [] (by simp) (fun j u hj => by simp at hj) (fun u hu => by cases hu)
    have HRUN := Lib.hid (fun ty => run_append_nothing (P := Tryz.prog) (w.alloc (.cells #[] 35)) 22 22 ty 35 iv0 Tryz.underlying22 hiv (some ⟨w.heap.size, 0, none⟩) 0 0 (Nat.le_refl _) _ hs)
    clear hs hiv hzv0 hzv1 hzv2 h
    go_enter Tryz.func26, Tryz.ntmps26
    go_wp2_with (at_builtin; refine Lib.wpList_append_run _ rfl _ _ _ _ rfl _ _ rfl rfl _ _ (HRUN.out _) ?_)
    go_ret
    exact ⟨_, _, rfl, ⟨Nat.le_refl _, by simp [maxLen], .inl rfl⟩, below_al (Below.refl _ w) _⟩
  | [x], _ =>
    obtain ⟨b, o, A1, c1, K1, d1, rfl, hbB, ⟨e0, e1, e2, e3, e4⟩, hlx⟩ := h.elem (k := 0) (y := x) rfl
    rw [Nat.zero_mul, Nat.add_zero] at e0 e1 e2 e3 e4
    have HLX := Lib.hid (Lies.inn _ hlx)
    have HOWN := Lib.hid (World.ownsRow_made (e := 35) (size := 5) (base := w.heap.size) w #[] 0 (Nat.le_refl _) (by simp [maxLen]) (by simp))
    have HNEW := Lib.hid (show ∀ j u, (fieldsL x A1 c1 K1 d1)[j]? = some u → (w.alloc (.cells #[] 35)).cell? ((⟨b, o, none⟩ : Addr).add j) = some u from fun j u hj => by
      rw [Addr.add_lit, World.cell?_of_block (Below.heap_alloc _ _ _ hbB)]
      match j, hj with
      | 0, hj => simp [fieldsL] at hj; subst hj; exact e0
      | 1, hj => simp [fieldsL] at hj; subst hj; exact e1
      | 2, hj => simp [fieldsL] at hj; subst hj; exact e2
      | 3, hj => simp [fieldsL] at hj; subst hj; exact e3
      | 4, hj => simp [fieldsL] at hj; subst hj; exact e4
      | j + 5, hj => simp [fieldsL] at hj)
    have HCO := Lib.hid (Coll.start w)
    have h1c := h.1
    clear h e0 e1 e2 e3 e4 hlx
    go_enter Tryz.func26, Tryz.ntmps26
    go_wp2_with (at_builtin; refine wpList_append_lies _ rfl _ _ 22 rfl w.heap.size 35 iv0 (.agg zeroF) 5 80 Tryz.underlying22 hiv hzv0 hzv1 hzv2 rfl (by decide) _ 0 [] rfl HOWN.out ⟨b, o, none⟩ 1 c (fieldsL x A1 c1 K1 d1) rfl rfl HNEW.out (by intro u hu; simp [fieldsL] at hu; rcases hu with rfl | rfl | rfl | rfl | rfl <;> rfl) (by omega) (by unfold maxLen; omega) (by omega) (by simp) _ rfl ?_; intro g' cap w5 hown hgrow hat hlt')
    have HC := Lib.hid (coll_one HLX.out _ hgrow (by simpa using hown))
    clear hown hgrow hat hlt' h1c
    go_ret
    obtain ⟨A9, c9, he, hl9⟩ := HC.out.done
    refine ⟨A9, c9, ?_, hl9, HC.out.old⟩
    exact congrArg Ending.returned he

set_option maxRecDepth 100000 in
set_option maxHeartbeats 8000000 in
theorem sorted_step (l : List V) (w : World) (A : Option Addr) (c : Nat) (h2 : 2 ≤ l.length) (hl : l.length ≤ 1000) (hok : Ok l) (h : LiesL w w.heap.size A c l)
    (ih : ∀ m : List V, m.length < l.length → Ok m → ∀ (W : World) (A : Option Addr) (c : Nat), LiesL W W.heap.size A c m → Calls Tryz.prog 26 #[.slice A m.length c] W (ListPost (sortV m) W)) :
    Calls Tryz.prog 26 #[.slice A l.length c] w (ListPost (sortV l) w) := by
  obtain ⟨iv0, hiv, hzv0, hzv1, hzv2⟩ := info_parts (P := Tryz.prog) (e := 35) (z := .agg zeroF) (size := 5) (bytes := 80) (by kernel_rfl)
  rcases h.2.2 with rfl | ⟨b, o, rfl, hbB, hf⟩
  · simp at h2
  obtain ⟨n, hn⟩ : ∃ n, n = l.length := ⟨_, rfl⟩
  have hh : n / 2 < n ∧ 1 ≤ n / 2 := by omega
  have h1 := fun W (hW : Below w.heap.size w W) => ih (l.take (n / 2)) (by rw [List.length_take]; omega) (hok.take _) W (some ⟨b, o, none⟩) c ((h.on hW).part _)
  have h3 := fun W (hW : Below w.heap.size w W) => ih (l.drop (n / 2)) (by rw [List.length_drop]; omega) (hok.drop _) W (some ⟨b, o + n / 2 * 5, none⟩) (c - n / 2) ((h.on hW).rest (by omega))
  rw [List.length_take, Nat.min_eq_left (show n / 2 ≤ l.length by omega)] at h1
  rw [List.length_drop, ← hn] at h3
  have H1 := Lib.hid h1
  have H3 := Lib.hid h3
  have HOK := Lib.hid hok
  have HN := Lib.hid hn
  have hnb : n ≤ 1000 := by omega
  have hcn : n ≤ c := by have := h.1; omega
  have hcm : c ≤ 9223372036854775807 := by have := h.2.1; unfold maxLen at this; omega
  have hn2 : ¬ ((n : Int) < 2) := by omega
  rw [← hn]
  obtain ⟨q, hq⟩ : ∃ q, q = n / 2 := ⟨_, rfl⟩
  have HQ := Lib.hid hq
  have hqi : (n : Int) / 2 = q := by omega
  clear h h1 h3 hok hn hl h2 hf ih hh
  rw [← hq] at H1 H3
  clear hq
  go_enter Tryz.func26, Tryz.ntmps26
  go_wp2_with fail
  have q0 : 0 ≤ (q : Int) := by omega
  have q1 : (q : Int) ≤ n := by have := HQ.out; omega
  have q2 : (q : Int) ≤ c := by omega
  have q3 : (q : Int) < c := by have := HQ.out; omega
  have q4 : q < c := by omega
  have t0 : (n : Int).tdiv 2 = (q : Int) := by rw [Int.tdiv_eq_ediv_of_nonneg (by omega)]; exact hqi
  have t1 : IntKind.i64.wrap (q : Int) = (q : Int) := IntWalk.i64_in _ (by omega)
  have t2 : (q : Int).toNat = q := by omega
  have q6 : ¬ q = c := by omega
  go_region_held3 (fun W => Hid (Below w.heap.size w W))
    (first
      | (exact Lib.hid (Below.refl _ w).drew)
      | (exact Lib.hid (below_on (Hid.out (by assumption)) hb2))
      | (exact Lib.hid (below_on (Hid.out (by assumption)) hb1)))
    (first
      | (go_at_call 26; ((with_reducible refine (H1.out _ ?_).mono ?_); (exact Hid.out (by assumption)); rintro e w1 ⟨A1, c1, rfl, hl1, hb1⟩))
      | (go_at_call 26; ((with_reducible refine (H3.out _ ?_).mono ?_); (exact Hid.out (by assumption)); rintro e w2 ⟨A2, c2, rfl, hl2, hb2⟩)))
  have HBW := Lib.hid (Hid.out (show Hid (Below w.heap.size w w2) by assumption))
  have HL1 := Lib.hid (hl1.on hb2)
  have HL2 := Lib.hid hl2
  clear hl1 hl2 hb1 hb2 t0 t1 t2 q0 q1 q2 q3 q4 q6 hqi H1 H3 hcn hcm hn2
  obtain ⟨a, ha⟩ : ∃ a, a = sortV (l.take q) := ⟨_, rfl⟩
  obtain ⟨z, hz⟩ : ∃ z, z = sortV (l.drop q) := ⟨_, rfl⟩
  have HM := Lib.hid (merged q ha hz HOK.out)
  have HAO := Lib.hid (show Ok a by rw [ha]; exact sortV_ok (HOK.out.take q))
  have HZO := Lib.hid (show Ok z by rw [hz]; exact sortV_ok (HOK.out.drop q))
  have hna : a.length + z.length = n := by rw [ha, hz, (sortV_perm _).length_eq, (sortV_perm _).length_eq, List.length_take, List.length_drop]; have := HN.out; have := HQ.out; omega
  rw [← ha] at HL1 ⊢
  rw [← hz] at HL2 ⊢
  obtain ⟨na, hna1⟩ : ∃ na, na = a.length := ⟨_, rfl⟩
  obtain ⟨nz, hnz1⟩ : ∃ nz, nz = z.length := ⟨_, rfl⟩
  have HNA := Lib.hid hna1
  have HNZ := Lib.hid hnz1
  rw [← hna1, ← hnz1] at hna ⊢
  have hnb1 : na + nz ≤ 1000 := by omega
  clear ha hz hna hna1 hnz1
  go_wp2_with fail
  go_loopw [5, 6, 7] (fun ov iv kv wr => ∃ (i k : Nat) (acc : List V) (css : List (List Value)), iv = .int .i64 i ∧ kv = .int .i64 k ∧ i ≤ na ∧ k ≤ nz ∧ Hid (acc.length = i + k ∧ acc ++ List.merge (a.drop i) (z.drop k) leV = sortV l) ∧ Hid (Coll w2 acc ov css wr)) (fun _ iv kv _ => na + nz - (intOf iv).toNat - (intOf kv).toNat)
  case atStart => exact ⟨0, 0, [], [], rfl, rfl, Nat.zero_le _, Nat.zero_le _, Lib.hid ⟨rfl, by simpa using HM.out⟩, Lib.hid (Coll.start w2)⟩
  case round =>
    obtain ⟨i, k, acc, css, rfl, rfl, hi, hk, HI, HC⟩ := hrel
    obtain ⟨RA, rc, hov⟩ := own_form HC.out.items
    subst hov
    have i0 : 0 ≤ (i : Int) := by omega
    have k0 : 0 ≤ (k : Int) := by omega
    -- ROUND
    by_cases hia : i < na
    · have i1 : (i : Int) < na := by omega
      obtain ⟨x, hxp⟩ : ∃ x, a[i]? = some x := ⟨_, List.getElem?_eq_getElem (by have := HNA.out; omega)⟩
      obtain ⟨bp, op, Bp, cp, Kp, dp, rfl, hbp, ⟨p0, p1, p2, p3, p4⟩, hlp⟩ := (HL1.out.low HC.out.old).elem hxp
      have HXp := Lib.hid hxp
      have HLp := Lib.hid hlp
      have gp : bp < wr.heap.size := by have := HC.out.old.size; omega
      clear hxp hlp
      by_cases hkz : k < nz
      · have k1 : (k : Int) < nz := by omega
        have k2 : ((k : Int) == (nz : Int)) = false := by simp; omega
        obtain ⟨y, hxs⟩ : ∃ y, z[k]? = some y := ⟨_, List.getElem?_eq_getElem (by have := HNZ.out; omega)⟩
        obtain ⟨bs, os, Bs, cs, Ks, ds, rfl, hbs, ⟨s0, s1, s2, s3, s4⟩, hls⟩ := (HL2.out.low HC.out.old).elem hxs
        have HXs := Lib.hid hxs
        have HLs := Lib.hid hls
        have gs : bs < wr.heap.size := by have := HC.out.old.size; omega
        clear hxs hls
        obtain ⟨r, hr⟩ : ∃ r, r = x.cmp y := ⟨_, rfl⟩
        have HR := Lib.hid hr
        have hord := fun W (hW : Below wr.heap.size wr W) => refOrder_any x.nodes x y W Bp Kp cp dp Bs Ks cs ds (Nat.le_refl _) (HAO.out x (List.mem_of_getElem? HXp.out)) (HZO.out y (List.mem_of_getElem? HXs.out)) (Lies.keep (fun b o hb => bcell hW b o (by have := HC.out.old.size; omega)) (by have := HC.out.old.size; have := hW.size; omega) _ HLp.out) (Lies.keep (fun b o hb => bcell hW b o (by have := HC.out.old.size; omega)) (by have := HC.out.old.size; have := hW.size; omega) _ HLs.out)
        rw [← hr] at hord
        have HO := Lib.hid hord
        obtain ⟨bb, hbb⟩ : ∃ bb, decide (r ≤ 0) = bb := ⟨_, rfl⟩
        have HBB := Lib.hid hbb
        clear hr hord
        go_wp2_with fail
        go_region_held3 (fun W => Hid (Below wr.heap.size wr W) ∧ (W.cell? ⟨bp, op + i * 5, none⟩ = some (.int .i64 x.kind) ∧ W.cell? ⟨bp, op + i * 5 + 1, none⟩ = some (.int .i64 x.int) ∧ W.cell? ⟨bp, op + i * 5 + 2, none⟩ = some (.string x.text) ∧ W.cell? ⟨bp, op + i * 5 + 3, none⟩ = some (.slice Bp x.items.length cp) ∧ W.cell? ⟨bp, op + i * 5 + 4, none⟩ = some (.slice Kp x.keys.length dp)) ∧ (W.cell? ⟨bs, os + k * 5, none⟩ = some (.int .i64 y.kind) ∧ W.cell? ⟨bs, os + k * 5 + 1, none⟩ = some (.int .i64 y.int) ∧ W.cell? ⟨bs, os + k * 5 + 2, none⟩ = some (.string y.text) ∧ W.cell? ⟨bs, os + k * 5 + 3, none⟩ = some (.slice Bs y.items.length cs) ∧ W.cell? ⟨bs, os + k * 5 + 4, none⟩ = some (.slice Ks y.keys.length ds)))
          (first
            | (exact ⟨Lib.hid (Below.drew (Below.refl _ _)), ⟨p0, p1, p2, p3, p4⟩, s0, s1, s2, s3, s4⟩)
            | (go_split_ands
               have hB := keepB (by assumption) hb3
               exact ⟨Lib.hid hB, ⟨(bcell hB _ _ gp).trans p0, (bcell hB _ _ gp).trans p1, (bcell hB _ _ gp).trans p2, (bcell hB _ _ gp).trans p3, (bcell hB _ _ gp).trans p4⟩, (bcell hB _ _ gs).trans s0, (bcell hB _ _ gs).trans s1, (bcell hB _ _ gs).trans s2, (bcell hB _ _ gs).trans s3, (bcell hB _ _ gs).trans s4⟩))
          (first
            | (go_at_call 43; refine (HO.out _ ?_).mono ?_; (go_split_ands; exact Hid.out (by assumption)); rintro e w3 ⟨rfl, hb3⟩))
        rename_i hS
        obtain ⟨hS1, ⟨p0', p1', p2', p3', p4'⟩, s0', s1', s2', s3', s4'⟩ := hS
        have HBS := Lib.hid hS1.out
        have HC3 := Lib.hid (HC.out.below HBS.out)
        have hal : acc.length ≤ 1000 := by have := HI.out.1; omega
        clear hS1 hb3 p0 p1 p2 p3 p4 s0 s1 s2 s3 s4 HO
        cases bb
        · have HRN := Lib.hid (show ¬ x.cmp y ≤ 0 by rw [← HR.out]; simpa using HBB.out)
          go_wp2_with (at_builtin; refine wpList_append_lies _ rfl _ _ 22 rfl w2.heap.size 35 iv0 (.agg zeroF) 5 80 Tryz.underlying22 hiv hzv0 hzv1 hzv2 rfl (by decide) (.slice RA acc.length rc) acc.length css.flatten rfl (World.ownsRow.alloc HC3.out.items _) ⟨(w3).heap.size, 0, none⟩ 1 1 (fieldsL y Bs cs Ks ds) rfl rfl (World.news_of_block (fr := (0, 0)) (t := 35) (cs := #[.int .i64 y.kind, .int .i64 y.int, .string y.text, .slice Bs y.items.length cs, .slice Ks y.keys.length ds]) (BlockIs.new (w3) _ _)) (by intro u hu; simp [fieldsL] at hu; rcases hu with rfl | rfl | rfl | rfl | rfl <;> rfl) (by omega) (by unfold maxLen; omega) (by omega) (by have := HC3.out.old.size; simp; omega) _ rfl ?_; intro g' cap w5 hown hgrow hat hlt')
          have HCN := Lib.hid (HC3.out.push (Lies.inn _ (Lies.keep (w' := w3) (fun b o hb => bcell HBS.out b o (by have := HC.out.old.size; omega)) (Nat.le_refl _) _ HLs.out)) _ hgrow hown)
          clear hown hgrow hat hlt' p0' p1' p2' p3' p4' s0' s1' s2' s3' s4'
          go_wp2_with fail
          go_roundw
          case rel => exact ⟨i, k + 1, _, _, rfl, by go_num, by omega, by omega, Lib.hid ⟨by have := HI.out.1; simp; omega, merge_right HI.out.2 HXs.out (.inr ⟨x, HXp.out, HRN.out⟩)⟩, HCN⟩
          case measure => simp [intOf]; omega
        · have HRY := Lib.hid (show x.cmp y ≤ 0 by rw [← HR.out]; simpa using HBB.out)
          go_wp2_with (at_builtin; refine wpList_append_lies _ rfl _ _ 22 rfl w2.heap.size 35 iv0 (.agg zeroF) 5 80 Tryz.underlying22 hiv hzv0 hzv1 hzv2 rfl (by decide) (.slice RA acc.length rc) acc.length css.flatten rfl (World.ownsRow.alloc HC3.out.items _) ⟨(w3).heap.size, 0, none⟩ 1 1 (fieldsL x Bp cp Kp dp) rfl rfl (World.news_of_block (fr := (0, 0)) (t := 35) (cs := #[.int .i64 x.kind, .int .i64 x.int, .string x.text, .slice Bp x.items.length cp, .slice Kp x.keys.length dp]) (BlockIs.new (w3) _ _)) (by intro u hu; simp [fieldsL] at hu; rcases hu with rfl | rfl | rfl | rfl | rfl <;> rfl) (by omega) (by unfold maxLen; omega) (by omega) (by have := HC3.out.old.size; simp; omega) _ rfl ?_; intro g' cap w5 hown hgrow hat hlt')
          have HCN := Lib.hid (HC3.out.push (Lies.inn _ (Lies.keep (w' := w3) (fun b o hb => bcell HBS.out b o (by have := HC.out.old.size; omega)) (Nat.le_refl _) _ HLp.out)) _ hgrow hown)
          clear hown hgrow hat hlt' p0' p1' p2' p3' p4' s0' s1' s2' s3' s4'
          go_wp2_with fail
          go_roundw
          case rel => exact ⟨i + 1, k, _, _, by go_num, rfl, by omega, by omega, Lib.hid ⟨by have := HI.out.1; simp; omega, merge_left HI.out.2 HXp.out (.inr ⟨y, HXs.out, HRY.out⟩)⟩, HCN⟩
          case measure => simp [intOf]; omega
      · have hkn : k = nz := by omega
        have HKN := Lib.hid hkn
        have k1 : ¬ ((k : Int) < nz) := by omega
        have k2 : ((k : Int) == (nz : Int)) = true := by simp; omega
        have hal : acc.length ≤ 1000 := by have := HI.out.1; omega
        clear hkn
        go_wp2_with fail
        go_quiet (fail)
        have HBS := Lib.hid (below_drewN (Below.refl wr.heap.size wr) nq)
        have HC3 := Lib.hid (HC.out.below HBS.out)
        replace p0 : (wr.drewN nq).cell? _ = _ := p0
        replace p1 : (wr.drewN nq).cell? _ = _ := p1
        replace p2 : (wr.drewN nq).cell? _ = _ := p2
        replace p3 : (wr.drewN nq).cell? _ = _ := p3
        replace p4 : (wr.drewN nq).cell? _ = _ := p4
        generalize wr.drewN nq = w3 at HBS HC3 p0 p1 p2 p3 p4 ⊢
        go_wp2_with (at_builtin; refine wpList_append_lies _ rfl _ _ 22 rfl w2.heap.size 35 iv0 (.agg zeroF) 5 80 Tryz.underlying22 hiv hzv0 hzv1 hzv2 rfl (by decide) (.slice RA acc.length rc) acc.length css.flatten rfl (World.ownsRow.alloc HC3.out.items _) ⟨(w3).heap.size, 0, none⟩ 1 1 (fieldsL x Bp cp Kp dp) rfl rfl (World.news_of_block (fr := (0, 0)) (t := 35) (cs := #[.int .i64 x.kind, .int .i64 x.int, .string x.text, .slice Bp x.items.length cp, .slice Kp x.keys.length dp]) (BlockIs.new (w3) _ _)) (by intro u hu; simp [fieldsL] at hu; rcases hu with rfl | rfl | rfl | rfl | rfl <;> rfl) (by omega) (by unfold maxLen; omega) (by omega) (by have := HC3.out.old.size; simp; omega) _ rfl ?_; intro g' cap w5 hown hgrow hat hlt')
        have HCN := Lib.hid (HC3.out.push (Lies.inn _ (Lies.keep (w' := w3) (fun b o hb => bcell HBS.out b o (by have := HC.out.old.size; omega)) (Nat.le_refl _) _ HLp.out)) _ hgrow hown)
        clear hown hgrow hat hlt' p0 p1 p2 p3 p4
        go_wp2_with fail
        go_roundw
        case rel => exact ⟨i + 1, k, _, _, by go_num, rfl, by omega, by omega, Lib.hid ⟨by have := HI.out.1; simp; omega, merge_left HI.out.2 HXp.out (.inl (by have := HNZ.out; have := HKN.out; omega))⟩, HCN⟩
        case measure => simp [intOf]; omega
    · have i1 : ¬ ((i : Int) < na) := by omega
      by_cases hkz : k < nz
      · have k1 : (k : Int) < nz := by omega
        have k2 : ((k : Int) == (nz : Int)) = false := by simp; omega
        obtain ⟨y, hxs⟩ : ∃ y, z[k]? = some y := ⟨_, List.getElem?_eq_getElem (by have := HNZ.out; omega)⟩
        obtain ⟨bs, os, Bs, cs, Ks, ds, rfl, hbs, ⟨s0, s1, s2, s3, s4⟩, hls⟩ := (HL2.out.low HC.out.old).elem hxs
        have HXs := Lib.hid hxs
        have HLs := Lib.hid hls
        have gs : bs < wr.heap.size := by have := HC.out.old.size; omega
        clear hxs hls
        have hal : acc.length ≤ 1000 := by have := HI.out.1; omega
        go_wp2_with fail
        go_quiet (fail)
        have HBS := Lib.hid (below_drewN (Below.refl wr.heap.size wr) nq)
        have HC3 := Lib.hid (HC.out.below HBS.out)
        replace s0 : (wr.drewN nq).cell? _ = _ := s0
        replace s1 : (wr.drewN nq).cell? _ = _ := s1
        replace s2 : (wr.drewN nq).cell? _ = _ := s2
        replace s3 : (wr.drewN nq).cell? _ = _ := s3
        replace s4 : (wr.drewN nq).cell? _ = _ := s4
        generalize wr.drewN nq = w3 at HBS HC3 s0 s1 s2 s3 s4 ⊢
        go_wp2_with (at_builtin; refine wpList_append_lies _ rfl _ _ 22 rfl w2.heap.size 35 iv0 (.agg zeroF) 5 80 Tryz.underlying22 hiv hzv0 hzv1 hzv2 rfl (by decide) (.slice RA acc.length rc) acc.length css.flatten rfl (World.ownsRow.alloc HC3.out.items _) ⟨(w3).heap.size, 0, none⟩ 1 1 (fieldsL y Bs cs Ks ds) rfl rfl (World.news_of_block (fr := (0, 0)) (t := 35) (cs := #[.int .i64 y.kind, .int .i64 y.int, .string y.text, .slice Bs y.items.length cs, .slice Ks y.keys.length ds]) (BlockIs.new (w3) _ _)) (by intro u hu; simp [fieldsL] at hu; rcases hu with rfl | rfl | rfl | rfl | rfl <;> rfl) (by omega) (by unfold maxLen; omega) (by omega) (by have := HC3.out.old.size; simp; omega) _ rfl ?_; intro g' cap w5 hown hgrow hat hlt')
        have HCN := Lib.hid (HC3.out.push (Lies.inn _ (Lies.keep (w' := w3) (fun b o hb => bcell HBS.out b o (by have := HC.out.old.size; omega)) (Nat.le_refl _) _ HLs.out)) _ hgrow hown)
        clear hown hgrow hat hlt' s0 s1 s2 s3 s4
        go_wp2_with fail
        go_roundw
        case rel => exact ⟨i, k + 1, _, _, rfl, by go_num, by omega, by omega, Lib.hid ⟨by have := HI.out.1; simp; omega, merge_right HI.out.2 HXs.out (.inl (by have := HNA.out; omega))⟩, HCN⟩
        case measure => simp [intOf]; omega
      -- END
      · have k1 : ¬ ((k : Int) < nz) := by omega
        go_wp2_with fail
        go_ret
        have he := merge_over HI.out.2 (by have := HNA.out; omega) (by have := HNZ.out; omega)
        obtain ⟨A9, c9, he9, hl9⟩ := HC.out.done
        rw [he] at hl9
        exact ⟨A9, c9, by rw [← he]; exact congrArg Ending.returned he9, hl9, below_on HBW.out HC.out.old⟩
end Go.Proofs.YtfiiaeomlmckfaaGreatDoor

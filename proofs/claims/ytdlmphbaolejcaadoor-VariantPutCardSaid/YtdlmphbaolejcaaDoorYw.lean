/- Whether a path begins with another, walked. -/
import Derived.Test.YtdlmphbaolejcaaDoorYv
namespace Go.Proofs.YtdlmphbaolejcaaDoor
open Go.RowKit

theorem StepsFrom.take {w : World} {b : Nat} : ∀ (m : Nat) {l : List Stp} {o : Nat}, StepsFrom w l b o → StepsFrom w (l.take m) b o
  | 0, _, _, _ => trivial
  | _ + 1, [], _, _ => trivial
  | m + 1, _ :: _, _, h => ⟨h.1, h.2.1, h.2.2.1, StepsFrom.take m h.2.2.2⟩
theorem PLies.take {w : World} {B c : Nat} {A : Option Addr} {p : List Stp} (h : PLies w B A c p) (m : Nat) : PLies w B A c (p.take m) := by
  obtain ⟨h1, h2, h3⟩ := h
  refine ⟨by rw [List.length_take]; omega, h2, ?_⟩
  rcases h3 with rfl | ⟨b, o, hA, hlt, hf⟩
  · exact .inl (by simp)
  · exact .inr ⟨b, o, hA, hlt, hf.take m⟩
theorem refPathValid_ok (p : List Stp) (w : World) (A : Option Addr) (c : Nat) (h : PLies w w.heap.size A c p) {r : Bool} (hr : pathB p = r) :
    Calls Tryd.prog 24 #[.slice A p.length c] w fun e w' => e = .returned (.bool r) ∧ Below w.heap.size w w' := by
  subst hr
  exact (refPathValid_any p w A c h).mono (by rintro e w' ⟨rfl, rfl⟩; exact ⟨rfl, Below.refl _ _⟩)
set_option maxRecDepth 100000 in
set_option maxHeartbeats 2000000 in
theorem begins_any (p q : List Stp) (w : World) (A A' : Option Addr) (c c' : Nat) (hp : PLies w w.heap.size A c p) (hq : PLies w w.heap.size A' c' q) :
    Calls Tryd.prog 25 #[.slice A p.length c, .slice A' q.length c'] w fun e w' => ∃ b, e = .returned (.bool b) ∧ (q <+: p → b = true) ∧ Below w.heap.size w w' := by
  obtain ⟨n, hn⟩ : ∃ n, n = p.length := ⟨_, rfl⟩
  obtain ⟨m, hm⟩ : ∃ n, n = q.length := ⟨_, rfl⟩
  have hnc : n ≤ c := by rw [hn]; exact hp.1
  have hcm : c ≤ maxLen := hp.2.1
  unfold maxLen at hcm
  have HPRE := Lib.hid (show q <+: p → m ≤ n from fun h => by rw [hn, hm]; exact h.length_le)
  have HCMP := Lib.hid fun (h : m ≤ n) W (hW : Below w.heap.size w W) => show Calls Tryd.prog 49 #[.slice A m c, .slice A' m c'] W fun e w' => e = .returned (.int .i64 (refCmpP (p.take m) q)) ∧ Below W.heap.size W w' from by
    have := refPathCompare_any (p.take m) q W A A' c c' ((hp.take m).on (w := w) (w' := W) hW) (hq.on hW)
    rw [← hm, show (p.take m).length = m by rw [List.length_take]; omega] at this
    exact this
  have HZ := Lib.hid (show q <+: p → refCmpP (p.take m) q = 0 from fun h => by
    rw [hm, show p.take q.length = q from (List.prefix_iff_eq_take.1 h).symm]
    exact refCmp_same q)
  obtain ⟨R, hR⟩ : ∃ R, R = refCmpP (p.take m) q := ⟨_, rfl⟩
  rw [← hR] at HCMP HZ
  rw [← hn, ← hm]
  clear hn hm hR hp hq
  by_cases hmn : m ≤ n
  · have hmn' : (m : Int) ≤ n := by omega
    have hmc : (m : Int) ≤ c := by omega
    go_enter Tryd.func25, Tryd.ntmps25
    go_wp2_with fail
    refine (HCMP.out hmn _ (Below.refl _ _)).mono ?_
    rintro e w1 ⟨rfl, h1⟩
    have HB1 := Lib.hid h1
    clear h1
    go_wp2_with fail
    go_ret
    exact ⟨_, rfl, fun h => by rw [HZ.out h]; rfl, HB1.out⟩
  · have hmn' : ¬ (m : Int) ≤ n := by omega
    go_enter Tryd.func25, Tryd.ntmps25
    go_wp2_with fail
    refine bodyPost_ret (v := .bool false) (by simp [results, Tryd.results25, go_sem]) rfl ?_
    exact .inl ⟨rfl, fun h => hmn (HPRE.out h), Below.refl _ _⟩
end Go.Proofs.YtdlmphbaolejcaaDoor

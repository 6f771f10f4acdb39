/- Reading: numbers. -/
import Derived.Test.YtchadlbhdcpojaaDoorWi
import Derived.Test.YtchadlbhdcpojaaDoorWa
import Derived.Test.YtchadlbhdcpojaaDoorRg
namespace Go.Proofs.YtchadlbhdcpojaaDoor
open Go.RowKit

theorem dg_end {s : ByteArray} {j : Nat} (h : ¬ j < s.size) (m c : Nat) : digsP (sfx s j) m c = some (m, c, sfx s j) := by rw [sfx_nil h, digsP]
theorem dg_other {s : ByteArray} {j : Nat} (h : j < s.size) (hc : digitB s[j] = false) (m c : Nat) : digsP (sfx s j) m c = some (m, c, sfx s j) := by
  rw [sfx_cons h, digsP, if_neg (by rw [show digB s[j] = digitB s[j] from rfl, hc]; simp)]
theorem dg_digit {s : ByteArray} {j : Nat} (h : j < s.size) (hc : digitB s[j] = true) (m c : Nat) (hm : 10 * m + (s[j].toNat - 48) ≤ 1000000000000) : digsP (sfx s j) m c = digsP (sfx s (j + 1)) (10 * m + (s[j].toNat - 48)) (c + 1) := by
  rw [sfx_cons h, digsP, if_pos (show digB s[j] = true from hc), if_pos hm]
theorem dg_big {s : ByteArray} {j : Nat} (h : j < s.size) (hc : digitB s[j] = true) (m c : Nat) (hm : ¬ 10 * m + (s[j].toNat - 48) ≤ 1000000000000) : digsP (sfx s j) m c = none := by
  rw [sfx_cons h, digsP, if_pos (show digB s[j] = true from hc), if_neg hm]

theorem u8sub {c : UInt8} (h : 48 ≤ c.toNat) : IntKind.u8.wrap ((c.toNat : Int) - 48) = ((c.toNat - 48 : Nat) : Int) := by
  rw [IntKind.wrap_u8]; have := c.toNat_lt; omega

/-- What number leaves, behind its sign. -/
def numR (neg : Bool) (l : List UInt8) (n : Nat) : Option (V × List UInt8 × Nat) := (magP neg l).map fun r => (leaf 2 r.1 ⟨#[]⟩, r.2, n)

theorem num_none0 {l r : List UInt8} {m c : Nat} (h : digsP l 0 0 = some (m, c, r)) (hc : c = 0) (neg : Bool) (n : Nat) : numR neg l n = none := by
  simp [numR, magP, h, hc]
theorem num_big {l : List UInt8} (h : digsP l 0 0 = none) (neg : Bool) (n : Nat) : numR neg l n = none := by
  simp [numR, magP, h]
theorem num_ok {l r : List UInt8} {m c : Nat} (h : digsP l 0 0 = some (m, c, r)) (hc : ¬ c = 0) (neg : Bool) (hh : l.head? = some 48 → c = 1 ∧ neg = false) (n : Nat) : numR neg l n = some (leaf 2 (if neg then -(m : Int) else m) ⟨#[]⟩, r, n) := by
  unfold numR magP
  rw [h]
  simp only [hc, if_false]
  rw [if_neg (fun hx => hx.2 (hh hx.1))]
  rfl
theorem num_bad {l r : List UInt8} {m c : Nat} (h : digsP l 0 0 = some (m, c, r)) (hc : ¬ c = 0) (neg : Bool) (hh : l.head? = some 48) (hb : ¬ (c = 1 ∧ neg = false)) (n : Nat) : numR neg l n = none := by
  unfold numR magP
  rw [h]
  simp only [hc, if_false]
  rw [if_pos ⟨hh, hb⟩]
  rfl


theorem sfx_inj {s : ByteArray} {k k' : Nat} (hk : k ≤ s.size) (hk' : k' ≤ s.size) (h : sfx s k = sfx s k') : k = k' := by
  have := congrArg List.length h
  rw [sfx_length, sfx_length] at this
  omega
/-- A number. -/
def numberP (l : List UInt8) (n : Nat) : Option (V × List UInt8 × Nat) := numR (takesP 45 (skipP l)) (tailP 45 (skipP l)) n
theorem skipP_sfx (s : ByteArray) (k : Nat) : ∃ k', sfx s k' = skipP (sfx s k) ∧ (k ≤ s.size → k' ≤ s.size) := by
  by_cases h : k < s.size
  · by_cases hc : s[k].toNat = 32
    · obtain ⟨k', h1, h2⟩ := skipP_sfx s (k + 1)
      exact ⟨k', h1.trans (sk_blank h hc).symm, fun _ => h2 (by omega)⟩
    · exact ⟨k, (sk_other h hc).symm, id⟩
  · exact ⟨k, (sk_end h).symm, id⟩
termination_by s.size - k
theorem tailP_sfx (c : UInt8) (s : ByteArray) (k : Nat) : ∃ k', sfx s k' = tailP c (sfx s k) ∧ (k ≤ s.size → k' ≤ s.size) := by
  by_cases h : k < s.size
  · by_cases hc : s[k] = c
    · exact ⟨k + 1, by rw [sfx_cons h, tailP, if_pos hc], fun _ => by omega⟩
    · exact ⟨k, by rw [sfx_cons h, tailP, if_neg hc], id⟩
  · exact ⟨k, by rw [sfx_nil h, tailP], id⟩

end Go.Proofs.YtchadlbhdcpojaaDoor
/- Reading: texts in quotes. -/
namespace Go.Proofs.YtchadlbhdcpojaaDoor
open Go.RowKit

/-- A row of bytes of the call's own. -/
def Own (B : Nat) (v : Value) (l : List UInt8) (w : World) : Prop := w.ownsRow B 5 1 v l.length (Lib.byteCells l)
theorem Own.nil (B : Nat) (w : World) : Own B (.slice none 0 0) [] w := World.ownsRow_nil _ _ _ _
theorem own_string {B : Nat} {v : Value} {l : List UInt8} {w : World} (h : Own B v l w) : (convert 89 9 v).run Tryd.prog w = .ok (.string ⟨l.toArray⟩) w := by
  have h' := h
  obtain ⟨hl, h | ⟨g, cap, cur, hv, hB, hc, hn, hcap, hcs, ht⟩⟩ := h
  · obtain ⟨rfl, h0⟩ := h
    have : l = [] := List.length_eq_zero_iff.1 h0
    subst this
    rw [run_convert_bytes_string w _ _ 5 none 0 0 Tryd.underlying89 Tryd.underlying5 Tryd.underlying9]
    rfl
  · subst hv
    refine run_convert_bytes_back w _ _ 5 ⟨g, 0, none⟩ cap l Tryd.underlying89 Tryd.underlying5 Tryd.underlying9 ?_
    intro j hj
    exact World.ownsRow.cells h' rfl j _ (by simp [Lib.byteCells, hj])
theorem Own.form {B : Nat} {v : Value} {l : List UInt8} {w : World} (h : Own B v l w) : ∃ A c, v = .slice A l.length c := by
  obtain ⟨hl, h | ⟨g, cap, cur, hv, hB, hc, hn, hcap, hcs, ht⟩⟩ := h
  · obtain ⟨rfl, h0⟩ := h
    exact ⟨none, 0, by rw [h0]⟩
  · exact ⟨_, _, hv⟩

theorem tx_plain {c : UInt8} {r acc : List UInt8} (h1 : ¬ c.toNat = 34) (h2 : ¬ c.toNat = 92) (hv : visB c = true) (hl : acc.length < 100) : textP (c :: r) acc = textP r (acc ++ [c]) := by
  rw [textP_cons, if_neg (fun e => h1 (by rw [e]; rfl)), if_neg (fun e => h2 (by rw [e]; rfl)), if_pos ⟨hv, hl⟩]
theorem tx_bad {c : UInt8} {r acc : List UInt8} (h1 : ¬ c.toNat = 34) (h2 : ¬ c.toNat = 92) (hv : ¬ (visB c = true ∧ acc.length < 100)) : textP (c :: r) acc = none := by
  rw [textP_cons, if_neg (fun e => h1 (by rw [e]; rfl)), if_neg (fun e => h2 (by rw [e]; rfl)), if_neg hv]
theorem tx_end {c : UInt8} {r acc : List UInt8} (h1 : c.toNat = 34) : textP (c :: r) acc = some (acc, r) := by
  rw [textP_cons, if_pos (UInt8.toNat_inj.1 h1)]
theorem tx_esc {c x : UInt8} {r acc : List UInt8} (h1 : c.toNat = 92) (hx : x.toNat = 34 ∨ x.toNat = 92) (hl : acc.length < 100) : textP (c :: x :: r) acc = textP r (acc ++ [x]) := by
  rw [UInt8.toNat_inj.1 (show c.toNat = (92 : UInt8).toNat from h1), textP_cons, if_neg (by decide), if_pos rfl]
  show (if _ then _ else _) = _
  rw [if_pos ⟨hx.imp (fun e => UInt8.toNat_inj.1 e) (fun e => UInt8.toNat_inj.1 e), hl⟩]
theorem tx_esc0 {c : UInt8} {acc : List UInt8} (h1 : c.toNat = 92) : textP [c] acc = none := by
  rw [UInt8.toNat_inj.1 (show c.toNat = (92 : UInt8).toNat from h1), textP_cons, if_neg (by decide), if_pos rfl]
theorem tx_escbad {c x : UInt8} {r acc : List UInt8} (h1 : c.toNat = 92) (hx : ¬ ((x.toNat = 34 ∨ x.toNat = 92) ∧ acc.length < 100)) : textP (c :: x :: r) acc = none := by
  rw [UInt8.toNat_inj.1 (show c.toNat = (92 : UInt8).toNat from h1), textP_cons, if_neg (by decide), if_pos rfl]
  show (if _ then _ else _) = _
  rw [if_neg (fun e => hx ⟨e.1.imp (fun e => by rw [e]; rfl) (fun e => by rw [e]; rfl), e.2⟩)]

theorem Own.push {B : Nat} {v : Value} {acc : List UInt8} {x : UInt8} {w : World} (h : w.ownsRow B 5 1 v (acc.length + 1) (Lib.byteCells acc ++ [.int .u8 x.toNat])) : Own B v (acc ++ [x]) w := by
  simpa [Own, Lib.byteCells] using h
theorem vis_esc {x : UInt8} (h : x.toNat = 34 ∨ x.toNat = 92) : visB x = true := by unfold visB; simp; omega

end Go.Proofs.YtchadlbhdcpojaaDoor
/- Reading: a series. -/
namespace Go.Proofs.YtchadlbhdcpojaaDoor
open Go.RowKit

end Go.Proofs.YtchadlbhdcpojaaDoor

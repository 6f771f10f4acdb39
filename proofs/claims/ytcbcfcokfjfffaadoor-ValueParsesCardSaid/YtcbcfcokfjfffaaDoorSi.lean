/- The specification's reader: an entry of an object, and the ways on from it. -/
import Derived.Test.YtcbcfcokfjfffaaDoorSg
namespace Go.Proofs.YtcbcfcokfjfffaaDoor
open Go.RowKit

theorem LiesIn.keys_cells {P : Nat → Prop} {w : World} {kd i : Int} {t : ByteArray} {l : List V} {ks : List ByteArray} {A K : Option Addr} {c d : Nat} (h : LiesIn P w (.mk kd i t l ks) A c K d) :
    ks = [] ∨ ∃ b o, K = some ⟨b, o, none⟩ ∧ ∀ j v, ks[j]? = some v → w.cell? ⟨b, o + j, none⟩ = some (.string v) := by
  rw [LiesIn] at h
  rcases h.2.2.2.1.2.2 with h | ⟨b, o, hK, _, hf⟩
  · exact .inl h
  · exact .inr ⟨b, o, hK, fun j v hv => (hf.at_ hv).1⟩
theorem RWent.as {g k : Nat} {s : ByteArray} {bl bd b : Bool} {w w' : World} (h : RWent g s k bl bd w w') (e : bd = b) : RWent g s k bl b w w' := e ▸ h
/-- A value that was read behind a block. -/
def XIn (G : Nat) (W : World) (x : V) (A : Option Addr) (c : Nat) (K : Option Addr) (d : Nat) : Prop := LiesIn (fun b => G + 1 ≤ b ∧ b < W.heap.size) W x A c K d
theorem XIn.step {G g : Nat} {W W' : World} {x : V} {A K : Option Addr} {c d : Nat} (h : XIn G W x A c K d) (hg : g ≤ G) (hw : W.grownBy W' (some g)) : XIn G W' x A c K d :=
  LiesIn.keep (fun b o hb => hw.cell_far ⟨b, o, none⟩ hb.2 (by have := hb.1; simp; omega)) (fun b hb => ⟨hb.1, by have := hb.2; have := hw.size; omega⟩) x h
theorem XIn.new {G : Nat} {W W' : World} {x : V} {A K : Option Addr} {c d : Nat} (h : LiesIn (Fresh W W') W' x A c K d) (hg : G < W.heap.size) : XIn G W' x A c K d :=
  LiesIn.keep (fun _ _ _ => rfl) (fun b hb => ⟨by have := hb.1; omega, hb.2⟩) x h
theorem insK_len (st : List ByteArray × List V) (h : st.1.length = st.2.length) (k : ByteArray) (x : V) : (insK st k x).2.length = st.2.length + 1 := by
  have := posK_le k st.1
  simp only [insK, List.length_append, List.length_take, List.length_cons, List.length_drop]
  omega
section
variable {f : List UInt8 → Option (V × List UInt8)} {bl bd2 bd4 : Bool} {F : Nat} {st : List ByteArray × List V} {l l1 l2 l3 l4 : List UInt8} {R : Option ((List ByteArray × List V) × List UInt8)} {x : V} {t : ByteArray}
/-- Where the reading goes on from an entry. -/
def EntryWays (f : List UInt8 → Option (V × List UInt8)) (bl bad : Bool) (st st2 : List ByteArray × List V) (l l4 : List UInt8) (R : Option ((List ByteArray × List V) × List UInt8)) : Prop :=
  (bad = true ∧ R = none) ∨ (bad = false ∧ l4.length < l.length ∧ st2.2.length = st.2.length + 1 ∧
      (takesP 125 (skipB bl l4) = true → R = some (st2, tailP 125 (skipB bl l4))) ∧
      (takesP 125 (skipB bl l4) = false → takesP 44 (skipB bl l4) = false → R = none) ∧
      (takesP 125 (skipB bl l4) = false → takesP 44 (skipB bl l4) = true → ∃ F', entriesR f bl F' st2 (tailP 44 (skipB bl l4)) = R ∧ (tailP 44 (skipB bl l4)).length < F'))
theorem entry_ways (h : entriesR f bl F st l = R) (hF : l.length < F) (h1 : takesP 34 (skipB bl l) = true) (e1 : l1 = tailP 34 (skipB bl l)) (h3 : takesP 58 (skipB bl l2) = true) (e3 : l3 = tailP 58 (skipB bl l2))
    (HT : (bd2 = true ∧ strR l1 [] = none) ∨ (bd2 = false ∧ ∃ T : List UInt8, t = ⟨T.toArray⟩ ∧ strR l1 [] = some (T, l2)))
    (HX : (bd4 = true ∧ (bd2 = true ∨ f l3 = none)) ∨ (bd4 = false ∧ bd2 = false ∧ f l3 = some (x, l4)))
    (he : Eats f) (hl : st.1.length = st.2.length) :
    EntryWays f bl (bd4 || hasK t st.1) st (withK t x false st.1 st.2) l l4 R := by
  rcases HX with ⟨rfl, hn⟩ | ⟨rfl, rfl, hn⟩
  · refine .inl ⟨rfl, ?_⟩
    rcases HT with ⟨-, ht⟩ | ⟨rfl, T, rfl, ht⟩
    · exact er_text h hF h1 (by rw [← e1]; exact ht)
    · rcases hn with hn | hn
      · cases hn
      · exact er_value h hF h1 (by rw [← e1]; exact ht) h3 (by rw [← e3]; exact hn)
  · rcases HT with ⟨e, -⟩ | ⟨-, T, rfl, ht⟩
    · cases e
    · have hx := he _ _ _ hn
      have hs := (strR_pre _ (Nat.le_refl _) ht).2
      rw [e1] at ht hs
      rw [e3] at hn hx
      cases hh : hasK ⟨T.toArray⟩ st.1
      · have hm : ¬ (⟨T.toArray⟩ : ByteArray) ∈ st.1 := fun e => by rw [(hasK_iff _ _).2 e] at hh; cases hh
        have hw : withK ⟨T.toArray⟩ x false st.1 st.2 = insK st ⟨T.toArray⟩ x := withK_ins ⟨T.toArray⟩ x st.1 st.2 hl hm
        have q1 := tailP_less h1
        have q2 := skipB_len bl l
        have q3 := tailP_len 58 (skipB bl l2)
        have q4 := skipB_len bl l2
        have q5 := tailP_len 44 (skipB bl l4)
        have q6 := skipB_len bl l4
        have hlt : l4.length < l.length := by omega
        rw [hw]
        refine .inr ⟨rfl, hlt, insK_len st hl _ _, fun h6 => er_end h hF h1 ht h3 hn hh h6, fun h6 h7 => er_comma h hF h1 ht h3 hn hh h6 h7, fun h6 h7 => er_more h hF h1 ht h3 hn hh h6 h7 (by omega)⟩
      · exact .inl ⟨rfl, er_twice h hF h1 ht h3 hn hh⟩
end
end Go.Proofs.YtcbcfcokfjfffaaDoor

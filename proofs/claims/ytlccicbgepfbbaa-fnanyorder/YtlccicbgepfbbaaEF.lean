/- The line in plain numbers. -/
import Derived.Test.YtlccicbgepfbbaaEE
import Derived.Test.YtlccicbgepfbbaaCK
import Derived.Test.YtlccicbgepfbbaaWJ
import Derived.Test.YtlccicbgepfbbaaCA
namespace Go.Proofs.Ytlccicbgepfbbaa
open Go.RowKit

/-- How often b stands among the first k. -/
def cnt (y : Nat → Int) : Nat → Nat → Nat
  | 0, _ => 0
  | k + 1, b => cnt y k b + if y k = (b : Int) then 1 else 0

theorem wend_step {n m L : Nat} {ss : Nat → Wr} {r : Nat → Nat} (h : Wend n m ss r 1 L) {k : Nat} (hk : k < L) :
    ∃ b, b < n ∧ (wst n m ss r 1 k).1 b ≠ 0 ∧ Can m ss (wst n m ss r 1 k).2 (b : Int) ∧ wst n m ss r 1 (k + 1) = (dec (wst n m ss r 1 k).1 b, frd ss (b : Int) (wst n m ss r 1 k).2) ∧ wvf n m ss 1 (wst n m ss r 1 k) 0 = b := by
  have h1 := (h.1 k hk).2
  have h2 := wv1_len h1
  have h3 : wvf n m ss 1 (wst n m ss r 1 k) 0 < n ∧ _ ∧ _ := wvl_mem (j := 0) (by omega)
  obtain ⟨b, hb⟩ : ∃ b, wvl n m ss 1 (wst n m ss r 1 k) = [b] := by
    match hl : wvl n m ss 1 (wst n m ss r 1 k), h2 with
    | [b], _ => exact ⟨b, rfl⟩
  obtain ⟨h4, h5⟩ := wst1_next hb
  rw [h5] at h3
  exact ⟨b, h3.1, h3.2.1, h3.2.2, h4, h5⟩

theorem wend_way {n m L : Nat} {ss : Nat → Wr} {r : Nat → Nat} (hw : Wok (n : Int) m ss) (h : Wend n m ss r 1 L) : ∀ k, k ≤ L →
    fh ss (fun k => (wvf n m ss 1 (wst n m ss r 1 k) 0 : Int)) k = (wst n m ss r 1 k).2 ∧ (∀ b, b < n → (wst n m ss r 1 k).1 b + cnt (fun k => (wvf n m ss 1 (wst n m ss r 1 k) 0 : Int)) k b = r b) ∧ Rch n m ss r (wst n m ss r 1 k)
  | 0, _ => ⟨rfl, fun b hb => by show (if b < n then r b else 0) + 0 = r b; rw [if_pos hb]; rfl, rch_0 hw 1⟩
  | k + 1, hk => by
    obtain ⟨i1, i2, i3⟩ := wend_way hw h k (by omega)
    obtain ⟨b, hb, h0, hc, he, hf⟩ := wend_step h (k := k) (by omega)
    refine ⟨?_, fun c hcn => ?_, ?_⟩
    · show frd ss (wvf n m ss 1 (wst n m ss r 1 k) 0 : Int) (fh ss _ k) = _
      rw [i1, he, hf]
    · have i2c := i2 c hcn
      show (wst n m ss r 1 (k + 1)).1 c + (cnt _ k c + if (wvf n m ss 1 (wst n m ss r 1 k) 0 : Int) = (c : Int) then 1 else 0) = r c
      rw [hf, he]
      show dec (wst n m ss r 1 k).1 b c + _ = _
      unfold dec
      by_cases e : c = b
      · subst e
        rw [if_pos rfl, if_pos rfl]
        omega
      · rw [if_neg e, if_neg (by omega)]
        omega
    · rw [he]
      exact rch_step hw i3 hb h0

theorem wend_fok {n m L : Nat} {ss : Nat → Wr} {r : Nat → Nat} (hw : Wok (n : Int) m ss) (h : Wend n m ss r 1 L) (q : Nat) (hq : q < L) : Fok (n : Int) m ss (fun k => (wvf n m ss 1 (wst n m ss r 1 k) 0 : Int)) q := by
  obtain ⟨b, hb, _, hc, _, hf⟩ := wend_step h hq
  have h1 := (wend_way hw h q (by omega)).1
  unfold Fok
  rw [h1]
  show (0 ≤ (wvf n m ss 1 (wst n m ss r 1 q) 0 : Int) ∧ (wvf n m ss 1 (wst n m ss r 1 q) 0 : Int) ≤ (n : Int) - 1) ∧ Can m ss _ (wvf n m ss 1 (wst n m ss r 1 q) 0 : Int)
  rw [hf]
  exact ⟨⟨by omega, by omega⟩, hc⟩

theorem wend_cnt {n m L : Nat} {ss : Nat → Wr} {r : Nat → Nat} (hw : Wok (n : Int) m ss) (h : Wend n m ss r 1 L) (b : Nat) (hb : b < n) : cnt (fun k => (wvf n m ss 1 (wst n m ss r 1 k) 0 : Int)) L b = r b := by
  have h1 := (wend_way hw h L (Nat.le_refl _)).2.1 b hb
  have h2 := nz_zero.1 h.2 b hb
  omega

theorem wend_have {n m L : Nat} {ss : Nat → Wr} {r : Nat → Nat} (hw : Wok (n : Int) m ss) (hr : Sol (wsn ss) n m r) (h : Wend n m ss r 1 L) (i : Nat) (hi : i < m) : fh ss (fun k => (wvf n m ss 1 (wst n m ss r 1 k) 0 : Int)) L i = (ss i).ha := by
  obtain ⟨h1, _, h3⟩ := wend_way hw h L (Nat.le_refl _)
  obtain ⟨a, b, e1, e2, ha, hb, he⟩ := sol_pr hw hr i hi
  rw [h1, h3.eq i hi, nz_zero.1 h.2 _ (by omega), nz_zero.1 h.2 _ (by omega), e1, e2]
  show (ss i).ha + ((r a : Int) - 0) * (ss i).gi - ((r b : Int) - 0) * (ss i).ta = (ss i).ha
  rw [Int.sub_zero, Int.sub_zero, he]
  omega

end Go.Proofs.Ytlccicbgepfbbaa

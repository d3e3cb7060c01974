/- Any order of firings: what one run fires all others do. -/
import Derived.Test.YtlccicbgepfbbaaCI
namespace Go.Proofs.Ytlccicbgepfbbaa
open Go.RowKit

/-- One firing after the other. -/
inductive Run (n m : Nat) (ss : Nat → Wr) (a : Stt) : Stt → Prop
  | refl : Run n m ss a a
  | step {s : Stt} {b : Nat} (h : Run n m ss a s) (hb : b < n) (h0 : s.1 b ≠ 0) (hc : Can m ss s.2 (b : Int)) : Run n m ss a (dec s.1 b, frd ss (b : Int) s.2)

/-- What lies there, by how often each block has fired. -/
structure Rch (n m : Nat) (ss : Nat → Wr) (r : Nat → Nat) (s : Stt) : Prop where
  le : ∀ b, b < n → s.1 b ≤ r b
  eq : ∀ i, i < m → s.2 i = (ss i).ha + ((r (ss i).fr.toNat : Int) - (s.1 (ss i).fr.toNat : Int)) * (ss i).gi - ((r (ss i).to.toNat : Int) - (s.1 (ss i).to.toNat : Int)) * (ss i).ta

theorem rch_step {n m : Nat} {ss : Nat → Wr} {r : Nat → Nat} (hw : Wok (n : Int) m ss) {s : Stt} {b : Nat} (h : Rch n m ss r s) (hb : b < n) (h0 : s.1 b ≠ 0) : Rch n m ss r (dec s.1 b, frd ss (b : Int) s.2) := by
  refine ⟨fun c hc => ?_, fun i hi => ?_⟩
  · have := h.le c hc
    show dec s.1 b c ≤ r c
    unfold dec
    split
    · rename_i e; subst e; omega
    · exact this
  · have he := h.eq i hi
    have hg := hw.2.2 i hi
    unfold Wgd at hg
    show frd ss (b : Int) s.2 i = (ss i).ha + ((r (ss i).fr.toNat : Int) - (dec s.1 b (ss i).fr.toNat : Int)) * (ss i).gi - ((r (ss i).to.toNat : Int) - (dec s.1 b (ss i).to.toNat : Int)) * (ss i).ta
    have e1 : ((r (ss i).fr.toNat : Int) - (dec s.1 b (ss i).fr.toNat : Int)) * (ss i).gi = ((r (ss i).fr.toNat : Int) - (s.1 (ss i).fr.toNat : Int)) * (ss i).gi + (if (ss i).fr = (b : Int) then (ss i).gi else 0) := by
      by_cases e : (ss i).fr = (b : Int)
      · have e2 : (ss i).fr.toNat = b := by omega
        rw [if_pos e, e2]
        have e3 : dec s.1 b b = s.1 b - 1 := by unfold dec; rw [if_pos rfl]
        rw [e3, show ((r b : Int) - ((s.1 b - 1 : Nat) : Int)) = ((r b : Int) - (s.1 b : Int)) + 1 by omega, Int.add_mul, Int.one_mul]
      · have e2 : ¬ (ss i).fr.toNat = b := by omega
        have e3 : dec s.1 b (ss i).fr.toNat = s.1 (ss i).fr.toNat := by unfold dec; rw [if_neg e2]
        rw [if_neg e, e3, Int.add_zero]
    have e4 : ((r (ss i).to.toNat : Int) - (dec s.1 b (ss i).to.toNat : Int)) * (ss i).ta = ((r (ss i).to.toNat : Int) - (s.1 (ss i).to.toNat : Int)) * (ss i).ta + (if (ss i).to = (b : Int) then (ss i).ta else 0) := by
      by_cases e : (ss i).to = (b : Int)
      · have e2 : (ss i).to.toNat = b := by omega
        rw [if_pos e, e2]
        have e3 : dec s.1 b b = s.1 b - 1 := by unfold dec; rw [if_pos rfl]
        rw [e3, show ((r b : Int) - ((s.1 b - 1 : Nat) : Int)) = ((r b : Int) - (s.1 b : Int)) + 1 by omega, Int.add_mul, Int.one_mul]
      · have e2 : ¬ (ss i).to.toNat = b := by omega
        have e3 : dec s.1 b (ss i).to.toNat = s.1 (ss i).to.toNat := by unfold dec; rw [if_neg e2]
        rw [if_neg e, e3, Int.add_zero]
    rw [e1, e4]
    generalize ((r (ss i).fr.toNat : Int) - (s.1 (ss i).fr.toNat : Int)) * (ss i).gi = X at he ⊢
    generalize ((r (ss i).to.toNat : Int) - (s.1 (ss i).to.toNat : Int)) * (ss i).ta = Y at he ⊢
    unfold frd stp1 stp2
    split <;> split <;> omega

theorem rch_run {n m : Nat} {ss : Nat → Wr} {r : Nat → Nat} (hw : Wok (n : Int) m ss) {a s : Stt} (ha : Rch n m ss r a) (h : Run n m ss a s) : Rch n m ss r s := by
  induction h with
  | refl => exact ha
  | step _ hb h0 _ ih => exact rch_step hw ih hb h0

/-- At the beginning. -/
theorem rch_0 {n m : Nat} {ss : Nat → Wr} {r : Nat → Nat} (hw : Wok (n : Int) m ss) (most : Nat) : Rch n m ss r (wst n m ss r most 0) := by
  refine ⟨fun b hb => by show (if b < n then r b else 0) ≤ r b; rw [if_pos hb]; exact Nat.le_refl _, fun i hi => ?_⟩
  have hg := hw.2.2 i hi
  unfold Wgd at hg
  show hav ss i = (ss i).ha + ((r (ss i).fr.toNat : Int) - ((if (ss i).fr.toNat < n then r (ss i).fr.toNat else 0 : Nat) : Int)) * (ss i).gi - ((r (ss i).to.toNat : Int) - ((if (ss i).to.toNat < n then r (ss i).to.toNat else 0 : Nat) : Int)) * (ss i).ta
  rw [if_pos (by omega), if_pos (by omega), Int.sub_self, Int.sub_self, Int.zero_mul, Int.zero_mul]
  unfold hav
  omega

/-- Where one state has fired no more than another one, what can fire in it and not yet has can fire in the other. -/
theorem can_more {n m : Nat} {ss : Nat → Wr} {r : Nat → Nat} (hw : Wok (n : Int) m ss) {s t : Stt} (hs : Rch n m ss r s) (ht : Rch n m ss r t) (hle : ∀ b, b < n → t.1 b ≤ s.1 b) {b : Nat} (_ : b < n) (he : t.1 b = s.1 b) (hc : Can m ss s.2 (b : Int)) : Can m ss t.2 (b : Int) := fun i hi hto => by
  have h1 := hc i hi hto
  have hg := hw.2.2 i hi
  unfold Wgd at hg
  have e1 := hs.eq i hi
  have e2 := ht.eq i hi
  have hF : (ss i).fr.toNat < n := by omega
  have hT : (ss i).to.toNat = b := by omega
  have hf := hle _ hF
  rw [hT] at e1 e2
  rw [he] at e2
  have h3 : ((r (ss i).fr.toNat : Int) - (s.1 (ss i).fr.toNat : Int)) * (ss i).gi ≤ ((r (ss i).fr.toNat : Int) - (t.1 (ss i).fr.toNat : Int)) * (ss i).gi := Int.mul_le_mul_of_nonneg_right (by omega) (by omega)
  generalize ((r (ss i).fr.toNat : Int) - (s.1 (ss i).fr.toNat : Int)) * (ss i).gi = X at e1 h3
  generalize ((r (ss i).fr.toNat : Int) - (t.1 (ss i).fr.toNat : Int)) * (ss i).gi = X2 at e2 h3
  generalize ((r b : Int) - (s.1 b : Int)) * (ss i).ta = Y at e1 e2
  omega

/-- A run that fires all: whatever has fired, all has or something can. -/
theorem run_more {n m : Nat} {ss : Nat → Wr} {r : Nat → Nat} (hw : Wok (n : Int) m ss) {a s t : Stt} (ha : Rch n m ss r a) (hat : ∀ b, b < n → t.1 b ≤ a.1 b) (ht : Rch n m ss r t) (h : Run n m ss a s) : (∀ b, b < n → t.1 b ≤ s.1 b) ∨ ∃ b, b < n ∧ t.1 b ≠ 0 ∧ Can m ss t.2 (b : Int) := by
  induction h with
  | refl => exact .inl hat
  | @step s b h hb h0 hc ih =>
    rcases ih with ih | ih
    · by_cases e : t.1 b ≤ s.1 b - 1
      · refine .inl fun c hcn => ?_
        show t.1 c ≤ dec s.1 b c
        unfold dec
        split
        · rename_i e2; subst e2; exact e
        · exact ih c hcn
      · have h1 := ih b hb
        have h2 : t.1 b = s.1 b := by omega
        exact .inr ⟨b, hb, by omega, can_more hw (rch_run hw ha h) ht ih hb h2 hc⟩
    · exact .inr ih

/-- A wave is a run. -/
theorem run_wave {n m most : Nat} {ss : Nat → Wr} {r : Nat → Nat} (hw : Wok (n : Int) m ss) {a s : Stt} (ha : Rch n m ss r a) (h : Run n m ss a s) : ∀ j, j ≤ (wvl n m ss most s).length → Run n m ss a (lfs s.1 (wvf n m ss most s) j, hsq ss s.2 (wvf n m ss most s) j)
  | 0, _ => h
  | j + 1, hj => by
    have ih := run_wave (most := most) hw ha h j (by omega)
    have hg := wvl_good (n := n) (m := m) (ss := ss) (s := s) (most := most) (j := j) (by omega)
    have hm := wvl_mem (n := n) (m := m) (ss := ss) (s := s) (most := most) (j := j) (by omega)
    refine Run.step ih hg.1 hg.2 ?_
    refine can_more hw (rch_run hw ha h) (rch_run hw ha ih) (fun b hb => ?_) hg.1 (wvl_due j (by omega) _ (fun i hi => wvl_inj (by omega) hi)) hm.2.2
    have le : ∀ j, lfs s.1 (wvf n m ss most s) j b ≤ s.1 b := by
      intro j
      induction j with
      | zero => exact Nat.le_refl _
      | succ j ih =>
        show dec (lfs s.1 (wvf n m ss most s) j) (wvf n m ss most s j) b ≤ s.1 b
        unfold dec
        split
        · rename_i e; rw [← e]; have := ih; omega
        · exact ih
    exact le j

theorem run_wst {n m most : Nat} {ss : Nat → Wr} {r : Nat → Nat} (hw : Wok (n : Int) m ss) : ∀ k, Run n m ss (wst n m ss r most 0) (wst n m ss r most k)
  | 0 => Run.refl
  | k + 1 => run_wave (most := most) hw (rch_0 (r := r) hw most) (run_wst (most := most) hw k) _ (Nat.le_refl _)

/-- Waves of any width end where one run fires all. -/
theorem wend_of {n m most : Nat} {ss : Nat → Wr} {r : Nat → Nat} (hw : Wok (n : Int) m ss) (hr : smN n r ≤ 2000) (hm : 1 ≤ most) {s : Stt} (h : Run n m ss (wst n m ss r most 0) s) (hz : nz n s.1 = 0) : ∃ K, Wend n m ss r most K := by
  have live : ∀ k, nz n (wst n m ss r most k).1 ≠ 0 → wvl n m ss most (wst n m ss r most k) ≠ [] := by
    intro k hk he
    have ht := rch_run (r := r) hw (rch_0 (r := r) hw most) (run_wst (r := r) (most := most) hw k)
    rcases run_more hw (rch_0 (r := r) hw most) (fun b hb => by have := ht.le b hb; show _ ≤ (if b < n then r b else 0); rw [if_pos hb]; exact this) ht h with h1 | ⟨b, hb, h2, h3⟩
    · refine hk (nz_zero.2 fun b hb => ?_)
      have := h1 b hb
      have := nz_zero.1 hz b hb
      omega
    · have hmem : b ∈ rdl n m ss (wst n m ss r most k).1 (wst n m ss r most k).2 := mem_rdl.2 ⟨hb, h2, h3⟩
      unfold wvl at he
      cases hl : rdl n m ss (wst n m ss r most k).1 (wst n m ss r most k).2 with
      | nil => rw [hl] at hmem; cases hmem
      | cons x t =>
        rw [hl] at he
        cases most with
        | zero => omega
        | succ q => simp at he
  obtain ⟨K, h1, h2, h3⟩ := stops (fun k => nz n (wst n m ss r most k).1 ≠ 0) 2001
  have hK : K < 2001 := by
    rcases Nat.lt_or_ge K 2001 with e | e
    · exact e
    · obtain ⟨F, h4, h5⟩ := wsi_all (most := most) hw hr 2001 (fun k hk => live k (h2 k (by omega)))
      have := h5.sum
      omega
  exact ⟨K, fun k hk => ⟨h2 k hk, live k (h2 k hk)⟩, Classical.not_not.1 (h3 hK)⟩

/-- Lines end where waves do. -/
theorem wend_iff {n m most most' : Nat} {ss : Nat → Wr} {r : Nat → Nat} (hw : Wok (n : Int) m ss) (hr : smN n r ≤ 2000) (hm : 1 ≤ most') (h : ∃ K, Wend n m ss r most K) : ∃ K, Wend n m ss r most' K := by
  obtain ⟨K, hK⟩ := h
  have h1 : Run n m ss (wst n m ss r most' 0) (wst n m ss r most K) := run_wst (most := most) hw K
  exact wend_of hw hr hm h1 hK.2
end Go.Proofs.Ytlccicbgepfbbaa

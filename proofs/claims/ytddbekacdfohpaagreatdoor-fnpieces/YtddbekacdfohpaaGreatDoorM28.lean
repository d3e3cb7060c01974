/- QS6 QS7. -/
import Derived.Test.YtddbekacdfohpaaGreatDoorM27
import Derived.Laws.BitsAllLaws
namespace Go.Proofs.YtddbekacdfohpaaGreatDoor.Q
open Go.RowKit

/-- One word of a row of the call's own is written. -/
theorem Hol.set {base : Nat} {w : World} {g n cap N : Nat} (h : Hol base w (.slice (some ⟨g, 0, none⟩) n cap) n N) (k : Nat) (hk : k < n) (x N' : Nat) (hN' : N' < 4294967296 ^ n) (ho : ∀ j, j < n → j ≠ k → wd N' j = wd N j) (hx : wd N' k = x) :
    Hol base (w.setCell ⟨g, k, none⟩ (.int .u32 (x : Int))) (.slice (some ⟨g, 0, none⟩) n cap) n N' := by
  refine ⟨hN', by rw [wds_length]; omega, ?_⟩
  rcases h.2.2 with ⟨h2, _⟩ | ⟨g', cap', cur, hv, hbg, hg, hn, hm, hs, ht⟩
  · cases h2
  · right
    cases hv
    have hlt := lt_of_block hg
    have h' : w.heap[g] = .cells cur 70 (0, 0) := by simpa [Array.getElem?_eq_getElem hlt] using hg
    refine ⟨g, cap, cur.setIfInBounds k (.int .u32 (x : Int)), rfl, hbg, ?_, hn, hm, by simpa using hs, ?_⟩
    · show (w.heap.modify g _)[g]? = _
      rw [Array.getElem?_eq_getElem (by simpa using hlt), Array.getElem_modify_self, h']
      rfl
    · apply List.ext_getElem?
      intro i
      have hti := congrArg (·[i]?) ht
      simp only [Nat.mul_one] at hti hs ⊢
      by_cases hi : i < n
      · rw [wds_get hi]
        rw [wds_get hi, List.getElem?_take, if_pos hi] at hti
        rw [List.getElem?_take, if_pos hi, Array.toList_setIfInBounds, List.getElem?_set]
        by_cases hik : k = i
        · subst hik
          rw [if_pos rfl, if_pos (by simp; omega), hx]
        · rw [if_neg hik, hti, ho i hi (fun e => hik e.symm)]
      · rw [List.getElem?_eq_none (by simp; omega), List.getElem?_eq_none (by rw [wds_length]; omega)]

theorem Hol.free {base : Nat} {w : World} {g n cap N : Nat} (h : Hol base w (.slice (some ⟨g, 0, none⟩) n cap) n N) (k : Nat) : w.frozen? ⟨g, k, none⟩ = false := by
  rcases h.2.2 with ⟨h2, _⟩ | ⟨g', cap', cur, hv, hbg, hg, hn, hm, hs, ht⟩
  · cases h2
  · cases hv
    simp [World.frozen?, hg]

theorem Hol.cell {base : Nat} {w : World} {g n cap N : Nat} (h : Hol base w (.slice (some ⟨g, 0, none⟩) n cap) n N) (k : Nat) (hk : k < n) : w.cell? ⟨g, k, none⟩ = some (.int .u32 ((wd N k : Nat) : Int)) := by
  obtain ⟨ao, cap', e, _, hc⟩ := h.shape
  obtain ⟨g', rfl, _, _, hc⟩ := hc k hk
  cases e
  exact hc

theorem hol_made {w w' : World} {L : Nat} (h : w'.ownsRow w.heap.size 70 1 (.slice (some ⟨w.heap.size, 0, none⟩) L L) L (madeCells (Value.int .u32 0).cells (L * 1)).toList) : Hol w.heap.size w' (.slice (some ⟨w.heap.size, 0, none⟩) L L) L 0 := by
  refine ⟨pow_pos' _, ?_⟩
  have e : (madeCells (Value.int .u32 0).cells (L * 1)).toList = wds L 0 := by
    rw [show (Value.int .u32 0).cells = #[Value.int .u32 0] from rfl, toList_madeCells_one]
    apply List.ext_getElem?
    intro i
    by_cases hi : i < L
    · rw [wds_get hi]
      simp [hi, wd]
    · rw [List.getElem?_eq_none (by simp; omega), List.getElem?_eq_none (by rw [wds_length]; omega)]
  rwa [e] at h

/-- The word at which a shifted number grows, and what stands there and behind it. -/
theorem shl_words {A q r k : Nat} (hr : r < 32) :
    wd (A % 4294967296 ^ k * 2 ^ (32 * q + r)) (q + k) = A % 4294967296 ^ k * 2 ^ r / 4294967296 ^ k ∧ A % 4294967296 ^ k * 2 ^ r / 4294967296 ^ k < 2 ^ r ∧
    (∀ j, q + k < j → wd (A % 4294967296 ^ k * 2 ^ (32 * q + r)) j = 0) := by
  have hp := pow_pos' k
  have hlt : A % 4294967296 ^ k < 4294967296 ^ k := Nat.mod_lt _ hp
  generalize A % 4294967296 ^ k = a at *
  have e : a * 2 ^ (32 * q + r) = a * 2 ^ r * 4294967296 ^ q := by
    rw [Nat.pow_add, Nat.pow_mul, show (2 : Nat) ^ 32 = 4294967296 by decide]
    ac_rfl
  have h2 : a * 2 ^ r / 4294967296 ^ k < 2 ^ r := by
    rw [Nat.div_lt_iff_lt_mul hp, Nat.mul_comm]
    exact Nat.mul_lt_mul_of_pos_left hlt (Nat.pow_pos (by decide))
  have h3 : (2 : Nat) ^ r ≤ 2 ^ 31 := Nat.pow_le_pow_right (by decide) (by omega)
  refine ⟨?_, h2, fun j hj => ?_⟩
  · unfold wd
    rw [e, Nat.add_comm q k, Nat.pow_add, Nat.mul_div_mul_right _ _ (pow_pos' q)]
    exact Nat.mod_eq_of_lt (by omega)
  · obtain ⟨i, rfl⟩ : ∃ i, j = (k + 1 + i) + q := ⟨j - q - k - 1, by omega⟩
    unfold wd
    rw [e, Nat.pow_add, Nat.mul_div_mul_right _ _ (pow_pos' q), Nat.div_eq_of_lt]
    refine Nat.lt_of_lt_of_le (Nat.mul_lt_mul_of_pos_right hlt (Nat.pow_pos (by decide))) ?_
    refine Nat.le_trans (Nat.mul_le_mul_left _ h3) ?_
    refine Nat.le_trans ?_ (Nat.pow_le_pow_right (by decide) (show k + 1 ≤ k + 1 + i by omega))
    rw [Nat.pow_succ]
    exact Nat.mul_le_mul_left _ (by decide)

/-- The step of l1Shl: what is shifted grows by one word. -/
theorem shl_step (A q r k : Nat) : A % 4294967296 ^ (k + 1) * 2 ^ (32 * q + r) = A % 4294967296 ^ k * 2 ^ (32 * q + r) + wd A k * 2 ^ r * 4294967296 ^ (q + k) := by
  rw [mod_succ, Nat.add_mul]
  congr 1
  rw [Nat.pow_add 2, Nat.pow_mul, Nat.pow_add 4294967296, show (2 : Nat) ^ 32 = 4294967296 by decide]
  ac_rfl

theorem Nat.div_lt_iff_lt_mul' {x y k : Nat} (hk : 0 < k) : x / k < y ↔ x < k * y := by rw [Nat.div_lt_iff_lt_mul hk, Nat.mul_comm]

/-- A number that ends below place p, and one more word (and what overflows it) at p. -/
theorem wd_grow {S p x y : Nat} (_hS : ∀ j, p < j → wd S j = 0) (hxy : wd S p + x < 4294967296) (hy : y < 4294967296) (hS2 : S < 4294967296 ^ (p + 1)) :
    (∀ j, j < p → wd (S + (x + y * 4294967296) * 4294967296 ^ p) j = wd S j) ∧ wd (S + (x + y * 4294967296) * 4294967296 ^ p) p = wd S p + x ∧ wd (S + (x + y * 4294967296) * 4294967296 ^ p) (p + 1) = y ∧ (∀ j, p + 1 < j → wd (S + (x + y * 4294967296) * 4294967296 ^ p) j = 0) ∧ S + (x + y * 4294967296) * 4294967296 ^ p < 4294967296 ^ (p + 2) := by
  have hS0 := wd_eq (A := S) (k := p)
  rw [Nat.div_eq_of_lt hS2, Nat.zero_mul, Nat.zero_add] at hS0
  have hp := pow_pos' p
  have hd : (S + (x + y * 4294967296) * 4294967296 ^ p) / 4294967296 ^ p = wd S p + x + y * 4294967296 := by
    rw [Nat.add_mul_div_right _ _ hp, hS0]
    omega
  refine ⟨fun j hj => wd_add_lt hj, ?_, ?_, fun j hj => ?_, ?_⟩
  · show _ / _ % _ = _
    rw [hd]
    omega
  · show _ / _ % _ = _
    rw [Nat.pow_succ, ← Nat.div_div_eq_div_mul, hd]
    omega
  · obtain ⟨i, rfl⟩ : ∃ i, j = p + 2 + i := ⟨j - p - 2, by omega⟩
    show _ / _ % _ = _
    rw [Nat.add_assoc, Nat.pow_add, ← Nat.div_div_eq_div_mul, hd, Nat.pow_add, ← Nat.div_div_eq_div_mul]
    rw [show (wd S p + x + y * 4294967296) / 4294967296 ^ 2 = 0 by rw [show (4294967296 : Nat) ^ 2 = 18446744073709551616 by decide]; omega]
    simp
  · rw [Nat.pow_add, ← Nat.div_lt_iff_lt_mul' hp, hd, show (4294967296 : Nat) ^ 2 = 18446744073709551616 by decide]
    omega

/-- Bits below a place, and a number that has none there. -/
theorem or_apart {a c r : Nat} (ha : a < 2 ^ r) (hr : r < 32) (_hc : c < 4294967296) : bits .or .u32 (a : Int) (((c * 2 ^ r % 4294967296 : Nat)) : Int) = ((a + c * 2 ^ r % 4294967296 : Nat) : Int) ∧ a + c * 2 ^ r % 4294967296 < 4294967296 := by
  have h1 : c * 2 ^ r % 4294967296 = 2 ^ r * (c % 2 ^ (32 - r)) := by
    rw [show (4294967296 : Nat) = 2 ^ r * 2 ^ (32 - r) by rw [← Nat.pow_add, show r + (32 - r) = 32 by omega], Nat.mul_comm c, Nat.mul_mod_mul_left]
  have h3 : (2 : Nat) ^ r ≤ 2 ^ 31 := Nat.pow_le_pow_right (by decide) (by omega)
  have h2 : c * 2 ^ r % 4294967296 < 4294967296 := Nat.mod_lt _ (by decide)
  have h4 : a + c * 2 ^ r % 4294967296 < 4294967296 := by
    have h5 : c % 2 ^ (32 - r) < 2 ^ (32 - r) := Nat.mod_lt _ (Nat.pow_pos (by decide))
    have h6 : 2 ^ r * (c % 2 ^ (32 - r) + 1) ≤ 2 ^ r * 2 ^ (32 - r) := Nat.mul_le_mul_left _ h5
    rw [← Nat.pow_add, show r + (32 - r) = 32 by omega, Nat.mul_add, Nat.mul_one] at h6
    rw [h1]
    omega
  refine ⟨?_, h4⟩
  rw [u32_or_nat _ _ (by omega) h2, h1, Nat.or_comm, ← Nat.two_pow_add_eq_or_of_lt ha, Nat.add_comm]
theorem wrap_shl {c r : Nat} (hc : c < 4294967296) (hr : r < 32) : IntKind.u64.wrap ((c : Int) * 2 ^ r) = ((c * 2 ^ r : Nat) : Int) ∧ c * 2 ^ r / 4294967296 < 4294967296 := by
  have h3 : (2 : Nat) ^ r ≤ 2 ^ 31 := Nat.pow_le_pow_right (by decide) (by omega)
  have h4 : c * 2 ^ r ≤ 4294967296 * 2 ^ 31 := Nat.mul_le_mul (by omega) h3
  have e : ((c : Int) * 2 ^ r) = ((c * 2 ^ r : Nat) : Int) := by rw [Int.natCast_mul, Int.natCast_pow]; rfl
  rw [e]
  generalize c * 2 ^ r = z at *
  refine ⟨?_, by omega⟩
  rw [IntKind.wrap_u64]
  omega

/-- What the loop of l1Shl holds on to. -/
def ShlRel (A q r L b : Nat) (w wr : World) (k : Nat) : Prop := Hol b wr (.slice (some ⟨b, 0, none⟩) L L) L (A % 4294967296 ^ k * 2 ^ (32 * q + r)) ∧ Below b w wr

theorem shl_small {A q r k : Nat} (hr : r < 32) : A % 4294967296 ^ k * 2 ^ (32 * q + r) < 4294967296 ^ (q + k + 1) := by
  have hp := pow_pos' k
  have hlt : A % 4294967296 ^ k < 4294967296 ^ k := Nat.mod_lt _ hp
  have h3 : (2 : Nat) ^ r < 4294967296 := by
    have : (2 : Nat) ^ r ≤ 2 ^ 31 := Nat.pow_le_pow_right (by decide) (by omega)
    omega
  generalize A % 4294967296 ^ k = a at *
  have e : a * 2 ^ (32 * q + r) = a * (4294967296 ^ q * 2 ^ r) := by
    rw [Nat.pow_add, Nat.pow_mul, show (2 : Nat) ^ 32 = 4294967296 by decide]
  have e2 : 4294967296 ^ (q + k + 1) = 4294967296 ^ k * (4294967296 ^ q * 4294967296) := by
    rw [Nat.pow_succ, Nat.pow_add]
    ac_rfl
  rw [e, e2]
  exact Nat.mul_lt_mul_of_lt_of_le hlt (Nat.mul_le_mul_left _ (Nat.le_of_lt h3)) (Nat.mul_pos (pow_pos' q) (by decide))

theorem shlRel_next {A q r n L b : Nat} {w wr : World} {k : Nat} (h : ShlRel A q r L b w wr k) (hk : k < n) (hL : L = q + n + 1) (hr : r < 32) (y : Nat) (hy : wd (A % 4294967296 ^ k * 2 ^ (32 * q + r)) (q + k) = y) :
    ShlRel A q r L b w ((wr.setCell ⟨b, q + k, none⟩ (.int .u32 (bits .or .u32 (y : Int) (IntKind.u64.wrap (((wd A k : Nat) : Int) * 2 ^ r) % 4294967296)))).setCell ⟨b, q + k + 1, none⟩ (.int .u32 (bits .or .u32 0 (IntKind.u64.wrap (((wd A k : Nat) : Int) * 2 ^ r) / 4294967296 % 4294967296)))) (k + 1) := by
  obtain ⟨hH, hbl⟩ := h
  obtain ⟨s1, s2, s3⟩ := shl_words (A := A) (q := q) (k := k) hr
  have hsm := shl_small (A := A) (q := q) (k := k) hr
  have hst := shl_step A q r k
  have hc := wd_lt A k
  obtain ⟨wr1, wr2⟩ := wrap_shl hc hr
  rw [s1] at hy
  rw [hy] at s1 s2
  obtain ⟨o1, o2⟩ := or_apart s2 hr hc
  generalize hSS : A % 4294967296 ^ k * 2 ^ (32 * q + r) = S at *
  generalize wd A k = c at *
  rw [wr1]
  have x1 : bits .or .u32 (y : Int) ((((c * 2 ^ r : Nat)) : Int) % 4294967296) = ((y + c * 2 ^ r % 4294967296 : Nat) : Int) := o1
  have x2 : bits .or .u32 0 ((((c * 2 ^ r : Nat)) : Int) / 4294967296 % 4294967296) = ((c * 2 ^ r / 4294967296 : Nat) : Int) := by
    have := u32_or_nat 0 (c * 2 ^ r / 4294967296 % 4294967296) (by decide) (Nat.mod_lt _ (by decide))
    rw [Nat.zero_or] at this
    refine this.trans ?_
    rw [Nat.mod_eq_of_lt wr2]
  rw [x1, x2]
  have hz : c * 2 ^ r = c * 2 ^ r % 4294967296 + c * 2 ^ r / 4294967296 * 4294967296 := by omega
  have g1 := wd_grow (x := c * 2 ^ r % 4294967296) (y := 0) s3 (by rw [s1]; omega) (by decide) hsm
  have g2 := wd_grow (x := c * 2 ^ r % 4294967296) (y := c * 2 ^ r / 4294967296) s3 (by rw [s1]; omega) wr2 hsm
  rw [← hz] at g2
  simp only [Nat.zero_mul, Nat.add_zero] at g1
  have hpow : 4294967296 ^ (q + k + 2) ≤ 4294967296 ^ L := Nat.pow_le_pow_right (by decide) (by omega)
  have h1 := hH.set (q + k) (by omega) (y + c * 2 ^ r % 4294967296) (S + c * 2 ^ r % 4294967296 * 4294967296 ^ (q + k)) (Nat.lt_of_lt_of_le g1.2.2.2.2 hpow) (fun j _ hj => by
    rcases Nat.lt_or_gt_of_ne hj with hj | hj
    · exact g1.1 j hj
    · rw [s3 j hj]
      rcases Nat.lt_or_ge (q + k + 1) j with h | h
      · exact g1.2.2.2.1 j h
      · obtain rfl : j = q + k + 1 := by omega
        exact g1.2.2.1) (by rw [g1.2.1, s1])
  have h2 := h1.set (q + k + 1) (by omega) (c * 2 ^ r / 4294967296) (S + c * 2 ^ r * 4294967296 ^ (q + k)) (Nat.lt_of_lt_of_le g2.2.2.2.2 hpow) (fun j _ hj => by
    rcases Nat.lt_trichotomy j (q + k) with h | rfl | h
    · rw [g2.1 j h, g1.1 j h]
    · rw [g2.2.1, g1.2.1]
    · rw [g2.2.2.2.1 j (by omega), g1.2.2.2.1 j (by omega)]) g2.2.2.1
  refine ⟨?_, (hbl.setCell (Nat.le_refl _) _).setCell (Nat.le_refl _) _⟩
  rw [hst]
  exact h2
end Go.Proofs.YtddbekacdfohpaaGreatDoor.Q

namespace Go.Proofs.YtddbekacdfohpaaGreatDoor.Q
open Go.RowKit

set_option maxRecDepth 20000 in
set_option maxHeartbeats 2000000 in
theorem shl_any {w : World} {v : Value} {m A : Nat} (ha : Nt w v m A) (hm : m ≤ 900000) (q r : Nat) (hr : r < 32) (hq : q ≤ 10000) :
    Calls Tryz.prog 79 #[v, .int .i64 (32 * (q : Int) + r)] w fun e w' => Below w.heap.size w w' ∧ ∃ v', e = .returned v' ∧ Nt w' v' (q + m + 1) (A * 2 ^ (32 * q + r)) := by
  obtain ⟨i0, hi, hz0, hz1, hz2⟩ := info_parts Tryz.info70
  obtain ⟨n, hn, hh, ht⟩ := ha
  obtain ⟨ao, cap, rfl, hcap, hcell⟩ := hh.shape
  have HLA : Hid (A < 4294967296 ^ n) := hh.1
  have HC : Hid (∀ k, k < n → ∃ g, ao = some ⟨g, 0, none⟩ ∧ 0 ≤ g ∧ g < w.heap.size ∧ w.cell? ⟨g, k, none⟩ = some (.int .u32 ((wd A k : Nat) : Int))) := hcell
  clear hh hcell ht
  by_cases hn0 : n = 0
  · subst hn0
    have HA : Hid (A = 0) := by have := HLA.out; show A = 0; simpa using this
    go_enter Tryz.func79, Tryz.ntmps79
    go_wp2
    go_ret
    refine ⟨below_one _, _, rfl, 0, by omega, ?_, Or.inl rfl⟩
    rw [HA.out, Nat.zero_mul]
    exact (hol_empty w).zero
  have e1 : (32 * (q : Int) + r).tdiv 32 = q := by rw [Int.tdiv_eq_ediv_of_nonneg (by omega)]; omega
  have e2 : (32 * (q : Int) + r).tmod 32 = r := by rw [Int.tmod_eq_emod_of_nonneg (by omega)]; omega
  have hn1 : ((n : Int) == 0) = false := by simp; omega
  go_enter Tryz.func79, Tryz.ntmps79
  go_wp2_with (at_make; refine wpList_make_full _ rfl _ _ 114 rfl w.heap.size 70 i0 (.int .u32 0) 1 Tryz.underlying114 hi hz0 hz1 .i64 .i64 _ _ (q + n + 1) rfl rfl (by omega) (by omega) (by rw [hz2]; omega) (by unfold maxLen; omega) (Nat.le_refl _) ?_; intro w1 hown hgrow)
  have HM : Hid (ShlRel A q r (q + n + 1) w.heap.size w w1 0) := by
    refine ⟨?_, (Below.refl _ _).grown hgrow (Nat.le_refl _) (fun k hk => by cases hk)⟩
    rw [Nat.pow_zero, Nat.mod_one, Nat.zero_mul]
    exact hol_made hown
  clear hown hgrow
  go_loopw [6] (fun i wr => ∃ k : Nat, i = .int .i64 k ∧ k ≤ n ∧ Hid (ShlRel A q r (q + n + 1) w.heap.size w wr k)) (fun i _ => n - (intOf i).toNat)
  case atStart => exact ⟨0, by go_num, by omega, HM⟩
  case round =>
    obtain ⟨k, rfl, hk, hrel⟩ := hrel
    obtain ⟨hH, hbl⟩ := hrel.out
    have hsz := hbl.size
    by_cases h1 : k < n
    · obtain ⟨g, rfl, hc⟩ := cells_of HC.out hbl (Nat.le_refl _) h1
      have wa := wd_lt A k
      have s3 := (shl_words (A := A) (q := q) (k := k) hr).2.2
      have c1 := hH.cell (q + k) (by omega)
      have c2 := hH.cell (q + k + 1) (by omega)
      have f1 := hH.free (q + k)
      have f2 := hH.free (q + k + 1)
      rw [s3 (q + k + 1) (by omega)] at c2
      have R : ∀ y, wd (A % 4294967296 ^ k * 2 ^ (32 * q + r)) (q + k) = y → _ := fun y hy => shlRel_next hrel.out h1 rfl hr y hy
      generalize wd (A % 4294967296 ^ k * 2 ^ (32 * q + r)) (q + k) = y at *
      have HR := R y rfl
      have HR : Hid _ := HR
      clear HC s3 R hrel hH hbl
      go_wp2
      go_roundw
      case rel => exact ⟨k + 1, by go_num, by omega, HR⟩
      case measure => simp [intOf]; omega
    · obtain rfl : k = n := by omega
      rw [mod_past HLA.out (Nat.le_refl _)] at hH
      have HH := hH.zero
      clear HC hrel hH
      go_wp2_with (go_at_call 87; refine (trim_any HH (by omega)).mono ?_; rintro e w' ⟨rfl, v', rfl, hv⟩)
      go_ret
      refine ⟨hbl, _, rfl, ?_⟩
      obtain ⟨n', hn', r⟩ := hv
      exact ⟨n', by omega, r⟩
end Go.Proofs.YtddbekacdfohpaaGreatDoor.Q

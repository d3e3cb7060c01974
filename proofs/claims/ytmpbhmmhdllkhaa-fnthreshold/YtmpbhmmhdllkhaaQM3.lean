/- The model's whole numbers: the walk of the product. -/
import Derived.Test.YtmpbhmmhdllkhaaQM2
namespace Go.Proofs.Ytmpbhmmhdllkhaa.Q
open Go.RowKit

/-- What the inner loop of l1Mul holds on to: row k, j words of it done, C carried. -/
def MulIn (A B q L b : Nat) (w wr : World) (k j C : Nat) : Prop :=
  ∃ S, S + C * 4294967296 ^ (k + j) = A % 4294967296 ^ k * B + wd A k * (B % 4294967296 ^ j) * 4294967296 ^ k ∧ S < 4294967296 ^ (k + q) ∧ Hol b wr (.slice (some ⟨b, 0, none⟩) L L) L S ∧ Below b w wr

/-- What the outer loop holds on to. -/
def MulOut (A B L b : Nat) (w wr : World) (k : Nat) : Prop := Hol b wr (.slice (some ⟨b, 0, none⟩) L L) L (A % 4294967296 ^ k * B) ∧ Below b w wr

theorem mulIn_start {A B q L b : Nat} {w wr : World} {k : Nat} (h : MulOut A B L b w wr k) (hB : B < 4294967296 ^ q) : MulIn A B q L b w wr k 0 0 := by
  refine ⟨A % 4294967296 ^ k * B, by simp [Nat.mod_one], ?_, h.1, h.2⟩
  rw [Nat.pow_add]
  exact Nat.mul_lt_mul_of_lt_of_le (Nat.mod_lt _ (pow_pos' k)) (Nat.le_of_lt hB) (pow_pos' q)

theorem mulIn_next {A B q L b : Nat} {w wr : World} {k j C S : Nat} (he : S + C * 4294967296 ^ (k + j) = A % 4294967296 ^ k * B + wd A k * (B % 4294967296 ^ j) * 4294967296 ^ k) (hS : S < 4294967296 ^ (k + q)) (hH : Hol b wr (.slice (some ⟨b, 0, none⟩) L L) L S) (hbl : Below b w wr)
    (hj : j < q) (hL : k + q < L) (_hC : C < 4294967296) (nq : Nat) (o : Nat) (ho : wd S (k + j) = o) :
    MulIn A B q L b w ((wr.drewN nq).setCell ⟨b, k + j, none⟩ (.int .u32 (((wd A k * wd B j + o + C) % 4294967296 : Nat) : Int))) k (j + 1) ((wd A k * wd B j + o + C) / 4294967296) := by
  have hH2 : Hol b (wr.drewN nq) (.slice (some ⟨b, 0, none⟩) L L) L S := hH.below (below_drewN (Below.refl _ _) _)
  have hy : (wd A k * wd B j + o + C) % 4294967296 < 4294967296 := Nat.mod_lt _ (by decide)
  refine ⟨putW S (k + j) ((wd A k * wd B j + o + C) % 4294967296), ?_, put_lt hy hS (by omega), hH2.put (k + j) (by omega) _ hy, (below_drewN hbl _).setCell (Nat.le_refl _) _⟩
  have h1 := put_eq S (k + j) ((wd A k * wd B j + o + C) % 4294967296)
  rw [ho] at h1
  have h2 := mul_step he rfl _ h1
  rw [← Nat.add_assoc, pow_succ', h2, mod_succ]
  rw [Nat.mul_add, Nat.add_mul, Nat.pow_add]
  have e : wd A k * wd B j * (4294967296 ^ k * 4294967296 ^ j) = wd A k * (wd B j * 4294967296 ^ j) * 4294967296 ^ k := by ac_rfl
  omega

theorem mulIn_end {A B q L b : Nat} {w wr : World} {k C S : Nat} (he : S + C * 4294967296 ^ (k + q) = A % 4294967296 ^ k * B + wd A k * (B % 4294967296 ^ q) * 4294967296 ^ k) (hS : S < 4294967296 ^ (k + q)) (hH : Hol b wr (.slice (some ⟨b, 0, none⟩) L L) L S) (hbl : Below b w wr)
    (hB : B < 4294967296 ^ q) (hL : k + q < L) (hC : C < 4294967296) :
    MulOut A B L b w (wr.setCell ⟨b, k + q, none⟩ (.int .u32 (C : Int))) (k + 1) := by
  refine ⟨?_, hbl.setCell (Nat.le_refl _) _⟩
  have h0 : wd S (k + q) = 0 := wd_past hS (Nat.le_refl _)
  have h1 := put_eq S (k + q) C
  rw [h0, Nat.zero_mul, Nat.add_zero, he, Nat.mod_eq_of_lt hB] at h1
  have h2 := hH.put (k + q) hL C hC
  rw [h1] at h2
  rw [mod_succ, Nat.add_mul]
  have e : wd A k * B * 4294967296 ^ k = wd A k * 4294967296 ^ k * B := by ac_rfl
  rwa [e] at h2

theorem wrap_natM (x y : Nat) (h : x * y < 18446744073709551616) : IntKind.u64.wrap ((x : Int) * (y : Int)) = ((x * y : Nat) : Int) := by
  rw [← Int.natCast_mul, IntKind.wrap_u64]
  omega

set_option maxHeartbeats 4000000 in
theorem mul_any {w : World} {v u : Value} {m A B : Nat} (ha : Nt w v m A) (hb : Nt w u m B) (hm : m ≤ 1000) :
    Calls Try.prog 18 #[v, u] w fun e w' => Below w.heap.size w w' ∧ ∃ v', e = .returned v' ∧ Nt w' v' (2 * m + 1) (A * B) := by
  obtain ⟨i0, hi, hz0, hz1, hz2⟩ := info_parts Try.info48
  obtain ⟨n, hn, hh, ht⟩ := ha
  obtain ⟨q, hq, hh2, ht2⟩ := hb
  obtain ⟨ao, cap, rfl, hcap, hcell⟩ := hh.shape
  obtain ⟨bo, cap2, rfl, hcap2, hcell2⟩ := hh2.shape
  have HLA : Hid (A < 4294967296 ^ n) := hh.1
  have HLB : Hid (B < 4294967296 ^ q) := hh2.1
  have HC : Hid (∀ k, k < n → ∃ g, ao = some ⟨g, 0, none⟩ ∧ 0 ≤ g ∧ g < w.heap.size ∧ w.cell? ⟨g, k, none⟩ = some (.int .u32 ((wd A k : Nat) : Int))) := hcell
  have HC2 : Hid (∀ k, k < q → ∃ g, bo = some ⟨g, 0, none⟩ ∧ 0 ≤ g ∧ g < w.heap.size ∧ w.cell? ⟨g, k, none⟩ = some (.int .u32 ((wd B k : Nat) : Int))) := hcell2
  clear hh hh2 hcell hcell2 ht ht2
  go_enter Try.func18, Try.ntmps18
  go_wp2_with (at_make; refine wpList_make_full _ rfl _ _ 37 rfl w.heap.size 48 i0 (.int .u32 0) 1 Try.underlying37 hi hz0 hz1 .i64 .i64 _ _ (n + q + 1) rfl rfl (by omega) (by omega) (by rw [hz2]; omega) (by unfold maxLen; omega) (Nat.le_refl _) ?_; intro w1 hown hgrow)
  have HM : Hid (MulOut A B (n + q + 1) w.heap.size w w1 0) := by
    refine ⟨?_, (Below.refl _ _).grown hgrow (Nat.le_refl _) (fun k hk => by cases hk)⟩
    rw [Nat.pow_zero, Nat.mod_one, Nat.zero_mul]
    exact hol_made hown
  clear hown hgrow
  go_loopw [6] (fun i wr => ∃ k : Nat, i = .int .i64 k ∧ k ≤ n ∧ Hid (MulOut A B (n + q + 1) w.heap.size w wr k)) (fun i _ => n - (intOf i).toNat)
  case atStart => exact ⟨0, by go_num, by omega, HM⟩
  case round =>
    obtain ⟨k, rfl, hk, hrel⟩ := hrel
    by_cases h1 : k < n
    · have HI : Hid (MulIn A B q (n + q + 1) w.heap.size w wr k 0 0) := mulIn_start hrel.out HLB.out
      clear hrel
      go_wp2
      go_loopw [7, 8] (fun c i wi => ∃ C j : Nat, c = .int .u64 C ∧ i = .int .i64 j ∧ j ≤ q ∧ C < 4294967296 ∧ Hid (MulIn A B q (n + q + 1) w.heap.size w wi k j C)) (fun _ i _ => q - (intOf i).toNat)
      case atStart => exact ⟨0, 0, by go_num, by go_num, by omega, by decide, HI⟩
      case round =>
        obtain ⟨C, j, rfl, rfl, hj, hC, hrel2⟩ := hrel
        obtain ⟨S, he, hS, hH, hbl⟩ := hrel2.out
        have hsz := hbl.size
        by_cases h2 : j < q
        · obtain ⟨g, rfl, hc⟩ := cells_of HC.out hbl (Nat.le_refl _) h1
          obtain ⟨g2, rfl, hc2⟩ := cells_of HC2.out hbl (Nat.le_refl _) h2
          have c3 := hH.cell (k + j) (by omega)
          have f3 := hH.free (k + j)
          have R := fun nq o ho => mulIn_next he hS hH hbl h2 (by omega) hC nq o ho
          have ho := wd_lt S (k + j)
          generalize hoo : wd S (k + j) = o at *
          obtain ⟨s1, s2, s3⟩ := mul_small (wd_lt A k) (wd_lt B j) ho hC
          have m1 := wrap_natM (wd A k) (wd B j) s3
          have R2 : Hid (∀ nq, MulIn A B q (n + q + 1) w.heap.size w ((wr.drewN nq).setCell ⟨w.heap.size, k + j, none⟩ (.int .u32 ((((wd A k * wd B j : Nat) : Int) + o + C) % 4294967296))) k (j + 1) ((wd A k * wd B j + o + C) / 4294967296)) := fun nq => by
            have := R nq o rfl
            rwa [show (((wd A k * wd B j + o + C) % 4294967296 : Nat) : Int) = (((wd A k * wd B j : Nat) : Int) + o + C) % 4294967296 by omega] at this
          clear R hoo he hS hH hrel2 HC HC2 hbl
          have wA := wd_lt A k
          have wB := wd_lt B j
          have u1 : IntKind.u64.wrap ((wd A k : Nat) : Int) = ((wd A k : Nat) : Int) := by rw [IntKind.wrap_u64]; omega
          have u2 : IntKind.u64.wrap ((wd B j : Nat) : Int) = ((wd B j : Nat) : Int) := by rw [IntKind.wrap_u64]; omega
          have u3 : IntKind.u64.wrap (o : Int) = (o : Int) := by rw [IntKind.wrap_u64]; omega
          generalize wd A k * wd B j = pp at *
          have u4 : IntKind.u64.wrap ((pp : Int) + o) = (pp : Int) + o := by rw [IntKind.wrap_u64]; omega
          have u5 : IntKind.u64.wrap ((pp : Int) + o + C) = (pp : Int) + o + C := by rw [IntKind.wrap_u64]; omega
          go_wp2
          go_quiet (fail)
          go_wp2
          go_roundw
          case rel => exact ⟨(pp + o + C) / 4294967296, j + 1, by go_num, by go_num, by omega, by omega, R2.out _⟩
          case measure => simp [intOf]; omega
        · obtain rfl : j = q := by omega
          have c3 := hH.cell (k + j) (by omega)
          have f3 := hH.free (k + j)
          rw [wd_past hS (Nat.le_refl _)] at c3
          have R : Hid (MulOut A B (n + j + 1) w.heap.size w (wr.setCell ⟨w.heap.size, k + j, none⟩ (.int .u32 (C : Int))) (k + 1)) := mulIn_end he hS hH hbl HLB.out (by omega) hC
          clear he hS hH hrel2 HC HC2 hbl
          go_wp2
          go_roundw
          case rel => exact ⟨k + 1, by go_num, by omega, R⟩
          case measure => simp [intOf]; omega
    · obtain rfl : k = n := by omega
      obtain ⟨hH, hbl⟩ := hrel.out
      rw [mod_past HLA.out (Nat.le_refl _)] at hH
      have HH := hH.zero
      clear HC HC2 hrel hH
      go_wp2_with (go_at_call 22; refine (trim_any HH (by omega)).mono ?_; rintro e w' ⟨rfl, v', rfl, hv⟩)
      go_ret
      refine ⟨hbl, _, rfl, ?_⟩
      obtain ⟨n', hn', r⟩ := hv
      exact ⟨n', by omega, r⟩
end Go.Proofs.Ytmpbhmmhdllkhaa.Q

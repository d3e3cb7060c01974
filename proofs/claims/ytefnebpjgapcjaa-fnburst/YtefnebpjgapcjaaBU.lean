/- FnBurst: bursts in plain numbers, the law. -/
import Derived.Test.YtefnebpjgapcjaaWW
import Derived.Test.YtefnebpjgapcjaaD1
namespace Go.Proofs.Ytefnebpjgapcjaa
open Go.RowKit

theorem wpl_full {L n k r : Nat} (hk : k < L) (hn : r * L ≤ n) (i : Nat) (hi : i ≤ r) : (wpl L n k i).length = i ∧ ∀ j, j < i → (wpl L n k i)[j]? = some (j * L + k) := by
  induction i with
  | zero => exact ⟨rfl, fun j hj => by omega⟩
  | succ i ih =>
    obtain ⟨h1, h2⟩ := ih (by omega)
    have h3 : i * L + k < n := by
      have h4 := Nat.mul_le_mul_right L (show i + 1 ≤ r from hi)
      rw [Nat.add_mul, Nat.one_mul] at h4
      omega
    rw [wpl, if_pos h3]
    refine ⟨by rw [List.length_append, h1, List.length_singleton], fun j hj => ?_⟩
    by_cases h5 : j = i
    · subst h5; rw [List.getElem?_append_right (by omega), h1, Nat.sub_self]; rfl
    · rw [List.getElem?_append_left (by omega)]; exact h2 j (by omega)

theorem wcl_full {L n r : Nat} (hn : r * L ≤ n) (a : Nat) (ha : a ≤ L) : (wcl L n r a).length = a * r ∧ ∀ k i, k < a → i < r → (wcl L n r a)[k * r + i]? = some (i * L + k) := by
  induction a with
  | zero => exact ⟨by rw [Nat.zero_mul]; rfl, fun k i hk => by omega⟩
  | succ a ih =>
    obtain ⟨h1, h2⟩ := ih (by omega)
    obtain ⟨h3, h4⟩ := wpl_full (L := L) (n := n) (k := a) (r := r) (by omega) hn r (Nat.le_refl _)
    rw [wcl]
    refine ⟨by rw [List.length_append, h1, h3, Nat.add_mul, Nat.one_mul], fun k i hk hi => ?_⟩
    by_cases h5 : k = a
    · subst h5; rw [List.getElem?_append_right (by omega), h1, Nat.add_sub_cancel_left]; exact h4 i hi
    · have h6 := Nat.mul_le_mul_right r (show k + 1 ≤ a by omega)
      rw [Nat.add_mul, Nat.one_mul] at h6
      rw [List.getElem?_append_left (by omega)]; exact h2 k i (by omega) hi

theorem wln_whole {r L : Nat} (hr : 0 < r) : wln (r * L) r = L := by
  unfold wln
  rw [show r * L + r - 1 = r * L + (r - 1) by omega, Nat.mul_add_div hr, Nat.div_eq_of_lt (by omega), Nat.add_zero]

theorem pla_whole {r L k i : Nat} (hr : 0 < r) (hk : k < L) (hi : i < r) : pla (r * L) r (k * r + i) = i * L + k := by
  unfold pla wov
  rw [wln_whole hr, List.getD_eq_getElem?_getD, (wcl_full (Nat.le_refl _) L (Nat.le_refl _)).2 k i hk hi]
  rfl

/-- What is woven back, where the rows divide the length. -/
theorem uwf_whole {r L m : Nat} (hr : 0 < r) (xs : Nat → Int) (hm : m < r * L) : uwf (r * L) r xs (r * L) m = xs (m % L * r + m / L) := by
  have hL : 0 < L := by
    rcases Nat.eq_zero_or_pos L with h | h
    · rw [h] at hm; omega
    · exact h
  obtain ⟨j, hj, rfl⟩ := pla_all hr hm
  refine uwf_at (ys := fun m => xs (m % L * r + m / L)) hr (fun j hj => ?_) _ (Nat.le_refl _) j hj
  have h1 := Nat.div_add_mod j r
  have h2 := Nat.mod_lt j hr
  have h3 : j / r < L := by rw [Nat.div_lt_iff_lt_mul hr, Nat.mul_comm]; exact hj
  have h4 := pla_whole hr h3 h2
  rw [show j / r * r + j % r = j by rw [Nat.mul_comm]; exact h1] at h4
  show xs j = xs (pla (r * L) r j % L * r + pla (r * L) r j / L)
  rw [h4, Nat.mul_comm (j % r) L, Nat.mul_add_mod, Nat.mod_eq_of_lt h3, Nat.mul_add_div hL, Nat.div_eq_of_lt h3, Nat.add_zero, Nat.mul_comm (j / r) r, h1]

/-- A burst. -/
def brs (b i j : Nat) : Int := if b ≤ j ∧ j < b + i then 1 else 0

theorem brs_zero (b : Nat) : brs b 0 = fun _ => 0 := by
  funext j
  unfold brs
  rw [if_neg (by omega)]

theorem brs_put (b i : Nat) : (fun j => if j = b + i then (1 : Int) else brs b i j) = brs b (i + 1) := by
  funext j
  show (if j = b + i then (1 : Int) else brs b i j) = brs b (i + 1) j
  unfold brs
  by_cases h : j = b + i
  · rw [if_pos h, if_pos (by omega)]
  · rw [if_neg h]
    by_cases h1 : b ≤ j ∧ j < b + i
    · rw [if_pos h1, if_pos (by omega)]
    · rw [if_neg h1, if_neg (by omega)]

/-- Where a row has its 1. -/
def cl1 (b r i : Nat) : Nat := if i < b % r then b / r + 1 else b / r
def pl1 (b r L i : Nat) : Nat := i * L + cl1 b r i

theorem cl1_iff {b r k i : Nat} (hr : 0 < r) (hi : i < r) : (b ≤ k * r + i ∧ k * r + i < b + r) ↔ k = cl1 b r i := by
  have h1 := Nat.div_add_mod b r
  have h2 := Nat.mod_lt b hr
  rw [Nat.mul_comm] at h1
  unfold cl1
  constructor
  · intro ⟨h3, h4⟩
    by_cases h5 : i < b % r
    · rw [if_pos h5]
      rcases Nat.lt_trichotomy k (b / r + 1) with h6 | h6 | h6
      · have h7 := Nat.mul_le_mul_right r (show k ≤ b / r by omega)
        omega
      · exact h6
      · have h7 := Nat.mul_le_mul_right r (show b / r + 1 + 1 ≤ k by omega)
        rw [Nat.add_mul, Nat.add_mul, Nat.one_mul] at h7
        omega
    · rw [if_neg h5]
      rcases Nat.lt_trichotomy k (b / r) with h6 | h6 | h6
      · have h7 := Nat.mul_le_mul_right r (show k + 1 ≤ b / r by omega)
        rw [Nat.add_mul, Nat.one_mul] at h7
        omega
      · exact h6
      · have h7 := Nat.mul_le_mul_right r (show b / r + 1 ≤ k by omega)
        rw [Nat.add_mul, Nat.one_mul] at h7
        omega
  · intro h3
    subst h3
    split
    · rw [Nat.add_mul, Nat.one_mul]; omega
    · omega

theorem cl1_lt {b r L : Nat} (hr : 0 < r) (hL : 0 < L) (hb : b ≤ r * L - r) (i : Nat) : cl1 b r i < L ∧ (cl1 b r i = b / r ∨ (cl1 b r i = b / r + 1 ∧ b / r + 1 < L)) := by
  have h1 := Nat.div_add_mod b r
  have h2 := Nat.mod_lt b hr
  obtain ⟨M, rfl⟩ : ∃ M, L = M + 1 := ⟨L - 1, by omega⟩
  rw [Nat.mul_add, Nat.mul_one] at hb
  unfold cl1
  by_cases h5 : i < b % r
  · rw [if_pos h5]
    have h6 : b / r < M := by
      rcases Nat.lt_or_ge (b / r) M with h | h
      · exact h
      · have h7 := Nat.mul_le_mul_left r h
        omega
    exact ⟨by omega, .inr ⟨rfl, by omega⟩⟩
  · rw [if_neg h5]
    have h6 : b / r ≤ M := by
      rcases Nat.lt_or_ge M (b / r) with h | h
      · have h7 := Nat.mul_le_mul_left r (show M + 1 ≤ b / r from h)
        rw [Nat.mul_add, Nat.mul_one] at h7
        omega
      · exact h
    exact ⟨by omega, .inl rfl⟩

theorem pl1_gap {b r L : Nat} (hr : 0 < r) (hL : 0 < L) (hb : b ≤ r * L - r) (i : Nat) : pl1 b r L i + L ≤ pl1 b r L (i + 1) + 1 ∧ pl1 b r L i < pl1 b r L (i + 1) := by
  have h1 := cl1_lt hr hL hb i
  have h2 := cl1_lt hr hL hb (i + 1)
  unfold pl1
  rw [Nat.add_mul, Nat.one_mul]
  omega

theorem pl1_mono {b r L : Nat} (hr : 0 < r) (hL : 0 < L) (hb : b ≤ r * L - r) {i j : Nat} (h : i < j) : pl1 b r L i < pl1 b r L j := by
  induction j with
  | zero => omega
  | succ j ih =>
    have h1 := (pl1_gap hr hL hb j).2
    by_cases h2 : i = j
    · subst h2; exact h1
    · exact Nat.lt_trans (ih (by omega)) h1

theorem pl1_lt {b r L : Nat} (hr : 0 < r) (hL : 0 < L) (hb : b ≤ r * L - r) {i : Nat} (hi : i < r) : pl1 b r L i < r * L := by
  have h1 := (cl1_lt hr hL hb i).1
  have h2 := Nat.mul_le_mul_right L (show i + 1 ≤ r from hi)
  rw [Nat.add_mul, Nat.one_mul] at h2
  unfold pl1
  omega

/-- The burst, woven back. -/
def bck (b r L m : Nat) : Int := uwf (r * L) r (brs b r) (r * L) m

theorem bck_at {b r L i : Nat} (hr : 0 < r) (hL : 0 < L) (hb : b ≤ r * L - r) (hi : i < r) : bck b r L (pl1 b r L i) = 1 := by
  have h0 := (cl1_lt hr hL hb i).1
  unfold bck
  rw [uwf_whole hr _ (pl1_lt hr hL hb hi)]
  unfold pl1
  rw [Nat.mul_comm i L, Nat.mul_add_mod, Nat.mod_eq_of_lt h0, Nat.mul_add_div hL, Nat.div_eq_of_lt h0, Nat.add_zero]
  unfold brs
  rw [if_pos ((cl1_iff hr hi).2 rfl)]

theorem bck_no {b r L m : Nat} (hr : 0 < r) (hL : 0 < L) (_ : b ≤ r * L - r) (hm : m < r * L) (h : ∀ i, i < r → m ≠ pl1 b r L i) : bck b r L m = 0 := by
  have hi : m / L < r := by rw [Nat.div_lt_iff_lt_mul hL]; exact hm
  unfold bck
  rw [uwf_whole hr _ hm]
  unfold brs
  rw [if_neg]
  intro h1
  have h2 := (cl1_iff hr hi).1 h1
  refine h _ hi ?_
  unfold pl1
  rw [← h2, Nat.mul_comm]
  exact (Nat.div_add_mod m L).symm
theorem at_any {w : World} {a : Option Addr} {len cap : Nat} (hr : Row w a len) (hl : len ≤ 1048576) (i : Nat) (hi : i ≤ 100) : Calls Try.prog 5 #[.slice a len cap, .int .i64 (i : Int)] w fun e w' => ∃ x : Int, 0 ≤ x ∧ x < 256 ∧ e = .returned (.int .i64 x) ∧ w' = w := by
  by_cases h : i < len
  · obtain ⟨b, off, z, rfl, hlt, hc, h0, h1⟩ := hr i h
    have e1 : IntKind.i64.wrap z = z := by rw [IntKind.wrap_i64]; omega
    clear hr
    go_enter Try.func5, Try.ntmps5
    go_wp2
    go_ret
    exact ⟨z, h0, h1, rfl, rfl⟩
  · obtain ⟨x, hx⟩ : ∃ x : Int, x = ((i : Int) * 7 + (len : Int)) % 256 := ⟨_, rfl⟩
    have e1 : ((i : Int) * 7 + (len : Int)) % 256 = x := hx.symm
    have e2 : ((i : Int) * 7 + (len : Int)).tmod 256 = x := by rw [Int.tmod_eq_emod_of_nonneg (by omega)]; exact e1
    have hb : 0 ≤ x ∧ x < 256 := by omega
    clear hr hx
    go_enter Try.func5, Try.ntmps5
    go_wp2
    go_ret
    exact ⟨x, hb.1, hb.2, rfl, rfl⟩

set_option maxHeartbeats 8000000 in
theorem walk_burst {w : World} {a : Option Addr} {len cap : Nat} (hr : Row w a len) (hl : len ≤ 9223372036854775807) :
    Calls Try.prog 3 #[.slice a len cap] w fun e w' => e = .returned (.bool true) ∧ Below w.heap.size w w' := by
  have ib := big_x (w := w) a len cap hl
  by_cases h0 : len ≤ 1048576
  · rw [decide_eq_false (by omega)] at ib
    have a0 : Calls Try.prog 5 #[.slice a len cap, .int .i64 0] w fun e w' => ∃ x : Int, 0 ≤ x ∧ x < 256 ∧ e = .returned (.int .i64 x) ∧ w' = w := at_any hr h0 0 (by omega)
    have a1 : Calls Try.prog 5 #[.slice a len cap, .int .i64 1] w fun e w' => ∃ x : Int, 0 ≤ x ∧ x < 256 ∧ e = .returned (.int .i64 x) ∧ w' = w := at_any hr h0 1 (by omega)
    have HRW : Hid (Row w a len) := hr
    clear hr
    go_enter Try.func3, Try.ntmps3
    go_upto_region 5 with (first
      | (go_at_call 4; (with_reducible refine (ib).mono ?_); rintro e w' ⟨rfl, hw⟩; obtain rfl := hw.symm)
      | (go_at_call 5; (with_reducible refine a0.mono ?_); rintro e w' ⟨x0, h00, h01, rfl, hw⟩; obtain rfl := hw.symm; obtain ⟨r0, hr0⟩ : ∃ r0 : Nat, (r0 : Int) = x0 % 16 := ⟨(x0 % 16).toNat, (by omega)⟩; have f0 : x0 % 16 = (r0 : Int) := hr0.symm; have f1 : x0.tmod 16 = (r0 : Int) := (by rw [Int.tmod_eq_emod_of_nonneg (by omega)]; exact f0); obtain ⟨r, hrr⟩ : ∃ r : Nat, r = r0 + 1 := ⟨_, rfl⟩; have f2 : 1 + (r0 : Int) = (r : Int) := (by omega); have hrb : 1 ≤ r ∧ r ≤ 16 := (by omega); clear hr0 hrr)
      | (go_at_call 5; (with_reducible refine a1.mono ?_); rintro e w' ⟨x1, h10, h11, rfl, hw⟩; obtain rfl := hw.symm; obtain ⟨l0, hl0⟩ : ∃ l0 : Nat, (l0 : Int) = x1 % 20 := ⟨(x1 % 20).toNat, (by omega)⟩; have f3 : x1 % 20 = (l0 : Int) := hl0.symm; have f4 : x1.tmod 20 = (l0 : Int) := (by rw [Int.tmod_eq_emod_of_nonneg (by omega)]; exact f3); obtain ⟨L, hLL⟩ : ∃ L : Nat, L = l0 + 1 := ⟨_, rfl⟩; have f5 : 1 + (l0 : Int) = (L : Int) := (by omega); have hLb : 1 ≤ L ∧ L ≤ 20 := (by omega); clear hl0 hLL; obtain ⟨n, hn⟩ : ∃ n : Nat, n = r * L := ⟨_, rfl⟩; have f6 : (r : Int) * (L : Int) = (n : Int) := (by rw [hn]; exact (Int.natCast_mul r L).symm); have HN : Hid (n = r * L) := hn; have hnb : n ≤ 320 := (by rw [hn]; exact Nat.mul_le_mul hrb.2 hLb.2); have hrn : r ≤ n := (by rw [hn]; exact Nat.le_mul_of_pos_right r (by omega)); clear hn))
    clear ib a0 a1
    have hmr := mkd_run w (k := n) (by omega)
    have OW : Hid ((mkd w n).ownsRow w.heap.size 3 1 (.slice (some ⟨w.heap.size, 0, none⟩) n n) n (ils (fun _ => 0) n)) := mkd_own w (by omega) (Nat.le_refl _)
    have BL : Hid (Below w.heap.size w (mkd w n)) := mkd_below _ _
    have a2 : Calls Try.prog 5 #[.slice a len cap, .int .i64 2] (mkd w n) fun e w' => ∃ x : Int, 0 ≤ x ∧ x < 256 ∧ e = .returned (.int .i64 x) ∧ w' = mkd w n := at_any (HRW.out.below BL.out) h0 2 (by omega)
    obtain ⟨d0, hd0⟩ : ∃ d0 : Nat, d0 = n - r := ⟨_, rfl⟩
    have g0 : (n : Int) - (r : Int) = (d0 : Int) := by omega
    obtain ⟨d, hd⟩ : ∃ d : Nat, d = d0 + 1 := ⟨_, rfl⟩
    have g1 : (d0 : Int) + 1 = (d : Int) := by omega
    have g2 : ¬ ((d : Int) = 0) := by omega
    have hdn : d + r = n + 1 := by omega
    clear hd hd0 f0 f1 f2 f3 f4 f5 h00 h01 h10 h11
    go_wp2_with (first
      | (go_at_call 5; (with_reducible refine a2.mono ?_); rintro e w' ⟨x2, h20, h21, rfl, hw⟩; obtain rfl := hw.symm; have hx2 := Int.emod_nonneg x2 g2; have hx3 := Int.emod_lt_of_pos x2 (show 0 < (d : Int) by omega); obtain ⟨b, hb⟩ : ∃ b : Nat, (b : Int) = x2 % (d : Int) := ⟨(x2 % (d : Int)).toNat, (by omega)⟩; have f7 : x2 % (d : Int) = (b : Int) := hb.symm; have f8 : x2.tmod (d : Int) = (b : Int) := (by rw [Int.tmod_eq_emod_of_nonneg (by omega)]; exact f7); have hbd : b < d := (by omega); clear hb hx2 hx3))
    clear a2 hmr f7 f8 g0 g1 g2 h20 h21
    generalize mkd w n = W at *
    go_loopw [8] (fun i wr => ∃ k : Nat, i = .int .i64 (k : Int) ∧ k ≤ r ∧ Hid (wr.ownsRow w.heap.size 3 1 (.slice (some ⟨w.heap.size, 0, none⟩) n n) n (ils (brs b k) n) ∧ Below w.heap.size w wr)) (fun i _ => r - (intOf i).toNat)
    case atStart => exact ⟨0, rfl, by omega, by rw [brs_zero]; exact OW.out, BL.out⟩
    case round =>
      clear OW BL
      obtain ⟨k, rfl, hk, hrel⟩ := hrel
      by_cases h1 : k < r
      · obtain ⟨q, hq⟩ : ∃ q : Nat, q = b + k := ⟨_, rfl⟩
        have f9 : (b : Int) + (k : Int) = (q : Int) := by omega
        have hqn : q < n := by omega
        have hrow := hrel.out.1
        have hfz := hrow.frozenAt q
        have hce := hrow.cellAt q (by omega)
        rw [ils_get hqn] at hce
        obtain ⟨y, hce⟩ : ∃ y, wr.cell? ⟨w.heap.size, q, none⟩ = some (.int .i64 y) := ⟨_, hce⟩
        have st := (hrow.stored q (.int .i64 1)).1
        rw [ils_put, hq, brs_put, ← hq] at st
        have HO4 : Hid ((wr.setCell ⟨w.heap.size, q, none⟩ (.int .i64 1)).ownsRow w.heap.size 3 1 (.slice (some ⟨w.heap.size, 0, none⟩) n n) n (ils (brs b (k + 1)) n)) := st
        have HB4 : Hid (Below w.heap.size w (wr.setCell ⟨w.heap.size, q, none⟩ (.int .i64 1))) := hrel.out.2.setCell (p := ⟨w.heap.size, q, none⟩) (Nat.le_refl _) _
        clear hq hrow st hrel
        go_wp2
        go_roundw
        case rel => exact ⟨k + 1, by go_num, by omega, HO4.out, HB4.out⟩
        case measure => simp [intOf]; omega
      · obtain rfl : r = k := by omega
        have iu := iUnw_good (il_of_own hrel.out.1) (r := r) ⟨by omega, by omega, by omega⟩
        have HB : Hid (Below w.heap.size w wr) := hrel.out.2
        have HBB : Hid (0 < r ∧ 0 < L ∧ b ≤ r * L - r) := ⟨by omega, by omega, by rw [← HN.out]; omega⟩
        clear hrel
        go_wp2_with (first | (go_at_call 6; (with_reducible refine iu.mono ?_); rintro e w1 ⟨u, rfl, ho, hb⟩; have HO : Hid (w1.ownsRow wr.heap.size 3 1 u n (ils (bck b r L) n)) := (by have h9 : bck b r L = uwf n r (brs b r) n := (by funext m; unfold bck; rw [← HN.out]); rw [h9]; exact ho); have HB1 : Hid (Below w.heap.size w w1) := bstep HB.out hb; obtain ⟨ua, uc, rfl⟩ : ∃ ua uc, u = .slice ua n uc := own_slice ho; clear ho hb))
        clear iu
        go_loopw [11, 12, 13] (fun la ma i w2 => ∃ (m c : Nat) (lv : Int), i = .int .i64 (m : Int) ∧ ma = .int .i64 (c : Int) ∧ la = .int .i64 lv ∧ m ≤ n ∧ c ≤ r ∧ -(n : Int) ≤ lv ∧ lv ≤ n ∧ w2 = w1 ∧ Hid ((∀ i, i < c → pl1 b r L i < m) ∧ (∀ i, c ≤ i → i < r → m ≤ pl1 b r L i) ∧ lv = if c = 0 then -(n : Int) else ((pl1 b r L (c - 1) : Nat) : Int))) (fun _ _ i _ => n - (intOf i).toNat)
        case atStart => exact ⟨0, 0, _, rfl, rfl, rfl, by omega, by omega, by omega, by omega, rfl, fun i hi => absurd hi (by omega), fun i _ _ => Nat.zero_le _, by rw [if_pos rfl]⟩
        case round =>
          rename World => w2
          obtain ⟨m, c, lv, rfl, rfl, rfl, hm, hc, hlv0, hlv1, hw2, hrel⟩ := hrel
          obtain rfl : w1 = w2 := hw2.symm
          have hB := HBB.out
          by_cases h2 : m < n
          · obtain ⟨b2, off2, rfl, hlt2, hcell2⟩ := il_cells (il_of_own HO.out) (by omega)
            have c2 := hcell2 m h2
            by_cases h3 : c < r ∧ m = pl1 b r L c
            · have e1 : bck b r L m = 1 := by rw [h3.2]; exact bck_at hB.1 hB.2.1 hB.2.2 h3.1
              rw [e1] at c2
              have hLn : L ≤ n := by rw [HN.out]; exact Nat.le_mul_of_pos_left L (by omega)
              have hgap : ¬ ((m : Int) - lv < (L : Int) - 1) := by
                rw [hrel.out.2.2]
                by_cases h4 : c = 0
                · rw [if_pos h4]; omega
                · rw [if_neg h4]
                  have h5 := (pl1_gap hB.1 hB.2.1 hB.2.2 (c - 1)).1
                  rw [show c - 1 + 1 = c by omega, ← h3.2] at h5
                  omega
              have HR2 : Hid ((∀ i, i < c + 1 → pl1 b r L i < m + 1) ∧ (∀ i, c + 1 ≤ i → i < r → m + 1 ≤ pl1 b r L i) ∧ (m : Int) = if c + 1 = 0 then -(n : Int) else ((pl1 b r L (c + 1 - 1) : Nat) : Int)) := by
                refine ⟨fun i hi => ?_, fun i hi hir => ?_, ?_⟩
                · by_cases h4 : i = c
                  · subst h4; rw [← h3.2]; omega
                  · exact Nat.lt_succ_of_lt (hrel.out.1 i (by omega))
                · have h5 := pl1_mono hB.1 hB.2.1 hB.2.2 (show c < i by omega); rw [← h3.2] at h5; omega
                · rw [if_neg (by omega), Nat.add_sub_cancel, ← h3.2]
              have h31 := h3.1
              clear hrel h3 e1 hcell2 hB hLn
              go_wp2
              go_roundw
              case rel => exact ⟨m + 1, c + 1, _, by go_num, by go_num, rfl, by omega, by omega, by omega, by omega, by trivial, HR2.out⟩
              case measure => simp [intOf]; omega
            · have e1 : bck b r L m = 0 := by
                refine bck_no hB.1 hB.2.1 hB.2.2 (by rw [← HN.out]; exact h2) (fun i hi e => ?_)
                rcases Nat.lt_trichotomy i c with h4 | h4 | h4
                · have h5 := hrel.out.1 i h4; omega
                · subst h4; exact h3 ⟨hi, e⟩
                · have h5 := hrel.out.2.1 c (Nat.le_refl _) (by omega)
                  have h6 := pl1_mono hB.1 hB.2.1 hB.2.2 h4
                  omega
              rw [e1] at c2
              have HR2 : Hid ((∀ i, i < c → pl1 b r L i < m + 1) ∧ (∀ i, c ≤ i → i < r → m + 1 ≤ pl1 b r L i) ∧ lv = if c = 0 then -(n : Int) else ((pl1 b r L (c - 1) : Nat) : Int)) := by
                refine ⟨fun i hi => Nat.lt_succ_of_lt (hrel.out.1 i hi), fun i hi hir => ?_, hrel.out.2.2⟩
                have h5 := hrel.out.2.1 i hi hir
                have h6 : m ≠ pl1 b r L i := fun e => by
                  by_cases h7 : i = c
                  · subst h7; exact h3 ⟨hir, e⟩
                  · have h8 := hrel.out.2.1 c (Nat.le_refl _) (by omega)
                    have h9 := pl1_mono hB.1 hB.2.1 hB.2.2 (show c < i by omega)
                    omega
                omega
              clear hrel h3 e1 hcell2 hB
              go_wp2
              go_roundw
              case rel => exact ⟨m + 1, c, _, by go_num, rfl, rfl, by omega, by omega, by omega, by omega, by trivial, HR2.out⟩
              case measure => simp [intOf]; omega
          · obtain rfl : n = m := by omega
            have hcr : c = r := by
              rcases Nat.lt_or_ge c r with h4 | h4
              · have h5 := hrel.out.2.1 c (Nat.le_refl _) h4
                have h6 := pl1_lt hB.1 hB.2.1 hB.2.2 h4
                rw [← HN.out] at h6
                omega
              · omega
            subst hcr
            go_wp2
            go_ret
            exact ⟨rfl, HB1.out⟩
  · rw [decide_eq_true (by omega)] at ib
    clear hr
    go_enter Try.func3, Try.ntmps3
    go_wp2_with (first | (go_at_call 4; (with_reducible refine (ib).mono ?_); rintro e w' ⟨rfl, hw⟩; obtain rfl := hw.symm))
    go_ret
    exact ⟨rfl, Below.refl _ _⟩
end Go.Proofs.Ytefnebpjgapcjaa

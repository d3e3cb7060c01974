/- Average. -/
import Derived.Test.YtocdamhpcadfbaaR1
namespace Go.Proofs.Ytocdamhpcadfbaa
open Go.RowKit

/-- The sums of powers at a place. -/
def avs (X Y : Nat → Nat → Nat) (p : Nat) : Nat → Option Nat
  | 0 => cn 0
  | k + 1 => cop .add (avs X Y p k) (cpw (cn (X k p)) (cn (Y k p)))

/-- A mean. -/
def avv (X Y : Nat → Nat → Nat) (n p : Nat) : Option Nat := cop .quo (avs X Y p n) (cn (fk (n : Int)))

/-- Good for Average. -/
abbrev GA (n : Nat) (ms : Nat → Nat) : Prop := (1 ≤ n ∧ n ≤ 128) ∧ ms 0 ≤ 128 ∧ ∀ k, k < n → ms k = ms 0

/-- What is told: means in memory of the call's own, and a bool. -/
def Pa (w w' : World) (e : Ending) (N : Nat) (C : Nat → Option Nat) (ok : Bool) : Prop := ∃ u zs, e = .returned (.tuple #[u, .bool ok]) ∧ w'.ownsRow w.heap.size 42 1 u N (fls zs N) ∧ (∀ k, k < N → cn (zs k) = C k) ∧ Below w.heap.size w w'

theorem in_any (x lo hi : Int) (w : World) : Calls Try.prog 25 #[.int .i64 x, .int .i64 lo, .int .i64 hi] w fun e w' => e = .returned (.bool (decide (lo ≤ x ∧ x ≤ hi))) ∧ w' = w := by
  go_enter Try.func25, Try.ntmps25
  by_cases h : lo ≤ x
  · by_cases h1 : x ≤ hi
    · go_wp2
      go_ret
      exact ⟨by simp [h, h1], rfl⟩
    · go_wp2
      go_ret
      exact ⟨by simp [h1], rfl⟩
  · go_wp2
    go_ret
    exact ⟨by simp; omega, rfl⟩

/-- The rows one by one. -/
theorem rows_at {w : World} {n b off : Nat} {R : Nat → Value} {ms : Nat → Nat} {X Y : Nat → Nat → Nat} (h : ∀ k, k < n → w.cell? ⟨b, off + k, none⟩ = some (R k) ∧ Fp w (R k) (ms k) (X k) (Y k)) :
    ∀ k, k < n → ∃ qa qc, w.cell? ⟨b, off + k, none⟩ = some (.slice qa (ms k) qc) ∧ Fp w (.slice qa (ms k) qc) (ms k) (X k) (Y k) := fun k hk => by
  obtain ⟨h1, h2⟩ := h k hk
  have h3 := h2
  obtain ⟨qa, qc, hq, _, _⟩ := h3
  rw [hq] at h1 h2
  exact ⟨qa, qc, h1, h2⟩

set_option maxRecDepth 20000 in
set_option maxHeartbeats 4000000 in
theorem sAvg_any {w : World} {v : Value} {n : Nat} {ms : Nat → Nat} {X Y : Nat → Nat → Nat} (hv : Fpp w v n ms X Y) (hn : n ≤ 1048576) (hms : ∀ k, k < n → ms k ≤ 1048576) (N : Nat) (C : Nat → Option Nat) (ok : Bool)
    (hg : GA n ms → N = ms 0 ∧ C = avv X Y n ∧ ok = true) (hb : ¬ GA n ms → N = 0 ∧ ok = false) :
    Calls Try.prog 15 #[v] w fun e w' => Pa w w' e N C ok := by
  obtain ⟨i0, hi, hz0, hz1, hz2⟩ := info_parts Try.info42
  have HG : Hid (GA n ms → N = ms 0 ∧ C = avv X Y n ∧ ok = true) := hg
  have HB : Hid (¬ GA n ms → N = 0 ∧ ok = false) := hb
  have HMS : Hid (∀ k, k < n → ms k ≤ 1048576) := hms
  clear hg hb hms
  have i1 := in_any n 1 128
  obtain ⟨ao, cap, rfl, hcap, hc⟩ := hv
  by_cases h1 : 1 ≤ (n : Int) ∧ (n : Int) ≤ 128
  · rw [decide_eq_true h1] at i1
    obtain ⟨b, off, R, rfl, hlt, hcell⟩ := hc (by omega)
    have hrows := rows_at hcell
    have ROWS : Hid (∀ k, k < n → ∃ qa qc, w.cell? ⟨b, off + k, none⟩ = some (.slice qa (ms k) qc) ∧ Fp w (.slice qa (ms k) qc) (ms k) (X k) (Y k)) := hrows
    obtain ⟨qa0, qc0, c0, _⟩ := hrows 0 (by omega)
    have hm0 := HMS.out 0 (by omega)
    have c0' : (w.alloc (.cells #[] 42)).cell? ⟨b, off, none⟩ = some (.slice qa0 (ms 0) qc0) := ((below_one w (.cells #[] 42)).cell (p := ⟨b, off, none⟩) hlt).trans c0
    have O0 : Hid ((w.alloc (.cells #[] 42)).ownsRow w.heap.size 42 1 (.slice (some ⟨w.heap.size, 0, none⟩) 0 0) 0 []) := own_empty w 42 1
    have HLT : Hid (b < w.heap.size) := hlt
    clear hcell hrows hc c0 hlt
    obtain ⟨m, hm⟩ : ∃ m, m = ms 0 := ⟨_, rfl⟩
    rw [← hm] at c0' hm0
    have HM : Hid (m = ms 0) := hm
    clear hm
    go_enter Try.func15, Try.ntmps15
    go_wp2_with (first | (go_at_call 25; (with_reducible refine (i1 _).mono ?_); rintro e w' ⟨rfl, hw⟩; obtain rfl := hw.symm))
    clear c0'
    go_loopw [6] (fun i wr => ∃ k : Nat, i = .int .i64 k ∧ k ≤ n ∧ wr = w.alloc (.cells #[] 42) ∧ Hid (∀ j, j < k → ms j = m ∧ m ≤ 128)) (fun i _ => n - (intOf i).toNat)
    case atStart => exact ⟨0, rfl, by omega, rfl, fun j hj => by omega⟩
    case round =>
      obtain ⟨k, rfl, hk, rfl, hal⟩ := hrel
      by_cases h2 : k < n
      · obtain ⟨qa, qc, c, _⟩ := ROWS.out k h2
        have c2 : (w.alloc (.cells #[] 42)).cell? ⟨b, off + k, none⟩ = some (.slice qa (ms k) qc) := ((below_one w (.cells #[] 42)).cell (p := ⟨b, off + k, none⟩) HLT.out).trans c
        have hmk := HMS.out k h2
        clear c
        by_cases h3 : ms k = m
        · by_cases h4 : m ≤ 128
          · have HA : Hid (ms k = m ∧ m ≤ 128) := ⟨h3, h4⟩
            rw [h3] at c2
            clear h3
            go_wp2
            go_roundw
            case rel =>
              refine ⟨k + 1, by go_num, by omega, by trivial, fun j hj => ?_⟩
              by_cases hjk : j = k
              · subst hjk; exact HA.out
              · exact hal.out j (by omega)
            case measure => simp [intOf]; omega
          · obtain ⟨rfl, rfl⟩ := HB.out (fun h => h4 (by rw [HM.out]; exact h.2.1))
            rw [h3] at c2
            clear h3
            go_wp2
            go_ret2
            exact ⟨_, fun _ => 0, rfl, O0.out, fun k hk => by omega, below_one _ _⟩
        · obtain ⟨rfl, rfl⟩ := HB.out (fun h => h3 (by rw [HM.out]; exact h.2.2 k h2))
          have h3' : ((ms k : Int) == (m : Int)) = false := by rw [beq_eq_false_iff_ne]; omega
          generalize ms k = mk at *
          go_wp2
          go_ret2
          exact ⟨_, fun _ => 0, rfl, O0.out, fun k hk => by omega, below_one _ _⟩
      · obtain rfl : n = k := by omega
        have hm128 : m ≤ 128 := (hal.out 0 (by omega)).2
        obtain ⟨hN, hC, rfl⟩ := HG.out ⟨by omega, by rw [← HM.out]; exact hm128, fun k hk => by rw [← HM.out]; exact (hal.out k hk).1⟩
        obtain rfl : N = m := by rw [hN, HM.out]
        have HCC : Hid (C = avv X Y n) := hC
        have HAL : Hid (∀ k, k < n → ms k = N) := fun k hk => (hal.out k hk).1
        clear hC hal hN h2 hk HM hm0
        have hA := rAdd
        have hQ := rQuo
        have hfc := fwor_cell
        have hff := fwor_frozen
        go_wp2
        go_loopw [4, 7] (fun o i wr => ∃ k : Nat, i = .int .i64 k ∧ k ≤ N ∧ Hid (∃ zs, wr.ownsRow w.heap.size 42 1 o k (fls zs k) ∧ (∀ j, j < k → cn (zs j) = avv X Y n j) ∧ Below w.heap.size w wr)) (fun _ i _ => N - (intOf i).toNat)
        case atStart => exact ⟨0, rfl, by omega, fun _ => 0, O0.out, fun j hj => by omega, below_one _ _⟩
        case round =>
          obtain ⟨k, rfl, hk, hrel⟩ := hrel
          obtain ⟨zs, hown, hzs, hbl⟩ := hrel.out
          have HZ : Hid (∀ j, j < k → cn (zs j) = avv X Y n j) := hzs
          have HBL : Hid (Below w.heap.size w wr) := hbl
          by_cases h5 : k < N
          · have HO : Hid (wr.ownsRow w.heap.size 42 1 _ k (fls zs k)) := hown
            clear hrel hown hzs hbl
            rename World => wo
            go_wp2
            go_loopw [8, 9] (fun s i wr => ∃ (q x : Nat), i = .int .i64 q ∧ s = .float .f64 x ∧ q ≤ n ∧ Hid (cn x = avs X Y k q ∧ Below wo.heap.size wo wr)) (fun _ i _ => n - (intOf i).toNat)
            case atStart => exact ⟨0, 0, rfl, rfl, by omega, rfl, Below.refl _ _⟩
            case round =>
              obtain ⟨q, x, rfl, rfl, hq, hrel⟩ := hrel
              obtain ⟨hx, hb2⟩ := hrel.out
              by_cases h6 : q < n
              · obtain ⟨qa, qc, c, hfp⟩ := ROWS.out q h6
                have hb3 := bstep HBL.out hb2
                have hmq := HAL.out q h6
                rw [hmq] at c hfp
                have c2 : wr.cell? ⟨b, off + q, none⟩ = some (.slice qa N qc) := (hb3.cell (p := ⟨b, off + q, none⟩) HLT.out).trans c
                obtain ⟨qa', qc', he, hqc, hqq⟩ := hfp.below hb3
                obtain ⟨rfl, -, rfl⟩ := Value.slice.inj he
                obtain ⟨b5, off5, rfl, hlt5, hcell5⟩ := hqq (by omega)
                obtain ⟨d0, d1⟩ := hcell5 k h5
                have EX : Hid (cn x = avs X Y k q) := hx
                have B2 : Hid (Below wo.heap.size wo wr) := hb2
                clear hcell5 hqq hfp c hmq hrel hx hb2 hb3
                go_wp2_with (first | (go_at_call 20; refine (sPow_any _ _ _).mono ?_; rintro e w6 ⟨y, rfl, ey, hb6⟩; have EY : Hid (cn y = cpw (cn (X q k)) (cn (Y q k))) := ey; have B6 : Hid (Below wo.heap.size wo w6) := bstep B2.out hb6; clear ey hb6))
                go_roundw
                case rel => exact ⟨q + 1, _, by go_num, rfl, by omega, by rw [cn_fres, EX.out, EY.out]; rfl, below_fwor B6.out _ _ _⟩
                case measure => simp [intOf]; omega
              · obtain rfl : n = q := by omega
                have EX : Hid (cn x = avs X Y k n) := hx
                have hb3 := below_one (fwor .quo wr x (fk (n : Int))) (.cells #[.float .f64 (fres .quo wr x (fk (n : Int)))] 42)
                have hb4 : Below wo.heap.size wo (fwor .quo wr x (fk (n : Int))) := below_fwor hb2 _ _ _
                have hb5 := bstep hb4 hb3
                have HO3 := own_below HO.out hb5
                have HB3 := bstep HBL.out hb5
                clear hb3 hb4 hb5 hrel hx hb2
                go_wp2_with (first | (at_builtin; refine wpList_append_own _ rfl _ _ 24 rfl w.heap.size 42 i0 (.float .f64 0) 1 8 Try.underlying24 hi hz0 hz1 hz2 rfl (by decide) _ _ _ rfl HO3 ⟨(fwor .quo wr x (fk (n : Int))).heap.size, 0, none⟩ 1 1 [.float .f64 (fres .quo wr x (fk (n : Int)))] rfl rfl (one_new _ _ _) (by simp [Value.oneCell']) (by unfold maxLen; omega) (by omega) HB3.size ?_))
                intro v' w4 hown' hgrow _
                have HB4 : Hid (Below w.heap.size w w4) := grown_below HB3 (Nat.le_refl _) HO3 hgrow
                rw [fls_app] at hown'
                have HO4 : Hid _ := hown'
                clear hown' hgrow HB3 HO3
                go_wp2
                go_roundw
                case rel =>
                  refine ⟨k + 1, by go_num, by omega, _, HO4.out, fun j hj => ?_, HB4.out⟩
                  by_cases hjk : j = k
                  · subst hjk
                    rw [if_pos rfl, cn_fres, EX.out]
                    rfl
                  · rw [if_neg hjk]
                    exact HZ.out j (by omega)
                case measure => simp [intOf]; omega
          · obtain rfl : N = k := by omega
            have HO : Hid (wr.ownsRow w.heap.size 42 1 _ N (fls zs N)) := hown
            clear hrel hown hzs hbl
            go_wp2
            go_ret2
            exact ⟨_, zs, rfl, HO.out, by rw [HCC.out]; exact HZ.out, HBL.out⟩
  · rw [decide_eq_false h1] at i1
    obtain ⟨rfl, rfl⟩ := HB.out (fun h => h1 (by have := h.1; omega))
    clear hc h1
    go_enter Try.func15, Try.ntmps15
    go_wp2_with (first | (go_at_call 25; (with_reducible refine (i1 _).mono ?_); rintro e w' ⟨rfl, hw⟩; obtain rfl := hw.symm))
    go_ret2
    exact ⟨_, fun _ => 0, rfl, own_empty w 42 1, fun k hk => by omega, below_one _ _⟩
end Go.Proofs.Ytocdamhpcadfbaa

/- Likeliest: the program. -/
import Derived.Test.YtgkcofjhajjjgaaLE
import Derived.Test.YtgkcofjhajjjgaaSD
namespace Go.Proofs.Ytgkcofjhajjjgaa
open Go.RowKit

/-- All of at most M in size. -/
abbrev Wth (M : Int) (n : Nat) (xs : Nat → Int) : Prop := ∀ k, k < n → -M ≤ xs k ∧ xs k ≤ M

instance (M : Int) (n : Nat) (xs : Nat → Int) : Decidable (Wth M n xs) := inferInstance

set_option maxHeartbeats 1000000 in
theorem iWth_any {w : World} {v : Value} {n : Nat} {xs : Nat → Int} {M : Int} (hv : Il w v n xs) (hn : n ≤ 1048576) (hM : 0 ≤ M ∧ M ≤ 1099511627776) : Calls Try.prog 59 #[.int .i64 M, v] w fun e w' => e = .returned (.bool (decide (Wth M n xs))) ∧ w' = w := by
  obtain ⟨ao, cap, rfl, hcap, hc⟩ := hv
  have HC : Hid (0 < n → ∃ b off, ao = some ⟨b, off, none⟩ ∧ b < w.heap.size ∧ ∀ k, k < n → w.cell? ⟨b, off + k, none⟩ = some (.int .i64 (xs k))) := hc
  clear hc
  obtain ⟨d, hd⟩ : ∃ d, d = decide (Wth M n xs) := ⟨_, rfl⟩
  rw [← hd]
  have HD : Hid _ := hd
  clear hd
  go_enter Try.func59, Try.ntmps59
  go_wp2
  go_loopw [6, 9] (fun _ i wr => ∃ k : Nat, i = .int .i64 k ∧ k ≤ n ∧ wr = w ∧ Hid (∀ j, j < k → -M ≤ xs j ∧ xs j ≤ M)) (fun _ i _ => n - (intOf i).toNat)
  case atStart => exact ⟨0, rfl, by omega, rfl, fun j hj => by omega⟩
  case round =>
    obtain ⟨k, rfl, hk, rfl, hal⟩ := hrel
    by_cases h1 : k < n
    · obtain ⟨b, off, rfl, hlt, hcell⟩ := HC.out (by omega)
      have c := hcell k h1
      clear hcell
      by_cases h2 : -M ≤ xs k
      · by_cases h3 : xs k ≤ M
        · go_wp2
          go_roundw
          case rel =>
            refine ⟨k + 1, by go_num, by omega, by trivial, fun j hj => ?_⟩
            by_cases hjk : j = k
            · subst hjk; exact ⟨h2, h3⟩
            · exact hal.out j (by omega)
          case measure => simp [intOf]; omega
        · go_wp2
          go_ret
          exact ⟨congrArg (fun z => Ending.returned (.bool z)) (by rw [HD.out]; exact (decide_eq_false (fun h => by have := (h k h1).2; omega)).symm), rfl⟩
      · go_wp2
        go_ret
        exact ⟨congrArg (fun z => Ending.returned (.bool z)) (by rw [HD.out]; exact (decide_eq_false (fun h => by have := (h k h1).1; omega)).symm), rfl⟩
    · obtain rfl : k = n := by omega
      go_wp2
      go_ret
      exact ⟨congrArg (fun z => Ending.returned (.bool z)) (by rw [HD.out]; exact (decide_eq_true (fun j hj => hal.out j hj)).symm), rfl⟩

set_option maxHeartbeats 1000000 in
theorem sWth_any {w : World} {v : Value} {n : Nat} {xs : Nat → Int} {M : Int} (hv : Il w v n xs) (hn : n ≤ 1048576) (hM : 0 ≤ M ∧ M ≤ 1099511627776) : Calls Try.prog 46 #[v, .int .i64 M] w fun e w' => e = .returned (.bool (decide (Wth M n xs))) ∧ w' = w := by
  obtain ⟨ao, cap, rfl, hcap, hc⟩ := hv
  have HC : Hid (0 < n → ∃ b off, ao = some ⟨b, off, none⟩ ∧ b < w.heap.size ∧ ∀ k, k < n → w.cell? ⟨b, off + k, none⟩ = some (.int .i64 (xs k))) := hc
  clear hc
  obtain ⟨d, hd⟩ : ∃ d, d = decide (Wth M n xs) := ⟨_, rfl⟩
  rw [← hd]
  have HD : Hid _ := hd
  clear hd
  go_enter Try.func46, Try.ntmps46
  go_wp2
  go_loopw [5] (fun i wr => ∃ k : Nat, i = .int .i64 k ∧ k ≤ n ∧ wr = w ∧ Hid (∀ j, j < k → -M ≤ xs j ∧ xs j ≤ M)) (fun i _ => n - (intOf i).toNat)
  case atStart => exact ⟨0, rfl, by omega, rfl, fun j hj => by omega⟩
  case round =>
    obtain ⟨k, rfl, hk, rfl, hal⟩ := hrel
    by_cases h1 : k < n
    · obtain ⟨b, off, rfl, hlt, hcell⟩ := HC.out (by omega)
      have c := hcell k h1
      clear hcell
      have i1 := in_any (xs k) (-M) M
      by_cases hs : -M ≤ xs k ∧ xs k ≤ M
      · have HS : Hid _ := hs
        rw [decide_eq_true hs] at i1
        clear hs
        go_wp2_with (first | (go_at_call 45; (with_reducible refine (i1 _).mono ?_); rintro e w' ⟨rfl, hw⟩; obtain rfl := hw.symm))
        go_roundw
        case rel =>
          refine ⟨k + 1, by go_num, by omega, by trivial, fun j hj => ?_⟩
          by_cases hjk : j = k
          · subst hjk; exact HS.out
          · exact hal.out j (by omega)
        case measure => simp [intOf]; omega
      · have HS : Hid _ := hs
        rw [decide_eq_false hs] at i1
        clear hs
        go_wp2_with (first | (go_at_call 45; (with_reducible refine (i1 _).mono ?_); rintro e w' ⟨rfl, hw⟩; obtain rfl := hw.symm))
        go_ret
        exact ⟨congrArg (fun z => Ending.returned (.bool z)) (by rw [HD.out]; exact (decide_eq_false (fun h => HS.out (h k h1))).symm), rfl⟩
    · obtain rfl : k = n := by omega
      go_wp2
      go_ret
      exact ⟨congrArg (fun z => Ending.returned (.bool z)) (by rw [HD.out]; exact (decide_eq_true (fun j hj => hal.out j hj)).symm), rfl⟩

/-- Which lists of soft numbers are taken. -/
def Gs (N : Nat) (m : Int) (xs : Nat → Int) : Prop := N % 2 = 0 ∧ (0 ≤ (N : Int) / 2 - m ∧ (N : Int) / 2 - m ≤ 120) ∧ Wth 100 N xs
instance (N : Nat) (m : Int) (xs : Nat → Int) : Decidable (Gs N m xs) := by unfold Gs; infer_instance

set_option maxHeartbeats 2000000 in
theorem soft_any {w : World} {v : Value} {N : Nat} {xs : Nat → Int} {m a b : Int} (hv : Il w v N xs) (hN : N ≤ 1048576) (hm : 1 ≤ m ∧ m ≤ 6) : Calls Try.prog 37 #[cdv m a b, v] w fun e w' => e = .returned (.bool (decide (Gs N m xs))) ∧ Below w.heap.size w w' := by
  have i1 := iWth_any (M := 100) (hv.below (below_one w (.cells #[.int .i64 m, .int .i64 a, .int .i64 b] 48))) hN (by omega)
  have BL : Hid (Below w.heap.size w (w.alloc (.cells #[.int .i64 m, .int .i64 a, .int .i64 b] 48))) := below_one _ _
  obtain ⟨d, hd⟩ : ∃ d, d = decide (Gs N m xs) := ⟨_, rfl⟩
  rw [← hd]
  have HD : Hid (d = decide (Gs N m xs)) := hd
  obtain ⟨ao, cap, rfl, hcap, hc⟩ := hv
  clear hd hc
  obtain ⟨H, hH⟩ : ∃ H : Nat, H = N / 2 := ⟨_, rfl⟩
  have e1 : (N : Int) / 2 = (H : Int) := by omega
  have e2 : (N : Int).tdiv 2 = (H : Int) := by rw [Int.tdiv_eq_ediv_of_nonneg (by omega)]; omega
  obtain ⟨R, hR⟩ : ∃ R : Nat, R = N % 2 := ⟨_, rfl⟩
  have e3 : (N : Int) % 2 = (R : Int) := by omega
  have e4 : (N : Int).tmod 2 = (R : Int) := by rw [Int.tmod_eq_emod_of_nonneg (by omega)]; omega
  have HHH : Hid (H = N / 2 ∧ R = N % 2) := ⟨hH, hR⟩
  clear hH hR
  by_cases h1 : R = 0
  · have h1b : ((R : Int) == 0) = true := by rw [h1]; rfl
    by_cases h2 : 0 ≤ (H : Int) - m
    · by_cases h3 : (H : Int) - m ≤ 120
      · obtain ⟨x, hx⟩ : ∃ x, x = decide (Wth 100 N xs) := ⟨_, rfl⟩
        rw [← hx] at i1
        have HX : Hid (x = decide (Wth 100 N xs)) := hx
        clear hx
        go_enter Try.func37, Try.ntmps37
        go_wp2_with (first | (go_at_call 59; (with_reducible refine (i1).mono ?_); rintro e w' ⟨rfl, hw⟩; obtain rfl := hw.symm))
        go_ret
        refine ⟨congrArg (fun z => Ending.returned (.bool z)) ?_, BL.out⟩
        rw [HD.out, HX.out]
        have h9 := HHH.out
        exact decide_eq_decide.2 ⟨fun h => ⟨by omega, ⟨by omega, by omega⟩, h⟩, fun h => h.2.2⟩
      · clear i1
        have H3 : Hid (¬ ((H : Int) - m ≤ 120)) := h3
        go_enter Try.func37, Try.ntmps37
        go_wp2
        go_ret
        refine ⟨congrArg (fun z => Ending.returned (.bool z)) ?_, BL.out⟩
        rw [HD.out]
        have h9 := HHH.out
        have h8 := H3.out
        exact (decide_eq_false (fun h => by have := h.2.1; omega)).symm
    · clear i1
      have H2 : Hid (¬ (0 ≤ (H : Int) - m)) := h2
      go_enter Try.func37, Try.ntmps37
      go_wp2
      go_ret
      refine ⟨congrArg (fun z => Ending.returned (.bool z)) ?_, BL.out⟩
      rw [HD.out]
      have h9 := HHH.out
      have h8 := H2.out
      exact (decide_eq_false (fun h => by have := h.2.1; omega)).symm
  · have h1b : ((R : Int) == 0) = false := by simp only [beq_eq_false_iff_ne]; omega
    clear i1
    have H1 : Hid (¬ R = 0) := h1
    clear h1
    go_enter Try.func37, Try.ntmps37
    go_wp2
    go_ret
    refine ⟨congrArg (fun z => Ending.returned (.bool z)) ?_, BL.out⟩
    rw [HD.out]
    have h9 := HHH.out
    have h8 := H1.out
    exact (decide_eq_false (fun h => by have := h.1; omega)).symm

/-- A row of one's own, cut at its end: n of its numbers. -/
def OC (w : World) (B : Nat) (v : Value) (n : Nat) (f : Nat → Int) : Prop := ∃ g c m c0 L, v = .slice (some ⟨g, 0, none⟩) n c ∧ n ≤ c ∧ n ≤ m ∧ w.ownsRow B 3 1 (.slice (some ⟨g, 0, none⟩) m c0) m L ∧ L.take n = ils f n

theorem ils_take {f : Nat → Int} {i n : Nat} (h : i ≤ n) : (ils f n).take i = ils f i := by
  unfold ils
  rw [← List.map_take, List.take_range, Nat.min_eq_left h]

theorem oc_il {w : World} {B n : Nat} {v : Value} {f : Nat → Int} (h : OC w B v n f) : Il w v n f := by
  obtain ⟨g, c, m, c0, L, rfl, hc, hm, ho, ht⟩ := h
  refine ⟨_, c, rfl, hc, fun h0 => ⟨g, 0, rfl, (World.ownsRow.lt ho g rfl).2, fun k hk => ?_⟩⟩
  rw [Nat.zero_add, World.ownsRow.cellAt ho k (by omega)]
  have h1 := congrArg (fun l => l[k]?) ht
  simp only [List.getElem?_take, if_pos hk] at h1
  rw [h1, ils_get hk]

/-- The start of the search. -/
theorem li_start (M a b n : Nat) (xs : Nat → Int) : Li (nx M) (gg a b xs) (alw n) 0 (fun k => k < 1) (fun _ => 0) (fun _ _ => 0) (fun _ => 0) :=
  ⟨fun k _ => ⟨rfl, fun j hj => by omega, fun v _ _ => .inr (fun j hj => by omega)⟩, fun k _ => rfl, fun k l hk hl _ => by omega, fun v _ => ⟨0, by omega, rfl⟩⟩

theorem li_pos {M a b n i n' : Nat} {xs : Nat → Int} {T : Nat → Nat} {U : Nat → Nat → Nat} {S : Nat → Int} (h : Li (nx M) (gg a b xs) (alw n) i (fun k => k < n') T U S) : 0 < n' := by
  obtain ⟨k, hk, _⟩ := h.cov (fun _ => 0) (fun j hj => ⟨Nat.zero_le _, fun _ => rfl⟩)
  omega

theorem pth_start (w : World) : Pth (w.alloc (.cells #[.int .i64 0, .int .i64 0, .int .i64 0, .slice none 0 0] 59)) w.heap.size (.slice (some ⟨w.heap.size, 0, none⟩) 1 1) 1 0 (fun _ => 0) (fun _ => 0) (fun _ _ => 0) (fun _ => .slice none 0 0) :=
  ⟨World.ownsRow_lit (base := w.heap.size) (e := 59) (size := 4) w #[.int .i64 0, .int .i64 0, .int .i64 0, .slice none 0 0] 1 (Nat.le_refl _) (by unfold maxLen; omega) rfl, fun k _ => World.ownsRow_nil _ _ _ _⟩

/-- What Likeliest tells: the best message, and its score. -/
def Pik (w w' : World) (e : Ending) (M a b n : Nat) (xs : Nat → Int) : Prop := ∃ v u S, e = .returned (.tuple #[v, .int .i64 S, .bool true]) ∧ OC w' w.heap.size v n (wy u) ∧ Tr.Op (nx M) (gg a b xs) (alw n) u (n + M) 0 ∧ S = Tr.vl (nx M) (gg a b xs) u (n + M) ∧ Below w.heap.size w w'

set_option maxRecDepth 20000 in
set_option maxHeartbeats 8000000 in
theorem iLik_good {w : World} {v : Value} {M a b n N : Nat} {xs : Nat → Int} (hv : Il w v N xs) (hab : Cd M a b) (hN : N = 2 * (n + M)) (hn : n ≤ 120) (hxs : Wth 100 N xs) :
    Calls Try.prog 13 #[.int .i64 (M : Int), .int .i64 (a : Int), .int .i64 (b : Int), v] w fun e w' => Pik w w' e M a b n xs := by
  have ha8 := mk_lt (by have := hab.1; omega) hab.2.1
  have hb8 := mk_lt (by have := hab.1; omega) hab.2.2
  have hM6 : 1 ≤ M ∧ M ≤ 6 := by have := hab.1; omega
  have i2 := one_any (m := (M : Int)) (a := (a : Int)) (b := (b : Int))
  rw [decide_eq_true hab] at i2
  have hG : Gs N (M : Int) xs := ⟨by omega, by omega, hxs⟩
  have HV : Hid (Il w v N xs) := hv
  have HXS : Hid (∀ k, k < N → -100 ≤ xs k ∧ xs k ≤ 100) := hxs
  have HG : Hid (Gs N (M : Int) xs) := hG
  have C0 : Hid (Cdm (w.alloc (.cells #[.int .i64 (M : Int), .int .i64 (a : Int), .int .i64 (b : Int)] 48)) w.heap.size M a b) := Cdm.new w M a b 48
  have BL : Hid (Below w.heap.size w (w.alloc (.cells #[.int .i64 (M : Int), .int .i64 (a : Int), .int .i64 (b : Int)] 48))) := below_one _ _
  obtain ⟨so, cs, rfl, hcs, hc⟩ := hv
  clear hc hab hG hxs
  have e1 : (N : Int) / 2 = ((n + M : Nat) : Int) := by omega
  have e2 : (N : Int).tdiv 2 = ((n + M : Nat) : Int) := by rw [Int.tdiv_eq_ediv_of_nonneg (by omega)]; omega
  obtain ⟨q, hq⟩ : ∃ q, q = n + M := ⟨_, rfl⟩
  rw [← hq] at e1 e2
  have e3 : (q : Int) - (M : Int) = (n : Int) := by omega
  have HQ : Hid (q = n + M) := hq
  have hN2 : N ≤ 252 := by omega
  have HNN : Hid (N = 2 * (n + M)) := hN
  clear hq hN
  go_enter Try.func13, Try.ntmps13
  go_wp2_with (first
    | (go_at_call 31; (with_reducible refine (i2 _).mono ?_); rintro e w3 ⟨rfl, hb⟩; have C3 : Hid (Cdm w3 w.heap.size M a b) := C0.out.below hb; have BL3 : Hid (Below w.heap.size w w3) := bstep BL.out hb; have i4 := soft_any (m := (M : Int)) (a := (a : Int)) (b := (b : Int)) (HV.out.below BL3.out) (by omega) (by omega); rw [decide_eq_true HG.out] at i4; obtain ⟨e5, e6, e7⟩ := C3.out; clear hb)
    | (go_at_call 37; (with_reducible refine i4.mono ?_); rintro e w4 ⟨rfl, hb⟩; have C4 : Hid (Cdm w4 w.heap.size M a b) := C3.out.below hb; have BL4 : Hid (Below w.heap.size w w4) := bstep BL3.out hb; clear hb e5 e6 e7 i4))
  have PS : Hid (Pth (w4.alloc (.cells #[.int .i64 0, .int .i64 0, .int .i64 0, .slice none 0 0] 59)) w4.heap.size (.slice (some ⟨w4.heap.size, 0, none⟩) 1 1) 1 0 (fun _ => 0) (fun _ => 0) (fun _ _ => 0) (fun _ => .slice none 0 0)) := pth_start w4
  have C5 : Hid (Cdm (w4.alloc (.cells #[.int .i64 0, .int .i64 0, .int .i64 0, .slice none 0 0] 59)) w.heap.size M a b) := C4.out.below (below_one _ _)
  have BL5 : Hid (Below w.heap.size w (w4.alloc (.cells #[.int .i64 0, .int .i64 0, .int .i64 0, .slice none 0 0] 59))) := bstep BL4.out (below_one _ _)
  have hs4 := BL4.out.size
  clear i2 C0 BL C3 BL3 C4 BL4
  generalize w4.alloc (.cells #[.int .i64 0, .int .i64 0, .int .i64 0, .slice none 0 0] 59) = W5 at *
  go_loopw [13, 36] (fun p c wr => ∃ i g cp n' : Nat, c = .int .i64 (i : Int) ∧ i ≤ n ∧ p = .slice (some ⟨g, 0, none⟩) n' cp ∧ Hid ((∃ B T S U P, w.heap.size ≤ B ∧ Pth wr B (.slice (some ⟨g, 0, none⟩) n' cp) n' (i) T S U P ∧ Li (nx M) (gg a b xs) (alw n) (i) (fun k => k < n') T U S) ∧ Cdm wr w.heap.size M a b ∧ Below w.heap.size w wr)) (fun _ c _ => n - (intOf c).toNat)
  case atStart => exact ⟨0, w4.heap.size, 1, 1, rfl, by omega, rfl, ⟨_, _, _, _, _, hs4, PS.out, li_start M a b n xs⟩, C5.out, BL5.out⟩
  case round =>
    obtain ⟨i, g, cp, n', rfl, hi, rfl, hrel⟩ := hrel
    by_cases h1 : i < n
    · obtain ⟨B, T, S, U, P, hB, hP, hL⟩ := hrel.out.1
      have hNN := HNN.out
      have i5 : Calls Try.prog 38 #[cdv M a b, .slice (some ⟨g, 0, none⟩) n' cp, .slice so N cs, .int .i64 2] wr fun e w' => ∃ g cp n' T' S' U' P', e = .returned (.slice (some ⟨g, 0, none⟩) n' cp) ∧ Pth w' wr.heap.size (.slice (some ⟨g, 0, none⟩) n' cp) n' (i + 1) T' S' U' P' ∧ Li (nx M) (gg a b xs) (alw n) (i + 1) (fun k => k < n') T' U' S' ∧ Below wr.heap.size wr w' := step_any (ch := 2) hP (li_pos hL) (HV.out.below hrel.out.2.2) hM6 (by omega) (by omega) (by omega) hN2 HXS.out hL (.inl ⟨rfl, h1⟩)
      have CR : Hid (Cdm wr w.heap.size M a b) := hrel.out.2.1
      have BR : Hid (Below w.heap.size w wr) := hrel.out.2.2
      obtain ⟨e5, e6, e7⟩ := CR.out
      clear hrel hP hL hNN hB
      go_wp2_with (first | (go_at_call 38; (with_reducible refine i5.mono ?_); rintro e w8 ⟨g8, cp8, n8, T8, S8, U8, P8, rfl, hP8, hL8, hb8⟩; have R8 : Hid (∃ B T S U P, w.heap.size ≤ B ∧ Pth w8 B (.slice (some ⟨g8, 0, none⟩) n8 cp8) n8 (i + 1) T S U P ∧ Li (nx M) (gg a b xs) (alw n) (i + 1) (fun k => k < n8) T U S) := ⟨_, _, _, _, _, BR.out.size, hP8, hL8⟩; have C8 : Hid (Cdm w8 w.heap.size M a b) := CR.out.below hb8; have B8 : Hid (Below w.heap.size w w8) := bstep BR.out hb8; clear hP8 hL8 hb8))
      go_roundw
      case rel => exact ⟨i + 1, g8, cp8, n8, by go_num, by omega, rfl, R8.out, C8.out, B8.out⟩
      case measure => simp [intOf]; omega
    · obtain rfl : i = n := by omega
      have HR : Hid _ := hrel.out
      clear hrel
      go_wp2
      go_loopw [13, 44] (fun p c wr => ∃ k g cp n' : Nat, c = .int .i64 (k : Int) ∧ k ≤ M ∧ p = .slice (some ⟨g, 0, none⟩) n' cp ∧ Hid ((∃ B T S U P, w.heap.size ≤ B ∧ Pth wr B (.slice (some ⟨g, 0, none⟩) n' cp) n' (i + k) T S U P ∧ Li (nx M) (gg a b xs) (alw i) (i + k) (fun k => k < n') T U S) ∧ Cdm wr w.heap.size M a b ∧ Below w.heap.size w wr)) (fun _ c _ => M - (intOf c).toNat)
      case atStart => exact ⟨0, g, cp, n', rfl, by omega, rfl, HR.out⟩
      case round =>
        obtain ⟨k, g, cp, n', rfl, hk, rfl, hrel⟩ := hrel
        by_cases h2 : k < M
        · obtain ⟨B, T, S, U, P, hB, hP, hL⟩ := hrel.out.1
          have hNN := HNN.out
          have i5 : Calls Try.prog 38 #[cdv M a b, .slice (some ⟨g, 0, none⟩) n' cp, .slice so N cs, .int .i64 1] wr fun e w' => ∃ g cp n' T' S' U' P', e = .returned (.slice (some ⟨g, 0, none⟩) n' cp) ∧ Pth w' wr.heap.size (.slice (some ⟨g, 0, none⟩) n' cp) n' (i + k + 1) T' S' U' P' ∧ Li (nx M) (gg a b xs) (alw i) (i + k + 1) (fun k => k < n') T' U' S' ∧ Below wr.heap.size wr w' := step_any (ch := 1) hP (li_pos hL) (HV.out.below hrel.out.2.2) hM6 (by omega) (by omega) (by omega) hN2 HXS.out hL (.inr ⟨rfl, by omega⟩)
          have CR : Hid (Cdm wr w.heap.size M a b) := hrel.out.2.1
          have BR : Hid (Below w.heap.size w wr) := hrel.out.2.2
          obtain ⟨e5, e6, e7⟩ := CR.out
          clear hrel hP hL hNN hB
          go_wp2_with (first | (go_at_call 38; (with_reducible refine i5.mono ?_); rintro e w8 ⟨g8, cp8, n8, T8, S8, U8, P8, rfl, hP8, hL8, hb8⟩; have R8 : Hid (∃ B T S U P, w.heap.size ≤ B ∧ Pth w8 B (.slice (some ⟨g8, 0, none⟩) n8 cp8) n8 (i + k + 1) T S U P ∧ Li (nx M) (gg a b xs) (alw i) (i + k + 1) (fun k => k < n8) T U S) := ⟨_, _, _, _, _, BR.out.size, hP8, hL8⟩; have C8 : Hid (Cdm w8 w.heap.size M a b) := CR.out.below hb8; have B8 : Hid (Below w.heap.size w w8) := bstep BR.out hb8; clear hP8 hL8 hb8))
          go_roundw
          case rel => exact ⟨k + 1, g8, cp8, n8, by go_num, by omega, rfl, R8.out, C8.out, B8.out⟩
          case measure => simp [intOf]; omega
        · obtain rfl : k = M := by omega
          obtain ⟨B, T, S, U, P, hB, hP, hL⟩ := hrel.out.1
          have BR : Hid (Below w.heap.size w wr) := hrel.out.2.2
          have hn0 := li_pos hL
          obtain ⟨_, _, c2, c3⟩ := hP.cells hn0
          rw [Nat.zero_mul, Nat.zero_add] at c2 c3
          have hbit := own_base (hP.bit 0 hn0) hB
          obtain ⟨g9, cp9, hv9⟩ := own_pos hbit (by omega)
          rw [hv9] at c3 hbit
          have hop := hL.op 0 hn0
          have hT0 : T 0 = 0 := by rw [← hop.1]; exact tail_zero (by omega) (fun j hj hj2 => (hop.2.1 j hj2).2 hj)
          rw [hT0] at hop
          have HOP : Hid (Tr.Op (nx k) (gg a b xs) (alw i) (U 0) (i + k) 0) := hop
          have HSC : Hid (S 0 = Tr.vl (nx k) (gg a b xs) (U 0) (i + k)) := hL.sc 0 hn0
          have hcap9 : i + k ≤ cp9 := by
            rcases hbit.2 with ⟨h9, _⟩ | ⟨_, _, _, h9, _, _, h8, _⟩
            · cases h9
            · cases h9; exact h8
          have HBT : Hid (wr.ownsRow w.heap.size 3 1 (.slice (some ⟨g9, 0, none⟩) (i + k) cp9) (i + k) (ils (wy (U 0)) (i + k))) := hbit
          obtain ⟨ik, hik⟩ : ∃ y, y = i + k := ⟨_, rfl⟩
          rw [← hik] at c3 hcap9
          have HIK : Hid (ik = i + k) := hik
          have hile : i ≤ cp9 := by omega
          have hile2 : i ≤ ik := by omega
          obtain ⟨s0, hs0⟩ : ∃ y, y = S 0 := ⟨_, rfl⟩
          rw [← hs0] at c2
          have HS0 : Hid (s0 = S 0) := hs0
          clear hrel hP hL hop hbit hT0 hv9 hik hs0
          go_wp2_with (go_quiet (fail))
          go_ret3
          exact ⟨_, U 0, s0, rfl, ⟨g9, i, i + k, cp9, _, rfl, Nat.le_refl _, by omega, own_below HBT.out (below_drewN (Below.refl _ _) _), ils_take (by omega)⟩, HOP.out, HS0.out.trans HSC.out, below_drewN BR.out _⟩

set_option maxHeartbeats 4000000 in
theorem iLik_bad {w : World} {v : Value} {N : Nat} {xs : Nat → Int} (hv : Il w v N xs) (hN : N ≤ 1048576) {m a b : Int} (h : ¬ (Cd m a b ∧ Gs N m xs)) : Calls Try.prog 13 #[.int .i64 m, .int .i64 a, .int .i64 b, v] w fun e w' => ∃ u, e = .returned (.tuple #[u, .int .i64 0, .bool false]) ∧ w'.ownsRow w.heap.size 3 1 u 0 [] ∧ Below w.heap.size w w' := by
  have i2 := one_any (m := m) (a := a) (b := b)
  have HV : Hid (Il w v N xs) := hv
  have C0 : Hid (Cdm (w.alloc (.cells #[.int .i64 m, .int .i64 a, .int .i64 b] 48)) w.heap.size m a b) := Cdm.new w m a b 48
  have BL : Hid (Below w.heap.size w (w.alloc (.cells #[.int .i64 m, .int .i64 a, .int .i64 b] 48))) := below_one _ _
  obtain ⟨so, cs, rfl, hcs, hc⟩ := hv
  clear hc
  by_cases c1 : Cd m a b
  · rw [decide_eq_true c1] at i2
    have c2 : Hid (¬ Gs N m xs) := fun c2 => h ⟨c1, c2⟩
    have hm := c1.1
    clear h c1
    go_enter Try.func13, Try.ntmps13
    go_wp2_with (first
      | (go_at_call 31; (with_reducible refine (i2 _).mono ?_); rintro e w3 ⟨rfl, hb⟩; have C3 : Hid (Cdm w3 w.heap.size m a b) := C0.out.below hb; have BL3 : Hid (Below w.heap.size w w3) := bstep BL.out hb; have i4 := soft_any (m := m) (a := a) (b := b) (HV.out.below BL3.out) hN hm; rw [decide_eq_false c2.out] at i4; obtain ⟨e5, e6, e7⟩ := C3.out; clear hb)
      | (go_at_call 37; (with_reducible refine i4.mono ?_); rintro e w4 ⟨rfl, hb⟩; have BL4 : Hid (Below w.heap.size w w4) := bstep BL3.out hb; clear hb))
    go_ret3
    exact ⟨_, rfl, own_base (own_empty w4 3 1) BL4.out.size, bstep BL4.out (below_one _ _)⟩
  · rw [decide_eq_false c1] at i2
    clear h c1
    go_enter Try.func13, Try.ntmps13
    go_wp2_with (first
      | (go_at_call 31; (with_reducible refine (i2 _).mono ?_); rintro e w3 ⟨rfl, hb⟩; have BL3 : Hid (Below w.heap.size w w3) := bstep BL.out hb; clear hb))
    go_ret3
    exact ⟨_, rfl, own_base (own_empty w3 3 1) BL3.out.size, bstep BL3.out (below_one _ _)⟩
end Go.Proofs.Ytgkcofjhajjjgaa

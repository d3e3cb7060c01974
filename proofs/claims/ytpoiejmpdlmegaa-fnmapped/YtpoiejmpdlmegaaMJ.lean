/- FnMapped: there and back in plain numbers, the law. -/
import Derived.Test.YtpoiejmpdlmegaaDO
import Derived.Test.YtpoiejmpdlmegaaKD
namespace Go.Proofs.Ytpoiejmpdlmegaa
open Go.RowKit

theorem ung_half (m : Nat) : ung m / 2 = ung (m / 2) := by
  induction m using Nat.strongRecOn with
  | _ m ih =>
    by_cases h0 : m = 0
    · subst h0; rfl
    · rw [ung_step (by omega), xor_div2, ih (m / 2) (by omega)]
      by_cases h1 : m / 2 = 0
      · rw [h1]; rfl
      · rw [← ung_step (by omega)]

theorem gry_ung (m : Nat) : gry (ung m) = m := by
  unfold gry
  rw [ung_half]
  by_cases h0 : m = 0
  · subst h0; rfl
  · rw [ung_step (by omega), Nat.xor_assoc, Nat.xor_self, Nat.xor_zero]

theorem rdV_two (u : Int) (h : 0 ≤ u ∧ u ≤ 1000) : rdV (2 * u) 2 = u := by
  unfold rdV rdv
  rw [if_pos (by omega), if_neg (by omega)]
  omega

theorem top_nat {h : Nat} (_ : Hlf h) : ((2 ^ h : Nat) : Int) = 2 ^ h := by rw [Int.natCast_pow]; rfl

theorem ung_top {n f h : Nat} {xs : Nat → Int} (hb : ∀ k, k < n → Bit (xs k)) (hh : Hlf h) : ((ung (nba n xs f h) : Nat) : Int) ≤ 2 ^ h - 1 := by
  have h1 := ung_lt (n := nba n xs f h) (k := h) (nba_lt hb f h)
  have h2 := top_nat hh
  omega

/-- The level of a point is found again. -/
theorem glv_lvl {n f h : Nat} {xs : Nat → Int} (hb : ∀ k, k < n → Bit (xs k)) (hh : Hlf h) : glv h (lvl n xs f h) = nba n xs f h := by
  have h1 := ung_top (f := f) hb hh
  have h2 := top_in hh
  unfold glv nlv lvl
  rw [show 2 * ((ung (nba n xs f h) : Nat) : Int) - (2 ^ h - 1) + (2 ^ h - 1) = 2 * ((ung (nba n xs f h) : Nat) : Int) by omega, rdV_two _ (by omega), if_neg (by omega), if_neg (by omega), Int.toNat_natCast, gry_ung]

theorem nba_bit {n : Nat} {xs : Nat → Int} (h : ∀ k, k < n → Bit (xs k)) (f c j : Nat) (hj : j < c) : nba n xs f c / 2 ^ (c - 1 - j) % 2 = if f + j < n then nb xs (f + j) else 0 := by
  induction c with
  | zero => omega
  | succ c ih =>
    have hb : (if f + c < n then nb xs (f + c) else 0) ≤ 1 := by
      split
      · exact nb_le h (by assumption)
      · omega
    rw [nba]
    by_cases h1 : j = c
    · subst h1
      rw [show j + 1 - 1 - j = 0 by omega, Nat.pow_zero, Nat.div_one]
      omega
    · rw [show c + 1 - 1 - j = (c - 1 - j) + 1 by omega, Nat.pow_succ, Nat.mul_comm (2 ^ (c - 1 - j)) 2, ← Nat.div_div_eq_div_mul]
      rw [show (nba n xs f c * 2 + (if f + c < n then nb xs (f + c) else 0)) / 2 = nba n xs f c by omega]
      exact ih (by omega)

theorem bfn_nba {n f h r : Nat} {xs : Nat → Int} (hb : ∀ k, k < n → Bit (xs k)) (hr : r < h) : bfn (nba n xs f h) h r = pad n xs (f + r) := by
  unfold bfn pad
  rw [nba_bit hb f h r hr]
  by_cases h1 : f + r < n
  · rw [if_pos h1, if_pos h1]; exact (nb_eq hb h1).symm
  · rw [if_neg h1, if_neg h1]; rfl

/-- What is mapped and decided is the bits, filled with noughts. -/
theorem dcz_mpz {n h : Nat} {xs : Nat → Int} (hb : ∀ k, k < n → Bit (xs k)) (hh : Hlf h) (i : Nat) : dcz h (mpz n xs h) i = pad n xs i := by
  have h1 : 1 ≤ h := by rcases hh with rfl | rfl | rfl | rfl <;> omega
  have hd := Nat.div_add_mod i (2 * h)
  have hm := Nat.mod_lt i (show 0 < 2 * h by omega)
  rw [Nat.mul_comm] at hd
  unfold dcz
  by_cases h2 : i % (2 * h) < h
  · rw [if_pos h2, mpz_0, glv_lvl hb hh, bfn_nba hb h2, hd]
  · rw [if_neg h2, mpz_1, glv_lvl hb hh, bfn_nba hb (by omega), show i / (2 * h) * (2 * h) + h + (i % (2 * h) - h) = i by omega]

theorem mpz_pok {n h q : Nat} {xs : Nat → Int} (hb : ∀ k, k < n → Bit (xs k)) (hh : Hlf h) : Pok q (mpz n xs h) := by
  intro k hk
  rw [mpz_0, mpz_1]
  have h1 := lvl_room hb (k * (2 * h)) hh
  have h2 := lvl_room hb (k * (2 * h) + h) hh
  exact ⟨⟨by omega, by omega⟩, ⟨by omega, by omega⟩⟩

/-- Levels are odd and within the greatest. -/
theorem lvl_odd {n f h : Nat} {xs : Nat → Int} (hb : ∀ k, k < n → Bit (xs k)) (hh : Hlf h) : lvl n xs f h % 2 = 1 ∧ -(2 ^ h - 1) ≤ lvl n xs f h ∧ lvl n xs f h ≤ 2 ^ h - 1 := by
  have h1 := ung_top (f := f) hb hh
  have h2 : (2 : Int) ^ h % 2 = 0 := by rcases hh with rfl | rfl | rfl | rfl <;> decide
  unfold lvl
  omega

theorem pts_len {n h q : Nat} (h1 : 1 ≤ h) (hq : q = (n + 2 * h - 1) / (2 * h)) : n ≤ q * (2 * h) ∧ q * (2 * h) < n + 2 * h := by
  have e1 := Nat.div_add_mod (n + 2 * h - 1) (2 * h)
  have e2 := Nat.mod_lt (n + 2 * h - 1) (show 0 < 2 * h by omega)
  rw [← hq, Nat.mul_comm] at e1
  omega

theorem own2_slice {w : World} {B n e : Nat} {v : Value} {L : List Value} (h : w.ownsRow B e 2 v n L) : ∃ a c, v = .slice a n c := by
  rcases h.2 with ⟨rfl, rfl⟩ | ⟨g, cap, cur, rfl, _⟩
  · exact ⟨none, 0, rfl⟩
  · exact ⟨_, _, rfl⟩

theorem il2_cells {w : World} {a : Option Addr} {n c : Nat} {z : Nat → Int} (h : Il2 w (.slice a n c) n z) : 0 < n → ∃ b off, a = some ⟨b, off, none⟩ ∧ b < w.heap.size ∧ ∀ k, k < n → w.cell? ⟨b, off + k * 2, none⟩ = some (.int .i64 (z (k * 2))) ∧ w.cell? ⟨b, off + k * 2 + 1, none⟩ = some (.int .i64 (z (k * 2 + 1))) := by
  obtain ⟨ao, cap, e, _, hc⟩ := h
  injection e with e1 e2 e3
  subst e1
  exact hc

theorem il_cells {w : World} {a : Option Addr} {n c : Nat} {xs : Nat → Int} (h : Il w (.slice a n c) n xs) : 0 < n → ∃ b off, a = some ⟨b, off, none⟩ ∧ b < w.heap.size ∧ ∀ k, k < n → w.cell? ⟨b, off + k, none⟩ = some (.int .i64 (xs k)) := by
  obtain ⟨ao, cap, e, _, hc⟩ := h
  injection e with e1 e2 e3
  subst e1
  exact hc

theorem lit_il (w : World) (L : List Int) : Il (w.alloc (.cells (L.map (fun x => Value.int .i64 x)).toArray 3)) (.slice (some ⟨w.heap.size, 0, none⟩) L.length L.length) L.length (fun i => L.getD i 0) :=
  ⟨_, _, rfl, Nat.le_refl _, fun _ => ⟨w.heap.size, 0, rfl, by rw [World.size_alloc]; omega, fun k hk => by rw [Nat.zero_add]; exact lit_cells w L 3 k hk⟩⟩

theorem il_slice {w : World} {v : Value} {n : Nat} {xs : Nat → Int} (h : Il w v n xs) : ∃ a c, v = .slice a n c := by
  obtain ⟨a, c, e, _⟩ := h
  exact ⟨a, c, e⟩

theorem abs_any (x : Int) (h : -100 ≤ x ∧ x ≤ 100) (w : World) : Calls Try.prog 9 #[.int .i64 x] w fun e w' => e = .returned (.int .i64 (if x < 0 then -x else x)) ∧ w' = w := by
  by_cases h1 : x < 0
  · rw [if_pos h1]
    go_enter Try.func9, Try.ntmps9
    go_wp2
    go_ret
    exact ⟨rfl, rfl⟩
  · rw [if_neg h1]
    go_enter Try.func9, Try.ntmps9
    go_wp2
    go_ret
    exact ⟨rfl, rfl⟩

theorem mpz_lit : mpz 2 (fun i => [0, 1].getD i 0) 1 0 = -1 ∧ mpz 2 (fun i => [0, 1].getD i 0) 1 1 = 1 := by decide

/-- The points of two bits that are written out. -/
theorem map_lit (W : World) : Calls Try.prog 6 #[.int .i64 2, .slice (some ⟨W.heap.size, 0, none⟩) 2 2] (W.alloc (.cells #[.int .i64 0, .int .i64 1] 3)) fun e w' => ∃ b c, e = .returned (.tuple #[.slice (some ⟨b, 0, none⟩) 1 c, .bool true]) ∧ w'.cell? ⟨b, 0, none⟩ = some (.int .i64 (-1)) ∧ w'.cell? ⟨b, 1, none⟩ = some (.int .i64 1) ∧ Below W.heap.size W w' := by
  have h := iMap_good (h := 1) (q := 1) (lit_il W [0, 1]) (by decide) (.inl rfl) (by decide)
  refine Calls.mono h ?_
  rintro e w' ⟨u, rfl, ho, hb⟩
  rcases ho.2 with ⟨_, h9⟩ | ⟨g, c, cur, rfl, _⟩
  · cases h9
  · refine ⟨g, c, rfl, ?_, ?_, bstep (below_one _ _) hb⟩
    · rw [own2_cell ho (j := 0) (by decide)]; exact congrArg (fun z => some (Value.int .i64 z)) mpz_lit.1
    · rw [own2_cell ho (j := 1) (by decide)]; exact congrArg (fun z => some (Value.int .i64 z)) mpz_lit.2

theorem sMap_to {w : World} {v : Value} {n h q wd : Nat} {xs : Nat → Int} (hv : Il w v n xs) (hb : Bts n xs) (hh : Hlf h) (hq : q = (n + 2 * h - 1) / (2 * h)) (hw : wd = 2 * h) :
    Calls Try.prog 7 #[.int .i64 (wd : Int), v] w fun e w' => Ppk w w' e q (mpz n xs h) true := by
  rw [hw]
  exact sMap_good hv hb hh hq

set_option maxRecDepth 100000 in
set_option maxHeartbeats 16000000 in
theorem walk_mapped {w : World} {a : Option Addr} {len cap : Nat} (hr : Row w a len) (hl : len ≤ 9223372036854775807) :
    Calls Try.prog 3 #[.slice a len cap] w fun e w' => e = .returned (.bool true) ∧ Below w.heap.size w w' := by
  have ib := big_x (w := w) a len cap hl
  by_cases h0 : len ≤ 1048576
  · rw [decide_eq_false (by omega)] at ib
    have id := dmap_x (cap := cap) hr h0
    clear hr
    go_enter Try.func3, Try.ntmps3
    go_upto_region 4 with (first
      | (go_at_call 4; (with_reducible refine (ib).mono ?_); rintro e w' ⟨rfl, hw⟩; obtain rfl := hw.symm)
      | (go_at_call 5; (with_reducible refine id.mono ?_); rintro e w1 ⟨x, u, n, xs, rfl, hnu, hx, ho, hb⟩; have HV : Hid (Il w1 u n xs) := il_of_own ho; have BW : Hid (Below w.heap.size w w1) := hb; clear ho hb))
    clear ib id
    obtain ⟨uo, uc, rfl⟩ := il_slice HV.out
    by_cases hg : GMp n xs x
    · obtain ⟨h, rfl⟩ : ∃ h : Nat, x = ((2 * h : Nat) : Int) := ⟨(x / 2).toNat, by rcases hg.2 with h9 | h9 | h9 | h9 <;> omega⟩
      have hh : Hlf h := by have h9 := hg.2; unfold Wid at h9; unfold Hlf; omega
      have HH : Hid (Hlf h) := hh
      have HBT : Hid (Bts n xs) := hg.1
      have hn1 : n ≤ 1024 := hg.1.1
      have h4 : 1 ≤ h ∧ h ≤ 4 := by rcases hh with h9 | h9 | h9 | h9 <;> omega
      obtain ⟨q, hq⟩ : ∃ q : Nat, q = (n + 2 * h - 1) / (2 * h) := ⟨_, rfl⟩
      have HQ : Hid (q = (n + 2 * h - 1) / (2 * h)) := hq
      have hql := pts_len h4.1 hq
      have i1 := iMap_good HV.out HBT.out HH.out HQ.out
      obtain ⟨wd, hwd⟩ : ∃ wd : Nat, wd = 2 * h := ⟨_, rfl⟩
      have HWD : Hid (wd = 2 * h) := hwd
      have hwb : wd ≤ 8 ∧ 2 ≤ wd := by omega
      obtain ⟨N, hN⟩ : ∃ N : Nat, N = q * wd := ⟨_, rfl⟩
      have HN : Hid (N = q * wd) := hN
      rw [← hwd] at i1 hql ⊢
      rw [← hN] at hql
      have e1 : (q : Int) * (wd : Int) = (N : Int) := by rw [hN]; exact (Int.natCast_mul q wd).symm
      have e2 : (wd : Int) / 2 = (h : Int) := by omega
      have e3 : (wd : Int).tdiv 2 = (h : Int) := by rw [Int.tdiv_eq_ediv_of_nonneg (by omega)]; exact e2
      have hq3 : q ≤ 2000 := by have h9 := Nat.le_mul_of_pos_right q (show 0 < wd by omega); omega
      clear hg hh hq hwd hN
      go_upto_region 8 with (first
        | (go_at_call 6; (with_reducible refine i1.mono ?_); rintro e w2 ⟨p, rfl, ho, hb⟩; have HP : Hid (Il2 w2 p q (mpz n xs h)) := il2_of_own ho; have BW : Hid (Below w.heap.size w w2) := bstep BW.out hb; have HV : Hid (Il w2 (.slice uo n uc) n xs) := HV.out.below hb; obtain ⟨po, pc, rfl⟩ : ∃ po pc, p = .slice po q pc := own2_slice ho; clear ho hb)
        | (go_at_call 7; refine (sMap_to HV.out HBT.out HH.out HQ.out HWD.out).mono ?_; rintro e w3 ⟨p3, rfl, ho, hb⟩; have HP : Hid (Il2 w3 (.slice po q pc) q (mpz n xs h)) := HP.out.below hb; have BW : Hid (Below w.heap.size w w3) := bstep BW.out hb; have HV : Hid (Il w3 (.slice uo n uc) n xs) := HV.out.below hb; clear ho hb))
      clear i1
      by_cases hN4 : N ≤ 1024
      · have b1 : decide (1024 < N) = false := decide_eq_false (by omega)
        have b2 : decide ((1024 : Int) < (N : Int)) = false := decide_eq_false (by omega)
        have i4 := iDec_good HP.out (mpz_pok HBT.out.2 HH.out) HH.out (by rw [← HWD.out, ← HN.out]; exact hN4)
        rw [← HWD.out, ← HN.out] at i4
        have b3 : decide (N < n) = false := decide_eq_false (by omega)
        have b4 : decide ((N : Int) < (n : Int)) = false := decide_eq_false (by omega)
        have b5 : decide (n + wd ≤ N) = false := decide_eq_false (by omega)
        have b6 : decide ((n : Int) + (wd : Int) ≤ (N : Int)) = false := decide_eq_false (by omega)
        go_upto_region 14 with (first
          | (go_at_call 8; (with_reducible refine i4.mono ?_); rintro e w4 ⟨k1, rfl, ho, hb⟩; have HP : Hid (Il2 w4 (.slice po q pc) q (mpz n xs h)) := HP.out.below hb; have BW : Hid (Below w.heap.size w w4) := bstep BW.out hb; have HV : Hid (Il w4 (.slice uo n uc) n xs) := HV.out.below hb; have HK : Hid (Il w4 k1 N (dcz h (mpz n xs h))) := il_of_own ho; obtain ⟨ko, kc, rfl⟩ : ∃ ko kc, k1 = .slice ko N kc := il_slice (il_of_own ho); clear ho hb))
        clear i4
        go_wp2
        go_loopw [13] (fun i wr => ∃ k : Nat, i = .int .i64 (k : Int) ∧ k ≤ N ∧ Hid (Below w4.heap.size w4 wr)) (fun i _ => N - (intOf i).toNat)
        case atStart => exact ⟨0, rfl, by omega, Below.refl _ _⟩
        case round =>
          obtain ⟨k, rfl, hk, hrel⟩ := hrel
          by_cases hkN : k < N
          · obtain ⟨b7, off7, rfl, hlt7, hcell7⟩ := il_cells HK.out (by omega)
            have c7 := (hrel.out.cell (p := ⟨b7, off7 + k, none⟩) hlt7).trans (hcell7 k hkN)
            rw [dcz_mpz HBT.out.2 HH.out k] at c7
            by_cases hkn : k < n
            · obtain ⟨b8, off8, rfl, hlt8, hcell8⟩ := il_cells HV.out (by omega)
              have c8 := (hrel.out.cell (p := ⟨b8, off8 + k, none⟩) hlt8).trans (hcell8 k hkn)
              have hpad : pad n xs k = xs k := by unfold pad; rw [if_pos hkn]
              rw [hpad] at c7
              have hne : (xs k != xs k) = false := by simp
              have s1 : decide ((k : Int) < (n : Int)) = true := decide_eq_true (by omega)
              have s2 : decide ((n : Int) ≤ (k : Int)) = false := decide_eq_false (by omega)
              have s3 : decide (k < n) = true := decide_eq_true hkn
              have s4 : decide (n ≤ k) = false := decide_eq_false (by omega)
              generalize xs k = xv at c7 c8 hne
              clear hcell7 hcell8 hpad
              go_wp2_with (go_quiet (fail))
              go_roundw
              case rel => exact ⟨k + 1, by go_num, by omega, below_drewN hrel.out _⟩
              case measure => simp [intOf]; omega
            · have hpad : pad n xs k = 0 := by unfold pad; rw [if_neg hkn]
              rw [hpad] at c7
              have s1 : decide ((k : Int) < (n : Int)) = false := decide_eq_false (by omega)
              have s2 : decide ((n : Int) ≤ (k : Int)) = true := decide_eq_true (by omega)
              have s3 : decide (k < n) = false := decide_eq_false hkn
              have s4 : decide (n ≤ k) = true := decide_eq_true (by omega)
              clear hcell7 hpad
              go_wp2_with (go_quiet (fail))
              go_roundw
              case rel => exact ⟨k + 1, by go_num, by omega, below_drewN hrel.out _⟩
              case measure => simp [intOf]; omega
          · obtain rfl : N = k := by omega
            have HP5 : Hid (Il2 wr (.slice po q pc) q (mpz n xs h)) := HP.out.below hrel.out
            have BW5 : Hid (Below w.heap.size w wr) := bstep BW.out hrel.out
            have htp := top_in HH.out
            obtain ⟨tp, htp2⟩ : ∃ tp : Int, tp = 2 ^ h - 1 := ⟨_, rfl⟩
            have HTP : Hid (tp = 2 ^ h - 1) := htp2
            have g1 : (2 : Int) ^ h = tp + 1 := by rw [htp2]; omega
            have g2 : IntKind.u64.wrap (h : Int) = (h : Int) := by rw [IntKind.wrap_u64]; omega
            rw [← htp2] at htp
            clear htp2 hrel HP BW HK
            go_wp2
            go_loopw [15] (fun i w6 => ∃ k2 : Nat, i = .int .i64 (k2 : Int) ∧ k2 ≤ q ∧ w6 = wr) (fun i _ => q - (intOf i).toNat)
            case atStart => exact ⟨0, rfl, by omega, rfl⟩
            case round =>
              rename World => w6
              obtain ⟨k2, rfl, hk2, hw6⟩ := hrel
              obtain rfl : wr = w6 := hw6.symm
              by_cases hkq : k2 < q
              · obtain ⟨b9, off9, rfl, hlt9, hcell9⟩ := il2_cells HP5.out (by omega)
                have c0 := (hcell9 k2 hkq).1
                have c1 := (hcell9 k2 hkq).2
                rw [mpz_0] at c0
                rw [mpz_1] at c1
                have o1 := lvl_odd (f := k2 * (2 * h)) HBT.out.2 HH.out
                have o2 := lvl_odd (f := k2 * (2 * h) + h) HBT.out.2 HH.out
                rw [← HTP.out] at o1 o2
                generalize lvl n xs (k2 * (2 * h)) h = lx at c0 o1
                generalize lvl n xs (k2 * (2 * h) + h) h = ly at c1 o2
                have j1 := abs_any lx (by omega)
                have j2 := abs_any ly (by omega)
                obtain ⟨ax, hax⟩ : ∃ ax : Int, ax = if lx < 0 then -lx else lx := ⟨_, rfl⟩
                obtain ⟨ay, hay⟩ : ∃ ay : Int, ay = if ly < 0 then -ly else ly := ⟨_, rfl⟩
                rw [← hax] at j1
                rw [← hay] at j2
                have hax2 : ax ≤ tp := by rw [hax]; split <;> omega
                have hay2 : ay ≤ tp := by rw [hay]; split <;> omega
                obtain ⟨rx, hrx⟩ : ∃ rx : Int, rx = lx.tmod 2 := ⟨_, rfl⟩
                obtain ⟨ry, hry⟩ : ∃ ry : Int, ry = ly.tmod 2 := ⟨_, rfl⟩
                have t1 : (rx == 0) = false := by
                  have h9 := Int.mul_tdiv_add_tmod lx 2
                  have h10 : rx ≠ 0 := by rw [hrx]; intro e; rw [e] at h9; omega
                  simpa using h10
                have t2 : (ry == 0) = false := by
                  have h9 := Int.mul_tdiv_add_tmod ly 2
                  have h10 : ry ≠ 0 := by rw [hry]; intro e; rw [e] at h9; omega
                  simpa using h10
                have t3 : lx.tmod 2 = rx := hrx.symm
                have t4 : ly.tmod 2 = ry := hry.symm
                clear hcell9 hax hay hrx hry o1 o2
                go_wp2_with (first | (go_at_call 9; (with_reducible refine (j1 _).mono ?_); rintro e w' ⟨rfl, hw⟩; obtain rfl := hw.symm) | (go_at_call 9; (with_reducible refine (j2 _).mono ?_); rintro e w' ⟨rfl, hw⟩; obtain rfl := hw.symm))
                go_roundw
                case rel => exact ⟨k2 + 1, by go_num, by omega, by trivial⟩
                case measure => simp [intOf]; omega
              · obtain rfl : q = k2 := by omega
                go_wp2
                go_ret
                exact ⟨rfl, BW5.out⟩
      · have b1 : decide (1024 < N) = true := decide_eq_true (by omega)
        have b2 : decide ((1024 : Int) < (N : Int)) = true := decide_eq_true (by omega)
        have il := map_lit w3
        go_wp2_with (first | (go_at_call 6; (with_reducible refine il.mono ?_); rintro e w9 ⟨gb, gc, rfl, c0, c1, hb⟩; have B9 : Hid (Below w.heap.size w w9) := bstep BW.out hb; clear hb))
        go_ret
        exact ⟨rfl, B9.out⟩
    · have i1 := iMap_bad (x := x) HV.out (by omega) hg (fun _ => 0)
      go_upto_region 8 with (first
        | (go_at_call 6; (with_reducible refine i1.mono ?_); rintro e w2 ⟨p, rfl, ho, hb⟩; have BW : Hid (Below w.heap.size w w2) := bstep BW.out hb; have HV : Hid (Il w2 (.slice uo n uc) n xs) := HV.out.below hb; clear ho hb)
        | (go_at_call 7; refine (sMap_bad (x := x) HV.out (by omega) hg (fun _ => 0)).mono ?_; rintro e w3 ⟨p3, rfl, ho, hb⟩; have BW : Hid (Below w.heap.size w w3) := bstep BW.out hb; clear ho hb))
      clear i1 hg
      have il := map_lit w3
      go_wp2_with (first | (go_at_call 6; (with_reducible refine il.mono ?_); rintro e w9 ⟨gb, gc, rfl, c0, c1, hb⟩; have B9 : Hid (Below w.heap.size w w9) := bstep BW.out hb; clear hb))
      go_ret
      exact ⟨rfl, B9.out⟩
  · rw [decide_eq_true (by omega)] at ib
    clear hr
    go_enter Try.func3, Try.ntmps3
    go_wp2_with (first | (go_at_call 4; (with_reducible refine (ib).mono ?_); rintro e w' ⟨rfl, hw⟩; obtain rfl := hw.symm))
    go_ret
    exact ⟨rfl, Below.refl _ _⟩
end Go.Proofs.Ytpoiejmpdlmegaa

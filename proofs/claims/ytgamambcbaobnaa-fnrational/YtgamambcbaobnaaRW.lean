/- FnRational: what each call tells. -/
import Derived.Test.YtgamambcbaobnaaFJ
namespace Go.Proofs.Ytgamambcbaobnaa
open Go.RowKit

set_option maxHeartbeats 1000000 in
theorem same_yes {w : World} {u v : Value} {n : Nat} {xs ys : Nat → Int} (hu : Il w u n xs) (hv : Il w v n ys) (hn : n ≤ 1048576) (he : ∀ k, k < n → xs k = ys k) : Calls Try.prog 10 #[u, v] w fun e w' => e = .returned (.bool true) ∧ Below w.heap.size w w' := by
  obtain ⟨ao, cap, rfl, hcap, hc⟩ := hu
  obtain ⟨ao2, cap2, rfl, hcap2, hc2⟩ := hv
  have HC : Hid (0 < n → ∃ b off, ao = some ⟨b, off, none⟩ ∧ b < w.heap.size ∧ ∀ k, k < n → w.cell? ⟨b, off + k, none⟩ = some (.int .i64 (xs k))) := hc
  have HC2 : Hid (0 < n → ∃ b off, ao2 = some ⟨b, off, none⟩ ∧ b < w.heap.size ∧ ∀ k, k < n → w.cell? ⟨b, off + k, none⟩ = some (.int .i64 (ys k))) := hc2
  have HE : Hid (∀ k, k < n → xs k = ys k) := he
  clear hc hc2 he
  go_enter Try.func10, Try.ntmps10
  go_wp2
  go_loopw [5] (fun i wr => ∃ k : Nat, i = .int .i64 k ∧ k ≤ n ∧ Hid (Below w.heap.size w wr)) (fun i _ => n - (intOf i).toNat)
  case atStart => exact ⟨0, rfl, by omega, Below.refl _ _⟩
  case round =>
    obtain ⟨k, rfl, hk, hrel⟩ := hrel
    by_cases h1 : k < n
    · obtain ⟨b, off, rfl, hlt, hcell⟩ := HC.out (by omega)
      obtain ⟨b2, off2, rfl, hlt2, hcell2⟩ := HC2.out (by omega)
      have c := (hrel.out.cell (p := ⟨b, off + k, none⟩) hlt).trans (hcell k h1)
      have c2 := (hrel.out.cell (p := ⟨b2, off2 + k, none⟩) hlt2).trans (hcell2 k h1)
      rw [← HE.out k h1] at c2
      clear hcell hcell2
      go_wp2_with (go_quiet (fail))
      go_roundw
      case rel => exact ⟨k + 1, by go_num, by omega, by first | exact hrel.out | exact below_drewN hrel.out _⟩
      case measure => simp [intOf]; omega
    · obtain rfl : k = n := by omega
      go_wp2
      go_ret
      exact ⟨rfl, hrel.out⟩

def la (i : Nat) : Int := if i = 0 then 2 else 4

theorem la_il (w : World) : Il (w.alloc (.cells #[.int .i64 2, .int .i64 4] 3)) (.slice (some ⟨w.heap.size, 0, none⟩) 2 2) 2 la := by
  refine ⟨_, _, rfl, Nat.le_refl _, fun _ => ⟨_, _, rfl, by simp, fun k hk => ?_⟩⟩
  match k, hk with
  | 0, _ => simp [la]
  | 1, _ => simp [la]

def lb (i : Nat) : Int := if i = 0 then 1 else 1

theorem lb_il (w : World) : Il (w.alloc (.cells #[.int .i64 1, .int .i64 1] 3)) (.slice (some ⟨w.heap.size, 0, none⟩) 2 2) 2 lb := by
  refine ⟨_, _, rfl, Nat.le_refl _, fun _ => ⟨_, _, rfl, by simp, fun k hk => ?_⟩⟩
  match k, hk with
  | 0, _ => simp [lb]
  | 1, _ => simp [lb]

def lc4 (i : Nat) : Int := if i = 0 then 2 else if i = 1 then 2 else if i = 2 then 4 else 4

theorem lc4_il (w : World) : Il (w.alloc (.cells #[.int .i64 2, .int .i64 2, .int .i64 4, .int .i64 4] 3)) (.slice (some ⟨w.heap.size, 0, none⟩) 4 4) 4 lc4 := by
  refine ⟨_, _, rfl, Nat.le_refl _, fun _ => ⟨_, _, rfl, by simp, fun k hk => ?_⟩⟩
  match k, hk with
  | 0, _ => simp [lc4]
  | 1, _ => simp [lc4]
  | 2, _ => simp [lc4]
  | 3, _ => simp [lc4]


theorem lab_good : GRa 2 2 la lb ((2 : Nat) : Int) ((1 : Nat) : Int) := ⟨⟨⟨by decide, fun k hk => by match k, hk with | 0, _ => decide | 1, _ => decide⟩, fun k hk => by match k, hk with | 0, _ => decide | 1, _ => decide⟩, ⟨by decide, fun k hk => by match k, hk with | 0, _ => decide | 1, _ => decide⟩, by decide, by decide⟩

theorem lab_told : ∀ k, k < 4 → raF 2 2 1 lb la k = lc4 k := fun k hk => by match k, hk with | 0, _ => decide | 1, _ => decide | 2, _ => decide | 3, _ => decide

theorem lab_x {W : World} {lv tv : Value} (h1 : Il W lv 2 la) (h2 : Il W tv 2 lb) : Calls Try.prog 6 #[lv, tv, .int .i64 2, .int .i64 1] W fun e w' => Pst W w' e 4 (raF 2 2 1 lb la) true := iRat_good (u := 2) (d := 1) (M := 4) h1 h2 lab_good rfl

theorem lab_y (w : World) : Calls Try.prog 6 #[.slice (some ⟨w.heap.size, 0, none⟩) 2 2, .slice (some ⟨w.heap.size + 1, 0, none⟩) 2 2, .int .i64 2, .int .i64 1] ((w.alloc (.cells #[.int .i64 2, .int .i64 4] 3)).alloc (.cells #[.int .i64 1, .int .i64 1] 3)) fun e w' => ∃ v, e = .returned (.tuple #[v, .bool true]) ∧ Il w' v 4 (raF 2 2 1 lb la) ∧ Below w.heap.size w w' := by
  have hs : (w.alloc (.cells #[.int .i64 2, .int .i64 4] 3)).heap.size = w.heap.size + 1 := by simp
  have h := lab_x ((la_il w).below (below_one _ (.cells #[.int .i64 1, .int .i64 1] 3))) (lb_il _)
  rw [hs] at h
  refine h.mono ?_
  rintro e w' ⟨v, rfl, ho, hb⟩
  exact ⟨v, rfl, il_of_own ho, bstep (bstep (below_one _ _) (below_one _ _)) hb⟩

theorem iR_any {W : World} {lv tv : Value} {n m : Nat} {i j : Int} {ys f : Nat → Int} (hu : Il W lv n ys) (ht : Il W tv m f) (hn : n ≤ 64) (hm : m ≤ 65) : Calls Try.prog 6 #[lv, tv, .int .i64 i, .int .i64 j] W fun e w' => ∃ v K zs, e = .returned (.tuple #[v, .bool (decide (GRa n m ys f i j))]) ∧ Il w' v K zs ∧ Below W.heap.size W w' ∧ (GRa n m ys f i j → ∃ u d : Nat, i = u ∧ j = d ∧ K = dN (n * u) d 0 ∧ zs = raF m u d f ys) := by
  by_cases h : GRa n m ys f i j
  · obtain ⟨u, rfl⟩ : ∃ m : Nat, i = (m : Int) := ⟨i.toNat, by have := h.2.2.1; omega⟩
    obtain ⟨d, rfl⟩ : ∃ m : Nat, j = (m : Int) := ⟨j.toNat, by have := h.2.2.2; omega⟩
    rw [decide_eq_true h]
    refine (iRat_good hu ht h rfl).mono ?_
    rintro e w' ⟨v, rfl, h1, h2⟩
    exact ⟨v, _, _, rfl, il_of_own h1, h2, fun _ => ⟨u, d, rfl, rfl, rfl, rfl⟩⟩
  · rw [decide_eq_false h]
    refine (iRat_bad hu ht (by omega) (by omega) h (fun _ => 0)).mono ?_
    rintro e w' ⟨v, rfl, h1, h2⟩
    exact ⟨v, _, _, rfl, il_of_own h1, h2, fun h' => absurd h' h⟩

theorem sR_any {W : World} {lv tv : Value} {n m : Nat} {i j : Int} {ys f : Nat → Int} (hu : Il W lv n ys) (ht : Il W tv m f) (hn : n ≤ 64) (hm : m ≤ 65) : Calls Try.prog 7 #[lv, tv, .int .i64 i, .int .i64 j] W fun e w' => ∃ v, e = .returned (.tuple #[v, .bool (decide (GRa n m ys f i j))]) ∧ Below W.heap.size W w' := by
  by_cases h : GRa n m ys f i j
  · obtain ⟨u, rfl⟩ : ∃ m : Nat, i = (m : Int) := ⟨i.toNat, by have := h.2.2.1; omega⟩
    obtain ⟨d, rfl⟩ : ∃ m : Nat, j = (m : Int) := ⟨j.toNat, by have := h.2.2.2; omega⟩
    rw [decide_eq_true h]
    refine (sRat_good hu ht h rfl).mono ?_
    rintro e w' ⟨v, rfl, h1, h2⟩
    exact ⟨v, rfl, h2⟩
  · rw [decide_eq_false h]
    refine (sRat_bad hu ht (by omega) (by omega) h (fun _ => 0)).mono ?_
    rintro e w' ⟨v, rfl, h1, h2⟩
    exact ⟨v, rfl, h2⟩

theorem iU_any {W : World} {u : Value} {n : Nat} {k : Int} {ys : Nat → Int} (hu : Il W u n ys) (hn : n ≤ 64) : Calls Try.prog 8 #[u, .int .i64 k] W fun e w' => ∃ v N zs, e = .returned (.tuple #[v, .bool (decide (GUp n ys k))]) ∧ Il w' v N zs ∧ Below W.heap.size W w' ∧ (GUp n ys k → ∃ m : Nat, k = m ∧ N = n * m ∧ zs = upF m ys) := by
  by_cases h : GUp n ys k
  · obtain ⟨m, rfl⟩ : ∃ m : Nat, k = (m : Int) := ⟨k.toNat, by have := h.2.1.1; omega⟩
    rw [decide_eq_true h]
    refine (iUp_good hu h rfl).mono ?_
    rintro e w' ⟨v, rfl, h1, h2⟩
    exact ⟨v, _, _, rfl, il_of_own h1, h2, fun _ => ⟨m, rfl, rfl, rfl⟩⟩
  · rw [decide_eq_false h]
    refine (iUp_bad hu (by omega) h (fun _ => 0)).mono ?_
    rintro e w' ⟨v, rfl, h1, h2⟩
    exact ⟨v, _, _, rfl, il_of_own h1, h2, fun h' => absurd h' h⟩

theorem sU_any {W : World} {u : Value} {n : Nat} {k : Int} {ys : Nat → Int} (hu : Il W u n ys) (hn : n ≤ 64) : Calls Try.prog 9 #[u, .int .i64 k] W fun e w' => ∃ v, e = .returned (.tuple #[v, .bool (decide (GUp n ys k))]) ∧ Below W.heap.size W w' := by
  by_cases h : GUp n ys k
  · obtain ⟨m, rfl⟩ : ∃ m : Nat, k = (m : Int) := ⟨k.toNat, by have := h.2.1.1; omega⟩
    rw [decide_eq_true h]
    refine (sUp_good hu h rfl).mono ?_
    rintro e w' ⟨v, rfl, h1, h2⟩
    exact ⟨v, rfl, h2⟩
  · rw [decide_eq_false h]
    refine (sUp_bad hu (by omega) h (fun _ => 0)).mono ?_
    rintro e w' ⟨v, rfl, h1, h2⟩
    exact ⟨v, rfl, h2⟩

theorem upF_sig {n m : Nat} {ys : Nat → Int} (h : Sig n ys) (hm : 0 < m) (hM : n * m ≤ 512) : Sig (n * m) (upF m ys) := by
  refine ⟨hM, fun j hj => ?_⟩
  unfold upF
  by_cases h0 : j % m = 0
  · rw [if_pos h0]; exact h.2 _ ((Nat.div_lt_iff_lt_mul hm).2 hj)
  · rw [if_neg h0]; exact ⟨by omega, by omega⟩
end Go.Proofs.Ytgamambcbaobnaa

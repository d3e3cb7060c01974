/- Powers, values of lists, which words are taken. -/
import Derived.Test.YtpjpkkgcnnmljaaGA
import Derived.Test.YtpjpkkgcnnmljaaGN
import Derived.Test.YtpjpkkgcnnmljaaBY
namespace Go.Proofs.Ytpjpkkgcnnmljaa
open Go.RowKit

/-- Bytes, as numbers below 256 wherever they are asked. -/
def Byt (n : Nat) (xs : Nat → Int) : Prop := ∀ k, k < n → 0 ≤ xs k ∧ xs k < 256
def nb (n : Nat) (xs : Nat → Int) (k : Nat) : Nat := if k < n then (xs k).toNat else 0
theorem nb_lt {n : Nat} {xs : Nat → Int} (h : Byt n xs) (k : Nat) : nb n xs k < 256 := by
  unfold nb
  split
  · rename_i hk; have := h k hk; omega
  · omega
theorem nb_at {n : Nat} {xs : Nat → Int} (h : Byt n xs) {k : Nat} (hk : k < n) : xs k = ((nb n xs k : Nat) : Int) := by
  unfold nb
  rw [if_pos hk]
  have := h k hk
  omega

/-- The value of a list, the first number that of the highest power; the signs. -/
def hz (g : Nat → Nat) (x : Nat) : Nat → Nat
  | 0 => 0
  | k + 1 => gm (hz g x k) x ^^^ g k
theorem hz_lt {g : Nat → Nat} (hg : ∀ k, g k < 256) (x : Nat) : ∀ k, hz g x k < 256
  | 0 => by show 0 < 256; omega
  | k + 1 => xor_lt8 (gm_lt (hz_lt hg x k) x) (hg k)
def syn (n : Nat) (g : Nat → Nat) (j : Nat) : Nat := hz g (gpw j) n
theorem syn_lt {g : Nat → Nat} (hg : ∀ k, g k < 256) (n j : Nat) : syn n g j < 256 := hz_lt hg _ _
/-- As the program keeps them: sixteen, noughts behind. -/
def syz (n : Nat) (g : Nat → Nat) (t j : Nat) : Nat := if j < t then syn n g j else 0
theorem syz_lt {g : Nat → Nat} (hg : ∀ k, g k < 256) (n t j : Nat) : syz n g t j < 256 := by
  unfold syz
  split
  · exact syn_lt hg _ _
  · omega

/-- An array of sixteen bytes in a block. -/
structure Ar (W : World) (G : Nat) (f : Nat → Nat) : Prop where
  c : ∀ k, k < 16 → W.cell? ⟨G, k, none⟩ = some (.int .u8 ((f k : Nat) : Int))
  z : ∀ k, k < 16 → W.frozen? ⟨G, k, none⟩ = false

theorem Ar.lt {W : World} {G : Nat} {f : Nat → Nat} (h : Ar W G f) : G < W.heap.size := World.block_lt_of_cell? W _ (h.c 0 (by omega))
theorem Ar.below {W W' : World} {G : Nat} {f : Nat → Nat} (h : Ar W G f) (hb : Below W.heap.size W W') : Ar W' G f :=
  ⟨fun k hk => (hb.cell h.lt).trans (h.c k hk), fun k hk => (hb.frozen h.lt).trans (h.z k hk)⟩
theorem Ar.block {W W' : World} {G : Nat} {f : Nat → Nat} (h : Ar W G f) (hb : W'.heap[G]? = W.heap[G]?) : Ar W' G f :=
  ⟨fun k hk => (World.cell?_of_block (w := W) hb).trans (h.c k hk), fun k hk => (World.frozen?_of_block (w := W) hb).trans (h.z k hk)⟩
theorem Ar.put {W : World} {G j : Nat} {f : Nat → Nat} (h : Ar W G f) (hj : j < 16) (y : Nat) : Ar (W.setCell ⟨G, j, none⟩ (.int .u8 (y : Int))) G (fun k => if k = j then y else f k) := by
  have c1 := h.c j hj
  refine ⟨fun k hk => ?_, fun k hk => ?_⟩
  · by_cases e : k = j
    · subst e
      simp [go_sem, c1]
    · have c2 := h.c k hk
      simp [go_sem, c2, e]
  · have z2 := h.z k hk
    simp [go_sem, z2]
theorem Ar.congr {W : World} {G : Nat} {f g : Nat → Nat} (h : Ar W G f) (he : ∀ k, k < 16 → f k = g k) : Ar W G g := ⟨fun k hk => by rw [← he k hk]; exact h.c k hk, h.z⟩

abbrev agv (f : Nat → Nat) : Value := .agg #[.int .u8 ((f 0 : Nat) : Int), .int .u8 ((f 1 : Nat) : Int), .int .u8 ((f 2 : Nat) : Int), .int .u8 ((f 3 : Nat) : Int), .int .u8 ((f 4 : Nat) : Int), .int .u8 ((f 5 : Nat) : Int), .int .u8 ((f 6 : Nat) : Int), .int .u8 ((f 7 : Nat) : Int), .int .u8 ((f 8 : Nat) : Int), .int .u8 ((f 9 : Nat) : Int), .int .u8 ((f 10 : Nat) : Int), .int .u8 ((f 11 : Nat) : Int), .int .u8 ((f 12 : Nat) : Int), .int .u8 ((f 13 : Nat) : Int), .int .u8 ((f 14 : Nat) : Int), .int .u8 ((f 15 : Nat) : Int)]

theorem Ar.new (w : World) (t : TypeId) : Ar (w.alloc (.cells #[.int .u8 0, .int .u8 0, .int .u8 0, .int .u8 0, .int .u8 0, .int .u8 0, .int .u8 0, .int .u8 0, .int .u8 0, .int .u8 0, .int .u8 0, .int .u8 0, .int .u8 0, .int .u8 0, .int .u8 0, .int .u8 0] t)) w.heap.size (fun _ => 0) := by
  refine ⟨fun k hk => ?_, fun k hk => ?_⟩
  · match k, hk with
    | 0, _ => simp
    | 1, _ => simp
    | 2, _ => simp
    | 3, _ => simp
    | 4, _ => simp
    | 5, _ => simp
    | 6, _ => simp
    | 7, _ => simp
    | 8, _ => simp
    | 9, _ => simp
    | 10, _ => simp
    | 11, _ => simp
    | 12, _ => simp
    | 13, _ => simp
    | 14, _ => simp
    | 15, _ => simp
    | k + 16, hk => exact absurd hk (by omega)
  · match k, hk with
    | 0, _ => simp
    | 1, _ => simp
    | 2, _ => simp
    | 3, _ => simp
    | 4, _ => simp
    | 5, _ => simp
    | 6, _ => simp
    | 7, _ => simp
    | 8, _ => simp
    | 9, _ => simp
    | 10, _ => simp
    | 11, _ => simp
    | 12, _ => simp
    | 13, _ => simp
    | 14, _ => simp
    | 15, _ => simp
    | k + 16, hk => exact absurd hk (by omega)

set_option maxRecDepth 20000 in
set_option maxHeartbeats 1000000 in
theorem pow_any {k : Nat} (hk : k ≤ 5000) (w : World) : Calls Try.prog 62 #[.int .i64 (k : Int)] w fun e w' => e = .returned (.int .u8 ((gpw k : Nat) : Int)) ∧ w' = w := by
  obtain ⟨z, hz9⟩ : ∃ z, z = gpw k := ⟨_, rfl⟩
  have HZ : Hid (z = gpw k) := hz9
  rw [← hz9]
  clear hz9
  go_enter Try.func62, Try.ntmps62
  go_wp2
  go_loopw [3, 5] (fun pv iv wr => ∃ i p : Nat, iv = .int .i64 (i : Int) ∧ pv = .int .u8 (p : Int) ∧ i ≤ k ∧ p < 256 ∧ wr = w ∧ Hid (p = gpw i)) (fun _ iv _ => k - (intOf iv).toNat)
  case atStart => exact ⟨0, 1, rfl, rfl, by omega, by omega, rfl, rfl⟩
  case round =>
    obtain ⟨i, p, rfl, rfl, hi, hp, rfl, hrel⟩ := hrel
    by_cases h1 : i < k
    · have i1 := dbl_any hp
      have HN : Hid (gdb p = gpw (i + 1)) := by rw [hrel.out]; exact rfl
      have hg := gdb_lt hp
      generalize gdb p = q at *
      clear hrel
      go_wp2_with (first | (go_at_call 69; (with_reducible refine (i1 _).mono ?_); rintro e w' ⟨rfl, hw⟩; obtain rfl := hw.symm))
      go_roundw
      case rel => exact ⟨i + 1, q, by go_num, rfl, by omega, hg, by trivial, HN.out⟩
      case measure => simp [intOf]; omega
    · obtain rfl : k = i := by omega
      obtain rfl : p = z := hrel.out.trans HZ.out.symm
      go_wp2
      go_ret
      exact ⟨rfl, rfl⟩

set_option maxRecDepth 20000 in
set_option maxHeartbeats 1000000 in
theorem high_any {w : World} {v : Value} {n x : Nat} {xs : Nat → Int} (hv : Bl w v n xs) (hb : Byt n xs) (hn : n ≤ 1048576) (hx : x < 256) : Calls Try.prog 61 #[v, .int .u8 (x : Int)] w fun e w' => e = .returned (.int .u8 ((hz (nb n xs) x n : Nat) : Int)) ∧ w' = w := by
  obtain ⟨ao, cap, rfl, hcap, hc⟩ := hv
  have HC : Hid (0 < n → ∃ b off, ao = some ⟨b, off, none⟩ ∧ b < w.heap.size ∧ ∀ k, k < n → w.cell? ⟨b, off + k, none⟩ = some (.int .u8 (xs k))) := hc
  have HY : Hid (Byt n xs) := hb
  clear hc hb
  obtain ⟨z, hz9⟩ : ∃ z, z = hz (nb n xs) x n := ⟨_, rfl⟩
  have HZ : Hid (z = hz (nb n xs) x n) := hz9
  rw [← hz9]
  clear hz9
  go_enter Try.func61, Try.ntmps61
  go_wp2
  go_loopw [5, 7, 10] (fun pv _ iv wr => ∃ i p : Nat, iv = .int .i64 (i : Int) ∧ pv = .int .u8 (p : Int) ∧ i ≤ n ∧ p < 256 ∧ wr = w ∧ Hid (p = hz (nb n xs) x i)) (fun _ _ iv _ => n - (intOf iv).toNat)
  case atStart => exact ⟨0, 0, rfl, rfl, by omega, by omega, rfl, rfl⟩
  case round =>
    obtain ⟨i, p, rfl, rfl, hi, hp, rfl, hrel⟩ := hrel
    by_cases h1 : i < n
    · obtain ⟨b, off, rfl, hlt, hcell⟩ := HC.out (by omega)
      have c := hcell i h1
      rw [nb_at HY.out h1] at c
      have i1 := times_any hp hx
      have hg := gm_lt hp x
      have hy := nb_lt HY.out i
      have HN : Hid (gm p x ^^^ nb n xs i = hz (nb n xs) x (i + 1)) := by rw [hrel.out]; exact rfl
      generalize gm p x = q at *
      generalize nb n xs i = y at *
      have xo := xor_u8 hg hy
      have hl := xor_lt8 hg hy
      generalize (q ^^^ y) = r at *
      clear hrel hcell
      go_wp2_with (first | (go_at_call 66; (with_reducible refine (i1 _).mono ?_); rintro e w' ⟨rfl, hw⟩; obtain rfl := hw.symm))
      go_roundw
      case rel => exact ⟨i + 1, r, by go_num, rfl, by omega, hl, by trivial, HN.out⟩
      case measure => simp [intOf]; omega
    · obtain rfl : n = i := by omega
      obtain rfl : p = z := hrel.out.trans HZ.out.symm
      go_wp2
      go_ret
      exact ⟨rfl, rfl⟩

theorem below_at {w X : World} {n k : Nat} {v : Value} (h : Below n w X) : Below n w (X.setCell ⟨n, k, none⟩ v) := h.setCell (p := ⟨n, k, none⟩) (Nat.le_refl _) _

/-- Which words and mends are taken. -/
def Bk (n : Int) (t : Int) : Prop := (1 ≤ t ∧ t ≤ 8) ∧ 2 * t < n ∧ n ≤ 255
instance (n t : Int) : Decidable (Bk n t) := by unfold Bk; infer_instance

theorem iMend_any (t : Int) (w : World) : Calls Try.prog 38 #[.int .i64 t] w fun e w' => e = .returned (.bool (decide (1 ≤ t ∧ t ≤ 8))) ∧ w' = w := by
  obtain ⟨d, hd⟩ : ∃ d, d = decide (1 ≤ t ∧ t ≤ 8) := ⟨_, rfl⟩
  rw [← hd]
  have HD : Hid (d = decide (1 ≤ t ∧ t ≤ 8)) := hd
  clear hd
  by_cases h1 : 1 ≤ t
  · go_enter Try.func38, Try.ntmps38
    go_wp2
    go_ret
    refine ⟨congrArg (fun z => Ending.returned (.bool z)) ?_, rfl⟩
    rw [HD.out]
    exact decide_eq_decide.2 ⟨fun h => ⟨h1, by omega⟩, fun h => by omega⟩
  · go_enter Try.func38, Try.ntmps38
    go_wp2
    go_ret
    refine ⟨congrArg (fun z => Ending.returned (.bool z)) ?_, rfl⟩
    rw [HD.out]
    exact (decide_eq_false (fun h => by omega)).symm

theorem iBlock_any (n t : Int) (w : World) : Calls Try.prog 46 #[.int .i64 n, .int .i64 t] w fun e w' => e = .returned (.bool (decide (Bk n t))) ∧ w' = w := by
  have i1 := iMend_any t
  obtain ⟨d, hd⟩ : ∃ d, d = decide (Bk n t) := ⟨_, rfl⟩
  rw [← hd]
  have HD : Hid (d = decide (Bk n t)) := hd
  clear hd
  by_cases h1 : 1 ≤ t ∧ t ≤ 8
  · rw [decide_eq_true h1] at i1
    by_cases h2 : 2 * t < n
    · go_enter Try.func46, Try.ntmps46
      go_wp2_with (first | (go_at_call 38; (with_reducible refine (i1 _).mono ?_); rintro e w' ⟨rfl, hw⟩; obtain rfl := hw.symm))
      go_ret
      refine ⟨congrArg (fun z => Ending.returned (.bool z)) ?_, rfl⟩
      rw [HD.out]
      exact decide_eq_decide.2 ⟨fun h => ⟨h1, by omega, by omega⟩, fun h => by have := h.2; omega⟩
    · go_enter Try.func46, Try.ntmps46
      go_wp2_with (first | (go_at_call 38; (with_reducible refine (i1 _).mono ?_); rintro e w' ⟨rfl, hw⟩; obtain rfl := hw.symm))
      go_ret
      refine ⟨congrArg (fun z => Ending.returned (.bool z)) ?_, rfl⟩
      rw [HD.out]
      exact (decide_eq_false (fun h => by have := h.2; omega)).symm
  · rw [decide_eq_false h1] at i1
    have H1 : Hid (¬ (1 ≤ t ∧ t ≤ 8)) := h1
    clear h1
    go_enter Try.func46, Try.ntmps46
    go_wp2_with (first | (go_at_call 38; (with_reducible refine (i1 _).mono ?_); rintro e w' ⟨rfl, hw⟩; obtain rfl := hw.symm))
    go_ret
    refine ⟨congrArg (fun z => Ending.returned (.bool z)) ?_, rfl⟩
    rw [HD.out]
    exact (decide_eq_false (fun h => H1.out h.1)).symm
end Go.Proofs.Ytpjpkkgcnnmljaa

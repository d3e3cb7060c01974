/- A list run through a structure. -/
import Derived.Test.YtmjgaocmmmcnfaaIA
import Derived.Deep.Cut
namespace Go.Proofs.Ytmjgaocmmmcnfaa
open Go.RowKit

/-- The first k told, noughts behind them. -/
def upz (f : Nat → Int) (k i : Nat) : Int := if i < k then f i else 0

theorem upz_put (f : Nat → Int) (n k : Nat) : (ils (upz f k) n).set k (.int .i64 (f k)) = ils (upz f (k + 1)) n := by
  rw [ils_put]
  refine ils_congr fun i _ => ?_
  unfold upz
  by_cases h : i = k
  · subst h; rw [if_pos rfl, if_pos (by omega)]
  · rw [if_neg h]
    by_cases h1 : i < k
    · rw [if_pos h1, if_pos (by omega)]
    · rw [if_neg h1, if_neg (by omega)]

theorem upz_zero (f : Nat → Int) (n : Nat) : ils (upz f 0) n = ils (fun _ => 0) n := ils_congr fun i _ => by simp [upz]

theorem upz_full (f : Nat → Int) (n : Nat) : ils (upz f n) n = ils f n := ils_congr fun i hi => by simp [upz, hi]

theorem noWhole53 (v : Value) (xT : TypeId) (w : World) : (Instr.typeAssert (.iface 53 v) xT 64 true).run Try.prog w = .ok (.tuple #[.nilIface, .bool false]) w := run_typeAssert_lacksB Try.underlying64 (by kernel_rfl) (by kernel_rfl) v xT w

set_option maxHeartbeats 2000000 in
theorem runR {w : World} {v : Value} {n : Nat} {xs : Nat → Int} (hv : Il w v n xs) (hn : n ≤ 1048576) (p : Addr) (D R : Nat → Prop) (S : Nat → World → Prop) (out : Nat → Int)
    (hst : ∀ k W W', S k W → (∀ g, R g → W'.heap[g]? = W.heap[g]?) → S k W') (hR : ∀ g, R g → g < w.heap.size) (hD : ∀ g, D g → g < w.heap.size) (hl : 0 < n → ∀ b off n' c, v = .slice (some ⟨b, off, none⟩) n' c → ¬ D b)
    (hstep : ∀ k W, k < n → S k W → Calls Try.prog 48 #[.pointer (some p), .int .i64 (xs k)] W fun e W' => e = .returned (.int .i64 (out k)) ∧ S (k + 1) W' ∧ Kd D W W') (h0 : S 0 w) :
    Calls Try.prog 26 #[.iface 53 (.pointer (some p)), v] w fun e w' => ∃ v', e = .returned v' ∧ w'.ownsRow w.heap.size 3 1 v' n (ils out n) ∧ S n w' ∧ Kd D w w' := by
  obtain ⟨ao, cap, rfl, hcap, hc⟩ := hv
  have HC : Hid (0 < n → ∃ b off, ao = some ⟨b, off, none⟩ ∧ b < w.heap.size ∧ ∀ k, k < n → w.cell? ⟨b, off + k, none⟩ = some (.int .i64 (xs k))) := hc
  have HL : Hid (0 < n → ∀ b off n' c, (Value.slice ao n cap) = .slice (some ⟨b, off, none⟩) n' c → ¬ D b) := hl
  have HS : Hid (∀ k W, k < n → S k W → Calls Try.prog 48 #[.pointer (some p), .int .i64 (xs k)] W fun e W' => e = .returned (.int .i64 (out k)) ∧ S (k + 1) W' ∧ Kd D W W') := hstep
  have HT : Hid (∀ k W W', S k W → (∀ g, R g → W'.heap[g]? = W.heap[g]?) → S k W') := hst
  have HR : Hid (∀ g, R g → g < w.heap.size) := hR
  have HD : Hid (∀ g, D g → g < w.heap.size) := hD
  clear hc hl hstep hst hR hD
  have H0 : Hid (S 0 (mkd w n)) := HT.out 0 w _ h0 (fun g hg => (mkd_below w n).block g (HR.out g hg))
  have HO : Hid ((mkd w n).ownsRow w.heap.size 3 1 (.slice (some ⟨w.heap.size, 0, none⟩) n n) n (ils (upz out 0) n)) := by
    show (mkd w n).ownsRow w.heap.size 3 1 (.slice (some ⟨w.heap.size, 0, none⟩) n n) n (ils (upz out 0) n)
    rw [upz_zero]; exact mkd_own w (by omega) (Nat.le_refl _)
  have HK : Hid (Kd D w (mkd w n)) := Kd.of_below (mkd_below w n)
  have hA := noWhole53 (.pointer (some p))
  have hmk := fun W => mkd_run W (k := n) (by omega)
  go_enter Try.func26, Try.ntmps26
  go_wp2
  clear hmk h0
  generalize hT0 : w.heap.size = T0 at *
  have HT0 : Hid _ := hT0
  clear hT0
  generalize mkd w n = W0 at H0 HO HK ⊢
  go_loopw [8, 9, 24] (fun _ _ i wr => ∃ k : Nat, i = .int .i64 k ∧ k ≤ n ∧ Hid (S k wr ∧ wr.ownsRow T0 3 1 (.slice (some ⟨T0, 0, none⟩) n n) n (ils (upz out k) n) ∧ Kd D w wr)) (fun _ _ i _ => n - (intOf i).toNat)
  case atStart => exact ⟨0, rfl, by omega, H0.out, HO.out, HK.out⟩
  case round =>
    obtain ⟨k, rfl, hk, hrel⟩ := hrel
    by_cases h1 : k < n
    · obtain ⟨b, off, rfl, hlt, hcell⟩ := HC.out (by omega)
      have c := hcell k h1
      have hD := HL.out (by omega) b off n cap rfl
      have c1 : wr.cell? ⟨b, off + k, none⟩ = some (.int .i64 (xs k)) := (World.cell?_of_block (w := w) (hrel.out.2.2.block b (by rw [HT0.out]; exact hlt) hD)).trans c
      have i1 := HS.out k wr h1 hrel.out.1
      have hm : (method 185 53 (.pointer (some p)) "Step").run Try.prog wr = .ok (48, .pointer (some p)) wr := by kernel_rfl
      clear hcell c hD
      go_wp2_with (first
        | (go_at_call 48; (with_reducible refine i1.mono ?_); rintro e w1 ⟨rfl, hs1, hk1⟩; have HS1 : Hid (S (k + 1) w1) := hs1; have HO1 : Hid (w1.ownsRow T0 3 1 (.slice (some ⟨T0, 0, none⟩) n n) n (ils (upz out k) n)) := own_kd hrel.out.2.1 hk1 (fun g hg hd => by have e0 : T0 = g := Option.some.inj hg; have := HD.out _ hd; omega); have HK1 : Hid (Kd D w w1) := hrel.out.2.2.trans hk1; clear hs1 hk1; have d0 := World.ownsRow.cellAt HO1.out k (by omega); rw [ils_get h1] at d0; have z0 := World.ownsRow.frozenAt HO1.out k))
      go_roundw
      case rel =>
        refine ⟨k + 1, by go_num, by omega, ?_, ?_, ?_⟩
        · exact HT.out _ _ _ HS1.out (fun g hg => Below.heap_setCell _ _ _ _ (by show g ≠ T0; have := HR.out g hg; omega))
        · have := (World.ownsRow.stored HO1.out k (.int .i64 (out k))).1
          rw [upz_put] at this
          exact this
        · exact HK1.out.put (.inr (by rw [HT0.out]; exact Nat.le_refl _)) k _
      case measure => simp [intOf]; omega
    · obtain rfl : n = k := by omega
      have HF : Hid (wr.ownsRow T0 3 1 (.slice (some ⟨T0, 0, none⟩) n n) n (ils out n)) := by have := hrel.out.2.1; rw [upz_full] at this; exact this
      go_wp2
      go_ret
      exact ⟨_, rfl, by rw [HT0.out]; exact HF.out, hrel.out.1, hrel.out.2.2⟩

end Go.Proofs.Ytmjgaocmmmcnfaa

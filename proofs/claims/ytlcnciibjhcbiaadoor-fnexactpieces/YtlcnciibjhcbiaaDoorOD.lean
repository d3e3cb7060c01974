/- The wheels. -/
import Derived.Test.YtlcnciibjhcbiaaDoorOC
namespace Go.Proofs.YtlcnciibjhcbiaaDoor
open Go.RowKit

theorem pow_cases {n j : Nat} (hj : j < 8) (hn : n = 2 ^ j) : n = 1 ∨ n = 2 ∨ n = 4 ∨ n = 8 ∨ n = 16 ∨ n = 32 ∨ n = 64 ∨ n = 128 := by
  have : j = 0 ∨ j = 1 ∨ j = 2 ∨ j = 3 ∨ j = 4 ∨ j = 5 ∨ j = 6 ∨ j = 7 := by omega
  rcases this with rfl | rfl | rfl | rfl | rfl | rfl | rfl | rfl <;> omega

/-- Do at a wheel, whatever it was. -/
theorem do_any {n j : Nat} (hj : j < 8) (hn : n = 2 ^ j) (bk : Bool) (w : World) (G : Nat) (pn pb pw : Addr) (hW : Whl w G bk) (h1 : w.cell? pn = some (.int .i64 n)) (h2 : w.cell? pb = some (.bool bk)) (h3 : w.cell? pw = some (.pointer (some ⟨G, j * 4, none⟩)))
    (l1 : pn.block < w.heap.size) (l2 : pb.block < w.heap.size) (l3 : pw.block < w.heap.size) (q1 : ¬ pn.block = G) (q2 : ¬ pb.block = G) (q3 : ¬ pw.block = G) :
    Calls Tryd.prog 46 #[.pointer (some ⟨G, j * 4, none⟩), .func (.func 47) #[] #[.pointer (some pn), .pointer (some pb), .pointer (some pw)]] w fun e w' => e = .returned (.tuple #[]) ∧
      ∃ v g, w'.cell? ⟨G, j * 4 + 3, none⟩ = some v ∧ Trn w' v n bk g ∧ g ≠ G ∧ Whl w' G bk ∧ Kp G w w' := by
  obtain ⟨⟨f0, f1, f3⟩, h⟩ := hW.2 j hj
  rcases h with ⟨c0, c1, x, c3⟩ | ⟨c0, v, g, c3, ht, hg⟩
  · refine (do_first (pow_cases hj hn) bk w pn pb pw G (j * 4) x h1 h2 h3 c0 c1 c3 f0 f1 f3 l1 l2 l3 hW.1 q1 q2 q3).mono ?_
    rintro e w' ⟨rfl, HD⟩
    obtain ⟨v, k1, k2, k3, k4⟩ := HD.facts hj hn hW c0 c1 c3
    exact ⟨rfl, v, _, k1, k2, by have := hW.1; omega, k3, k4⟩
  · refine (do_done _ _ w c0).mono ?_
    rintro e w' ⟨rfl, rfl⟩
    exact ⟨rfl, v, g, c3, hn ▸ ht, hg, hW, Kp.refl _ _⟩

set_option maxRecDepth 100000 in
set_option maxHeartbeats 1600000 in
theorem for_any {n j : Nat} (hj : j < 8) (hn : n = 2 ^ j) (bk : Bool) (w : World) (G : Nat) (pb : Addr) (hW : Whl w G bk) (hBr : Brj w) (hpb : w.cell? pb = some (.bool bk)) (lpb : pb.block < w.heap.size) (npb : ¬ pb.block = G) :
    Calls Tryd.prog 44 #[.int .i64 n, .pointer (some ⟨G, 0, none⟩), .pointer (some pb)] w fun e w' => ∃ v g, e = .returned v ∧ Trn w' v n bk g ∧ g ≠ G ∧ Whl w' G bk ∧ Kp G w w' := by
  have hmf : ∀ (fn : Fn) (first cap : Array Value) (w : World), (Instr.makeFunc fn first cap).run Tryd.prog w = .ok (.func fn first cap) w := fun _ _ _ _ => rfl
  have hG := hW.1
  have b1 : Below w.heap.size w (w.alloc (.cells #[.int .i64 n] 3)) := (Below.refl _ _).alloc (Nat.le_refl _) _
  have b2 : Below w.heap.size w ((w.alloc (.cells #[.int .i64 n] 3)).alloc (.cells #[.pointer (some ⟨G, j * 4, none⟩)] 78)) := b1.alloc b1.size _
  have htz := tz2 hj _ (hBr.below b1)
  rw [← hn] at htz
  have hdo := do_any hj hn bk ((w.alloc (.cells #[.int .i64 n] 3)).alloc (.cells #[.pointer (some ⟨G, j * 4, none⟩)] 78)) G ⟨w.heap.size, 0, none⟩ pb ⟨w.heap.size + 1, 0, none⟩ (hW.below b2) (by simp) ((b2.cell lpb).trans hpb) (by simp) (by simp; omega) (by simp; omega) (by simp) (by simp; omega) npb (by simp; omega)
  have bW : ((w.alloc (.cells #[.int .i64 n] 3)).alloc (.cells #[.pointer (some ⟨G, j * 4, none⟩)] 78)).cell? ⟨w.heap.size + 1, 0, none⟩ = some (.pointer (some ⟨G, j * 4, none⟩)) := by simp
  have sW : ((w.alloc (.cells #[.int .i64 n] 3)).alloc (.cells #[.pointer (some ⟨G, j * 4, none⟩)] 78)).heap.size = w.heap.size + 2 := by simp
  have hn1 : 1 ≤ n ∧ n ≤ 128 := by
    subst hn
    exact ⟨Nat.two_pow_pos j, Nat.pow_le_pow_right (by decide) (by omega : j ≤ 7)⟩
  have HB2 : Hid (Below w.heap.size w ((w.alloc (.cells #[.int .i64 n] 3)).alloc (.cells #[.pointer (some ⟨G, j * 4, none⟩)] 78))) := b2
  have BW : Hid (((w.alloc (.cells #[.int .i64 n] 3)).alloc (.cells #[.pointer (some ⟨G, j * 4, none⟩)] 78)).cell? ⟨w.heap.size + 1, 0, none⟩ = some (.pointer (some ⟨G, j * 4, none⟩))) := bW
  have SW : Hid (((w.alloc (.cells #[.int .i64 n] 3)).alloc (.cells #[.pointer (some ⟨G, j * 4, none⟩)] 78)).heap.size = w.heap.size + 2) := sW
  clear hn bW sW b1 b2
  go_enter Tryd.func44, Tryd.ntmps44
  go_wp2_with (first | (go_at_call 45; refine htz.mono ?_; rintro e w' ⟨rfl, hw⟩; obtain rfl := hw.symm) | (go_at_call 46; refine hdo.mono ?_; rintro e w1 ⟨rfl, v, g, c3, ht, hg, hw1, k1⟩; have cb := (k1.cell (p := ⟨w.heap.size + 1, 0, none⟩) (by rw [SW.out]; exact Nat.lt_succ_self _) (by simp; omega)).trans BW.out; have HT : Hid (Trn w1 v n bk g) := ht; have HW1 : Hid (Whl w1 G bk) := hw1; have HK : Hid (Kp G w w1) := (⟨HB2.out.os, HB2.out.tape, HB2.out.output, HB2.out.size, fun i hi _ => HB2.out.block i hi⟩ : Kp G w _).trans k1; obtain rfl := ht.1; clear ht hw1 k1))
  go_ret
  exact ⟨_, g, rfl, HT.out, hg, HW1.out, HK.out⟩
end Go.Proofs.YtlcnciibjhcbiaaDoor

/- pointsTurned. -/
import Derived.Test.YtlcfcdpgggocnaaAG
import Derived.Test.YtlcfcdpgggocnaaAH
import Derived.Laws.AppendOwn
namespace Go.Proofs.Ytlcfcdpgggocnaa
open Go.RowKit

/-- All points turned by q quarters. -/
def trn (q : Nat) (z : Nat → Int) (i : Nat) : Int := if i % 2 = 0 then tx q (z i) (z (i + 1)) else ty q (z (i - 1)) (z i)

theorem trn_0 (q : Nat) (z : Nat → Int) (k : Nat) : trn q z (k * 2) = tx q (z (k * 2)) (z (k * 2 + 1)) := by unfold trn; rw [if_pos (by omega)]
theorem trn_1 (q : Nat) (z : Nat → Int) (k : Nat) : trn q z (k * 2 + 1) = ty q (z (k * 2)) (z (k * 2 + 1)) := by unfold trn; rw [if_neg (by omega)]; rfl

theorem two_new (w : World) (a b : Value) (t : TypeId) : ∀ j u, [a, b][j]? = some u → (w.alloc (.cells #[a, b] t)).cell? ((⟨w.heap.size, 0, none⟩ : Addr).add j) = some u := by
  intro j u h
  match j, h with
  | 0, h => simp at h; subst h; simp [Addr.add]
  | 1, h => simp at h; subst h; simp [Addr.add]
  | n + 2, h => simp at h

theorem ils_two (z : Nat → Int) (k : Nat) : ils z ((k + 1) * 2) = ils z (k * 2) ++ [.int .i64 (z (k * 2)), .int .i64 (z (k * 2 + 1))] := by
  rw [show (k + 1) * 2 = k * 2 + 1 + 1 by omega, ils_snoc, ils_snoc, List.append_assoc]; rfl

theorem own_some {w : World} {B s n : Nat} {e : TypeId} {v : Value} {xs : List Value} (h : w.ownsRow B e s v n xs) (hz : v ≠ .slice none 0 0) : ∃ g c, v = .slice (some ⟨g, 0, none⟩) n c := by
  rcases h.2 with h' | ⟨g', cap', cur, rfl, _⟩
  · exact absurd h'.1 hz
  · exact ⟨g', cap', rfl⟩

set_option maxHeartbeats 4000000 in
theorem points_any {w : World} {v : Value} {n q : Nat} {z : Nat → Int} (hv : Il2 w v n z) (hn : n ≤ 4096) (hp : Pok n z) (hq : q < 4) : Calls Try.prog 16 #[v, .int .i64 (q : Int)] w fun e w' => ∃ g c, e = .returned (.slice (some ⟨g, 0, none⟩) n c) ∧ w'.ownsRow w.heap.size 34 2 (.slice (some ⟨g, 0, none⟩) n c) n (ils (trn q z) (n * 2)) ∧ Below w.heap.size w w' := by
  obtain ⟨i0, hi, hz0, hz1, hz2⟩ := info_parts Try.info34
  have OW : Hid ((w.alloc (.cells #[] 34)).ownsRow w.heap.size 34 2 (.slice (some ⟨w.heap.size, 0, none⟩) 0 0) 0 (ils (trn q z) (0 * 2))) := own_empty w 34 2
  have BL : Hid (Below w.heap.size w (w.alloc (.cells #[] 34))) := below_one _ _
  obtain ⟨ao, cap, rfl, hcap, hc⟩ := hv
  have HC : Hid (0 < n → ∃ b off, ao = some ⟨b, off, none⟩ ∧ b < w.heap.size ∧ ∀ k, k < n → w.cell? ⟨b, off + k * 2, none⟩ = some (.int .i64 (z (k * 2))) ∧ w.cell? ⟨b, off + k * 2 + 1, none⟩ = some (.int .i64 (z (k * 2 + 1)))) := hc
  have HP : Hid (Pok n z) := hp
  clear hc hp
  go_enter Try.func16, Try.ntmps16
  go_wp2
  generalize w.alloc (.cells #[] 34) = W at *
  go_loopw [5, 7, 11] (fun o _ i wr => ∃ k : Nat, i = .int .i64 (k : Int) ∧ k ≤ n ∧ Hid (wr.ownsRow w.heap.size 34 2 o k (ils (trn q z) (k * 2)) ∧ Below w.heap.size w wr ∧ o ≠ .slice none 0 0)) (fun _ _ i _ => n - (intOf i).toNat)
  case atStart => exact ⟨0, rfl, by omega, OW.out, BL.out, by simp⟩
  case round =>
    obtain ⟨k, rfl, hk, hrel⟩ := hrel
    by_cases h1 : k < n
    · obtain ⟨b, off, rfl, hlt, hcell⟩ := HC.out (by omega)
      have NZ : Hid (_) := hrel.out.2.2
      have c0 := (hrel.out.2.1.cell (p := ⟨b, off + k * 2, none⟩) hlt).trans (hcell k h1).1
      have c1 := (hrel.out.2.1.cell (p := ⟨b, off + k * 2 + 1, none⟩) hlt).trans (hcell k h1).2
      have sx := (HP.out k h1).1
      have sy := (HP.out k h1).2
      obtain ⟨x, hx⟩ : ∃ x, x = z (k * 2) := ⟨_, rfl⟩
      obtain ⟨y, hy⟩ : ∃ y, y = z (k * 2 + 1) := ⟨_, rfl⟩
      rw [← hx] at c0 sx
      rw [← hy] at c1 sy
      have HX : Hid (tx q x y = trn q z (k * 2) ∧ ty q x y = trn q z (k * 2 + 1)) := ⟨by rw [hx, hy, trn_0], by rw [hx, hy, trn_1]⟩
      have i4 := turned_any hq sx sy
      generalize tx q x y = X at HX i4
      generalize ty q x y = Y at HX i4
      have hb3 := below_one wr (.cells #[.int .i64 x, .int .i64 y] 34)
      have HO3 : Hid (_) := own_below hrel.out.1 hb3
      have HB3 : Hid (_) := bstep hrel.out.2.1 hb3
      clear hcell hx hy hrel hb3 sx sy
      go_wp2_with (first
        | (go_at_call 20; (with_reducible refine (i4 _).mono ?_); rintro e w5 ⟨rfl, hb5⟩; have HO5 := own_below (own_below HO3.out hb5) (below_one w5 (.cells #[.int .i64 X, .int .i64 Y] 34)); have HB5 := bstep (bstep HB3.out hb5) (below_one w5 (.cells #[.int .i64 X, .int .i64 Y] 34)); clear hb5)
        | (at_builtin; refine wpList_append_own _ rfl _ _ 24 rfl w.heap.size 34 i0 (.agg #[.int .i64 0, .int .i64 0]) 2 16 Try.underlying24 hi hz0 hz1 hz2 rfl (by decide) _ _ _ rfl HO5 ⟨w5.heap.size, 0, none⟩ 1 1 [.int .i64 X, .int .i64 Y] rfl rfl (two_new _ _ _ _) (by simp [Value.oneCell']) (by unfold maxLen; omega) (by omega) HB5.size ?_))
      intro v' w4 hown' hgrow hnn
      have NZ4 : Hid (v' ≠ .slice none 0 0) := hnn
      have HB4 : Hid (Below w.heap.size w w4) := grown_below HB5 (Nat.le_refl _) HO5 hgrow
      rw [HX.out.1, HX.out.2, ← ils_two] at hown'
      have HO4 : Hid (w4.ownsRow w.heap.size 34 2 v' (k + 1) (ils (trn q z) ((k + 1) * 2))) := hown'
      clear hown' hgrow hnn HO5 HB5 HO3 HB3 i4
      go_wp2
      go_roundw
      case rel => exact ⟨k + 1, by go_num, by omega, HO4.out, HB4.out, NZ4.out⟩
      case measure => simp [intOf]; omega
    · obtain rfl : n = k := by omega
      obtain ⟨g, c, rfl⟩ := own_some hrel.out.1 hrel.out.2.2
      go_wp2
      go_ret
      exact ⟨g, c, rfl, hrel.out.1, hrel.out.2.1⟩
end Go.Proofs.Ytlcfcdpgggocnaa

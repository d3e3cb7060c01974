/- LiftedRows: plain numbers, and rows that are the same. -/
import Derived.Test.YtjpkoladmeeidaaRZ
import Derived.Test.YtjpkoladmeeidaaD4
namespace Go.Proofs.Ytjpkoladmeeidaa
open Go.RowKit

theorem nea_congr {n : Nat} {f g : Nat → Int} (hn : 0 < n) (h : ∀ k, k < n → f k = g k) (i : Int) : nea n f i = nea n g i := h _ (npl_lt hn)

theorem md_congr {kind : Int} {m : Nat} {f g : Nat → Int} (h : ∀ k, k < m → f k = g k) (i : Nat) : md kind m f i = md kind m g i := by
  unfold md
  by_cases h1 : m = 0 ∨ kind = 1 ∧ m ≤ i
  · rw [if_pos h1, if_pos h1]
  · rw [if_neg h1, if_neg h1]
    by_cases h2 : kind = 1
    · rw [if_pos h2, if_pos h2, h i (by omega)]
    · rw [if_neg h2, if_neg h2, nea_congr (by omega) h, nea_congr (by omega) h]

theorem gs_congr {kind : Int} {n : Nat} {f g : Nat → Int} (h : ∀ k, k < n → f k = g k) {i : Nat} (hi : i < n) : gs kind n f i = gs kind n g i := by
  unfold gs
  rw [h i hi, nea_congr (by omega) h, nea_congr (by omega) h, nea_congr (by omega) h]

/-- What was lifted comes back. -/
theorem ubk_lft (kind : Int) (n : Nat) (xs : Nat → Int) {k : Nat} (hk : k < n) : ubk kind n (lft kind n xs) k = xs k := by
  have hh : ∀ i, i < n / 2 → (fun i => lft kind n xs ((n + 1) / 2 + i)) i = hiL kind n xs i := fun i hi => by
    show lft kind n xs ((n + 1) / 2 + i) = _
    unfold lft
    rw [if_neg (by omega), Nat.add_sub_cancel_left]
  have hb : ∀ i, i < (n + 1) / 2 → bev kind (n / 2) (lft kind n xs) (fun i => lft kind n xs ((n + 1) / 2 + i)) i = evs xs i := fun i hi => by
    unfold bev
    rw [md_congr hh]
    unfold lft
    rw [if_pos hi]
    unfold loL
    omega
  unfold ubk bck
  by_cases h2 : k % 2 = 0
  · rw [if_pos h2, hb _ (by omega)]
    unfold evs
    congr 1
    omega
  · rw [if_neg h2, gs_congr hb (by omega), hh _ (by omega)]
    unfold hiL
    rw [show 2 * (k / 2) + 1 = k by omega]
    omega

theorem U2_Z2 (kind : Int) (n m : Nat) (X : Nat → Nat → Int) {i j : Nat} (hi : i < n) (hj : j < m) : U2 kind n m (Z2 kind n m X) i j = X i j := by
  unfold U2
  have e : (fun j => ubk kind n (fun i => Z2 kind n m X i j) i) = lft kind m (X i) := by
    funext j
    show ubk kind n (lft kind n (fun i => lft kind m (X i) j)) i = _
    rw [ubk_lft kind n _ hi]
  rw [e, ubk_lft kind m _ hj]

set_option maxHeartbeats 2000000 in
/-- Lists that hold the same. -/
theorem same_yes {w : World} {v u : Value} {n : Nat} {xs ys : Nat → Int} (hv : Il w v n xs) (hu : Il w u n ys) (hn : n ≤ 1048576) (he : ∀ k, k < n → xs k = ys k) :
    Calls Try.prog 24 #[v, u] w fun e w' => e = .returned (.bool true) ∧ Below w.heap.size w w' := by
  obtain ⟨ao, cap, rfl, hcap, hc⟩ := hv
  obtain ⟨bo, cap2, rfl, hcap2, hc2⟩ := hu
  have HC : Hid (0 < n → ∃ b off, ao = some ⟨b, off, none⟩ ∧ b < w.heap.size ∧ ∀ k, k < n → w.cell? ⟨b, off + k, none⟩ = some (.int .i64 (xs k))) := hc
  have HC2 : Hid (0 < n → ∃ b off, bo = some ⟨b, off, none⟩ ∧ b < w.heap.size ∧ ∀ k, k < n → w.cell? ⟨b, off + k, none⟩ = some (.int .i64 (xs k))) := fun h0 => by
    obtain ⟨b, off, h1, h2, h3⟩ := hc2 h0
    exact ⟨b, off, h1, h2, fun k hk => by rw [he k hk]; exact h3 k hk⟩
  clear hc hc2 he
  go_enter Try.func24, Try.ntmps24
  go_wp2
  go_loopw [5] (fun i wr => ∃ k : Nat, i = .int .i64 k ∧ k ≤ n ∧ Hid (Below w.heap.size w wr)) (fun i _ => n - (intOf i).toNat)
  case atStart => exact ⟨0, rfl, by omega, Below.refl _ _⟩
  case round =>
    obtain ⟨k, rfl, hk, hbl⟩ := hrel
    by_cases h1 : k < n
    · obtain ⟨b, off, rfl, hlt, hcell⟩ := HC.out (by omega)
      obtain ⟨b2, off2, rfl, hlt2, hcell2⟩ := HC2.out (by omega)
      have c1 : wr.cell? ⟨b, off + k, none⟩ = some (.int .i64 (xs k)) := (hbl.out.cell (p := ⟨b, off + k, none⟩) hlt).trans (hcell k h1)
      have c2 : wr.cell? ⟨b2, off2 + k, none⟩ = some (.int .i64 (xs k)) := (hbl.out.cell (p := ⟨b2, off2 + k, none⟩) hlt2).trans (hcell2 k h1)
      clear hcell hcell2
      go_wp2_with (go_quiet (fail))
      go_roundw
      case rel => exact ⟨k + 1, by go_num, by omega, (Below.refl _ _).trans (below_drewN hbl.out _)⟩
      case measure => simp [intOf]; omega
    · obtain rfl : k = n := by omega
      go_wp2
      go_ret
      exact ⟨rfl, hbl.out⟩
end Go.Proofs.Ytjpkoladmeeidaa

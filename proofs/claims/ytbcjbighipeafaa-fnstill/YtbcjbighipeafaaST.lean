/- FnStill: bytes, and a still signal in plain numbers. -/
import Derived.Test.YtbcjbighipeafaaLN
namespace Go.Proofs.Ytbcjbighipeafaa
open Go.RowKit

/-- What is known of the bytes that came in: each element's cell. -/
def Row (w : World) (a : Option Addr) (n : Nat) : Prop := ∀ i, i < n → ∃ b off z, a = some ⟨b, off, none⟩ ∧ b < w.heap.size ∧ w.cell? ⟨b, off + i, none⟩ = some (.int .u8 z) ∧ 0 ≤ z ∧ z < 256

theorem Row.below {w w' : World} {a : Option Addr} {n : Nat} (h : Row w a n) (hb : Below w.heap.size w w') : Row w' a n := by
  intro i hi
  obtain ⟨b, off, z, rfl, hlt, hc, h0, h1⟩ := h i hi
  exact ⟨b, off, z, rfl, Nat.lt_of_lt_of_le hlt hb.size, (hb.cell (p := ⟨b, off + i, none⟩) hlt).trans hc, h0, h1⟩

set_option maxHeartbeats 1000000 in
theorem bigc_any {w : World} (a : Option Addr) (n cap : Nat) (_ : n ≤ 9223372036854775807) : Calls Try.prog 5 #[.slice a n cap] w fun e w' => e = .returned (.bool (decide (1048576 < (n : Int)))) ∧ w' = w := by
  go_enter Try.func5, Try.ntmps5
  go_wp2
  go_ret
  exact ⟨rfl, rfl⟩

set_option maxHeartbeats 1000000 in
theorem atc_any {w : World} {a : Option Addr} {n cap : Nat} (hr : Row w a n) (hn : n ≤ 1048576) (i : Nat) (hi : i ≤ 100) : Calls Try.prog 15 #[.slice a n cap, .int .i64 i] w fun e w' => ∃ v : Nat, e = .returned (.int .i64 v) ∧ v < 256 ∧ w' = w := by
  by_cases h : i < n
  · obtain ⟨b, off, z, rfl, hlt, hc, h0, h1⟩ := hr i h
    clear hr
    obtain ⟨k, rfl⟩ : ∃ k : Nat, z = k := ⟨z.toNat, by omega⟩
    go_enter Try.func15, Try.ntmps15
    go_wp2
    go_ret
    exact ⟨k, rfl, by omega, rfl⟩
  · clear hr
    go_enter Try.func15, Try.ntmps15
    go_wp2
    go_ret
    refine ⟨(i * 7 + n) % 256, ?_, by omega, rfl⟩
    first | rfl | (congr 2; omega)


theorem gs_still {kind x : Int} {p i : Nat} {ev : Nat → Int} (hk : Knd kind) (h : ∀ k, k < p → ev k = x) (hi : i < p) : gs kind p ev i = x := by
  have e0 := h i hi
  have en : ∀ j, nea p ev j = x := fun j => h _ (npl_lt (by omega))
  have hcases : kind = 1 ∨ kind = 2 ∨ kind = 3 := by omega
  rcases hcases with rfl | rfl | rfl
  · rw [gs_1, e0]
  · rw [gs_2, e0, en]; omega
  · rw [gs_3, e0, en, en, en]; omega

theorem md_still {kind : Int} {m i : Nat} {hs : Nat → Int} (h : ∀ k, k < m → hs k = 0) : md kind m hs i = 0 := by
  unfold md
  split
  · rfl
  · rename_i hn
    split
    · rw [h i (by omega)]; rfl
    · have en : ∀ j, nea m hs j = 0 := fun j => h _ (npl_lt (by omega))
      rw [en, en]; rfl

theorem hi_still {kind x : Int} {A i : Nat} {f : Nat → Int} (hk : Knd kind) (h : ∀ k, k < A → f k = x) (hi : i < A / 2) : hiL kind A f i = 0 := by
  unfold hiL
  rw [gs_still hk (fun k hk2 => by show f (2 * k) = x; exact h _ (by omega)) (by omega), h _ (by omega)]
  omega

theorem lo_still {kind x : Int} {A i : Nat} {f : Nat → Int} (hk : Knd kind) (h : ∀ k, k < A → f k = x) (hi : i < (A + 1) / 2) : loL kind A f i = x := by
  unfold loL
  rw [md_still (fun k hk2 => hi_still hk h hk2)]
  show f (2 * i) + 0 = x
  rw [h _ (by omega)]
  omega

theorem stL_still {kind x : Int} {n : Nat} (hk : Knd kind) : ∀ j i, i < n → stL kind n (fun _ => x) j i = if i < lnt n j then x else 0
  | 0, i, hi => by
    show x = if i < n then x else 0
    rw [if_pos hi]
  | j + 1, i, hi => by
    have ih := stL_still (x := x) (n := n) hk j
    have hA := lnt_le n j
    have hx : ∀ k, k < lnt n j → stL kind n (fun _ => x) j k = x := fun k hk2 => by rw [ih k (by omega), if_pos hk2]
    show (if i < lnt n j then lft kind (lnt n j) (stL kind n (fun _ => x) j) i else stL kind n (fun _ => x) j i) = if i < (lnt n j + 1) / 2 then x else 0
    by_cases h1 : i < lnt n j
    · rw [if_pos h1]
      unfold lft
      by_cases h2 : i < (lnt n j + 1) / 2
      · rw [if_pos h2, if_pos h2]
        exact lo_still hk hx h2
      · rw [if_neg h2, if_neg h2]
        exact hi_still hk hx (by omega)
    · rw [if_neg h1, ih i hi, if_neg h1]
      by_cases h2 : i < (lnt n j + 1) / 2
      · omega
      · rw [if_neg h2]
end Go.Proofs.Ytbcjbighipeafaa

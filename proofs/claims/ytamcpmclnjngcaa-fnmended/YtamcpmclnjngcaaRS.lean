/- DrawHurt. -/
import Derived.Test.YtamcpmclnjngcaaRQ
namespace Go.Proofs.Ytamcpmclnjngcaa
open Go.RowKit

/-- Places that rise, below a bound. -/
structure Ris (m : Nat) (pl : Nat → Nat) (nx : Nat) (n : Nat) : Prop where
  lt : ∀ k, k < m → pl k < n
  nx : ∀ k, k < m → pl k < nx
  inc : ∀ i k, i < k → k < m → pl i < pl k
theorem Ris.more {m nx n y : Nat} {pl : Nat → Nat} (h : Ris m pl nx n) (hn : nx < n) (hy : nx < y) : Ris (m + 1) (fun k => if k = m then nx else pl k) y n := by
  refine ⟨fun k hk => ?_, fun k hk => ?_, fun i k hik hk => ?_⟩
  · show (if k = m then nx else pl k) < n
    by_cases e : k = m
    · rw [if_pos e]; exact hn
    · rw [if_neg e]; exact h.lt k (by omega)
  · show (if k = m then nx else pl k) < y
    by_cases e : k = m
    · rw [if_pos e]; exact hy
    · rw [if_neg e]; have := h.nx k (by omega); omega
  · show (if i = m then nx else pl i) < (if k = m then nx else pl k)
    rw [if_neg (by omega)]
    by_cases e : k = m
    · rw [if_pos e]; exact h.nx i (by omega)
    · rw [if_neg e]; exact h.inc i k hik (by omega)

set_option maxRecDepth 20000 in
set_option maxHeartbeats 8000000 in
theorem dhurt_x {w : World} {a : Option Addr} {len cap : Nat} (hr : Row w a len) (hl : len ≤ 1048576) :
    Calls Try.prog 10 #[.slice a len cap] w fun e w' => ∃ (u : Value) (nd t m : Nat) (xs : Nat → Int) (p : Value) (pl : Nat → Nat), e = .returned (.tuple #[u, .int .i64 (t : Int), p]) ∧ (1 ≤ nd ∧ nd ≤ 24) ∧ (1 ≤ t ∧ t ≤ 4) ∧ m ≤ t ∧ Byt nd xs ∧ Bl w' u nd xs ∧ Il w' p m (fun k => ((pl k : Nat) : Int)) ∧ (∀ k, k < m → pl k < nd + 2 * t) ∧ (∀ i k, i < k → k < m → pl i < pl k) ∧ Below w.heap.size w w' := by
  obtain ⟨i0, hi, hz0, hz1, hz2⟩ := info_parts Try.info3
  have HR : Hid (Row w a len) := hr
  clear hr
  obtain ⟨c, hcd⟩ : ∃ c, w.heap.size = c := ⟨_, rfl⟩
  have HN : Hid (Calls Try.prog 27 #[.slice a len cap] w fun e w' => e = .returned (.pointer (some ⟨c, 0, none⟩)) ∧ Cu w' c a len cap ∧ Below w.heap.size w w') := by have := new_x (cap := cap) HR.out (by omega); rw [← hcd]; exact this
  have HCD : Hid (w.heap.size = c) := hcd
  clear hcd
  go_enter Try.func10, Try.ntmps10
  go_upto_region 3 with (first
    | (go_at_call 27; refine HN.out.mono ?_; rintro e w1 ⟨rfl, hc, hb⟩; have HC : Hid (Cu w1 c a len cap) := hc; have B1 : Hid (Below w.heap.size w w1) := hb; have LC : Hid (c < w1.heap.size) := hc.lt; clear hc hb)
    | (go_at_call 28; (with_reducible refine (below_x HC.out 4).mono ?_); rintro e w2 ⟨x2, h02, _, h12, rfl, hc, hk⟩; have C2 : Hid (Cu w2 c a len cap) := hc; have K2 : Hid (Keep c w1 w2) := hk; clear hc hk))
  have h2 := h12 (by omega)
  obtain ⟨t, htt⟩ : ∃ t : Nat, (1 : Int) + x2 = (t : Int) := ⟨(1 + x2).toNat, by omega⟩
  have ht : 1 ≤ t ∧ t ≤ 4 := by omega
  rw [htt]
  clear h12 htt h2
  go_upto_region 4 with (first
    | (go_at_call 28; (fail_if_success have := M1); (with_reducible refine (below_x C2.out 24).mono ?_); rintro e w3 ⟨x3, h03, _, h13, rfl, hc, hk⟩; have M1 : Hid True := trivial; have C3 : Hid (Cu w3 c a len cap) := hc; have K3 : Hid (Keep c w1 w3) := K2.out.trans hk; have h3 := h13 (by omega); have nd3 : ∃ nd : Nat, (1 : Int) + x3 = (nd : Int) := ⟨(1 + x3).toNat, by omega⟩; clear hc hk h13; obtain ⟨nd, hnd3⟩ := nd3; have hnd : 1 ≤ nd ∧ nd ≤ 24 := (by omega); have idb := dbytes_x C3.out (n := nd) (by omega))
    | (go_at_call 29; (with_reducible refine idb.mono ?_); rintro e w4 ⟨u4, xs, rfl, hy, ho, hc, hk⟩; have Y4 : Hid (Byt nd xs) := hy; have O4 : Hid (w4.ownsRow w3.heap.size 5 1 u4 nd (bls xs nd)) := ho; have C4 : Hid (Cu w4 c a len cap) := hc; have K4 : Hid (Keep c w1 w4) := K3.out.trans hk; have LC3 : Hid (c < w3.heap.size) := C3.out.lt; clear hy ho hc hk))
  clear idb hnd3 h03 h3
  obtain ⟨a4, c4, hu4⟩ := own_sliceb O4.out
  subst hu4
  obtain ⟨pl0, _⟩ : ∃ pl0 : Nat → Nat, True := ⟨fun _ => 0, trivial⟩
  have P5 : Hid ((w4.alloc (.cells #[] 3)).ownsRow w4.heap.size 3 1 (.slice (some ⟨w4.heap.size, 0, none⟩) 0 0) 0 (ils (fun k => ((pl0 k : Nat) : Int)) 0)) := own_empty w4 3 1
  have C5 : Hid (Cu (w4.alloc (.cells #[] 3)) c a len cap) := C4.out.call (below_one _ _)
  have K5 : Hid (Keep c w4 (w4.alloc (.cells #[] 3))) := (Keep.refl c w4).call (below_one _ _)
  have LC4 : c < w4.heap.size := C4.out.lt
  go_upto_region 5 with fail
  generalize (Value.slice (some ⟨w4.heap.size, 0, none⟩) 0 0) = p0 at *
  generalize w4.alloc (.cells #[] 3) = W5 at *
  go_upto_region 7 with (first
    | (go_at_call 28; (fail_if_success have := M2); (with_reducible refine (below_x C5.out 5).mono ?_); rintro e w6 ⟨x6, h06, _, h16, rfl, hc, hk⟩; have M2 : Hid True := trivial; have C6 : Hid (Cu w6 c a len cap) := hc; have K6 : Hid (Keep c w4 w6) := K5.out.trans hk; have P6 : Hid (w6.ownsRow w4.heap.size 3 1 p0 0 (ils (fun k => ((pl0 k : Nat) : Int)) 0)) := own_keep P5.out hk LC4; have h6 := h16 (by omega); clear hc hk h16)
    | (go_at_call 28; have Z := M2; (with_reducible refine (below_x C6.out ((t : Int) + 1)).mono ?_); rintro e w7 ⟨x7, h07, _, h17, rfl, hc, hk⟩; have C7 : Hid (Cu w7 c a len cap) := hc; have K7 : Hid (Keep c w4 w7) := K6.out.trans hk; have P7 : Hid (w7.ownsRow w4.heap.size 3 1 p0 0 (ils (fun k => ((pl0 k : Nat) : Int)) 0)) := own_keep P6.out hk LC4; have h7 := h17 (by omega); clear hc hk h17 Z))
  obtain ⟨y0, rfl⟩ : ∃ y : Nat, x6 = (y : Int) := ⟨x6.toNat, by omega⟩
  obtain ⟨j0, rfl⟩ : ∃ j : Nat, x7 = (j : Int) := ⟨x7.toNat, by omega⟩
  clear P5 P6 C5 K5 C6 K6
  have R7 : Hid (Ris 0 pl0 y0 (nd + 2 * t)) := ⟨fun k hk => absurd hk (by omega), fun k hk => absurd hk (by omega), fun i k _ hk => absurd hk (by omega)⟩
  go_loopw [8, 9, 10] (fun p yv jv wr => ∃ (j m y : Nat) (pl : Nat → Nat), jv = .int .i64 (j : Int) ∧ yv = .int .i64 (y : Int) ∧ m + j ≤ t ∧ y ≤ 4 + 6 * m ∧ Hid (Ris m pl y (nd + 2 * t) ∧ wr.ownsRow w4.heap.size 3 1 p m (ils (fun k => ((pl k : Nat) : Int)) m) ∧ Cu wr c a len cap ∧ Keep c w4 wr)) (fun _ _ jv _ => (intOf jv).toNat)
  case atStart => exact ⟨j0, 0, y0, pl0, rfl, rfl, by omega, by omega, R7.out, P7.out, C7.out, K7.out⟩
  case round =>
    obtain ⟨j, m, y, pl, rfl, rfl, hjm, hym, HQ⟩ := hrel
    clear R7 P7 C7 K7
    by_cases h1 : 0 < j ∧ y < nd + 2 * t
    · obtain ⟨h1a, h1b⟩ := h1
      have bx := below_one wr (.cells #[.int .i64 (y : Int)] 3)
      have RS0 : Hid (Ris m pl y (nd + 2 * t)) := HQ.out.1
      have OA : Hid ((wr.alloc (.cells #[.int .i64 (y : Int)] 3)).ownsRow w4.heap.size 3 1 u8 m (ils (fun k => ((pl k : Nat) : Int)) m)) := own_below HQ.out.2.1 bx
      have CA : Hid (Cu (wr.alloc (.cells #[.int .i64 (y : Int)] 3)) c a len cap) := HQ.out.2.2.1.call bx
      have KA : Hid (Keep c w4 (wr.alloc (.cells #[.int .i64 (y : Int)] 3))) := HQ.out.2.2.2.call bx
      clear bx HQ
      go_wp2_with (first
        | (at_builtin; refine wpList_app _ rfl _ _ 24 rfl w4.heap.size 3 i0 (.int .i64 0) 1 8 Try.underlying24 hi hz0 hz1 hz2 rfl (by decide) _ _ _ rfl OA.out ⟨wr.heap.size, 0, none⟩ 1 1 [.int .i64 (y : Int)] rfl rfl (one_new _ _ _) (by simp [Value.oneCell']) (by unfold maxLen; omega) (by omega) KA.out.size (by decide) ?_; intro v8 w8 hown hgrow _; have B4 : Below w4.heap.size (wr.alloc (.cells #[.int .i64 (y : Int)] 3)) w8 := grown_below (Below.refl _ _) KA.out.size OA.out hgrow; have OB : Hid (w8.ownsRow w4.heap.size 3 1 v8 (m + 1) (ils (fun k => (((if k = m then y else pl k) : Nat) : Int)) (m + 1))) := (by have h := hown; have e := ils_snoc (fun k => (((if k = m then y else pl k) : Nat) : Int)) m; rw [ils_congr (n := m) (g := fun k => ((pl k : Nat) : Int)) (fun k hk => by rw [if_neg (by omega)]), if_pos rfl] at e; rw [← e] at h; exact h); have CB : Hid (Cu w8 c a len cap) := Cu.grow C4.out CA.out KA.out B4; have KB : Hid (Keep c w4 w8) := KA.out.below B4; clear hown hgrow B4)
        | (go_at_call 28; (with_reducible refine (below_x CB.out 6).mono ?_); rintro e w9 ⟨x9, h09, _, h19, rfl, hc, hk⟩; have C9 : Hid (Cu w9 c a len cap) := hc; have K9 : Hid (Keep c w4 w9) := KB.out.trans hk; have O9 : Hid (w9.ownsRow w4.heap.size 3 1 v8 (m + 1) (ils (fun k => (((if k = m then y else pl k) : Nat) : Int)) (m + 1))) := own_keep OB.out hk LC4; have h9 := h19 (by omega); clear hc hk h19))
      obtain ⟨x10, rfl⟩ : ∃ x10 : Nat, x9 = (x10 : Int) := ⟨x9.toNat, by omega⟩
      go_roundw
      case rel => exact ⟨j - 1, m + 1, y + 1 + x10, _, by go_num, by go_num, by omega, by omega, RS0.out.more h1b (by omega), O9.out, C9.out, K9.out⟩
      case measure => simp [intOf]; omega
    · have O9 : Hid (Bl wr (.slice a4 nd c4) nd xs) := bl_of_own (own_keep O4.out HQ.out.2.2.2 LC3.out)
      have P9 : Hid (Il wr u8 m (fun k => ((pl k : Nat) : Int))) := il_of_own HQ.out.2.1
      have RS0 : Hid (Ris m pl y (nd + 2 * t)) := HQ.out.1
      have B9 : Hid (Below w.heap.size w wr) := Below.keep B1.out (K4.out.trans HQ.out.2.2.2) (Nat.le_of_eq HCD.out)
      have h1' : ¬ 0 < j ∨ (0 < j ∧ ¬ y < nd + 2 * t) := by omega
      clear HQ
      rcases h1' with h1' | ⟨h1a, h1b⟩
      · go_wp2
        go_ret3
        exact ⟨_, nd, t, m, xs, _, pl, rfl, hnd, ht, by omega, Y4.out, O9.out, P9.out, RS0.out.lt, RS0.out.inc, B9.out⟩
      · go_wp2
        go_ret3
        exact ⟨_, nd, t, m, xs, _, pl, rfl, hnd, ht, by omega, Y4.out, O9.out, P9.out, RS0.out.lt, RS0.out.inc, B9.out⟩
end Go.Proofs.Ytamcpmclnjngcaa

/- What is drawn for a hurt word. -/
import Derived.Test.YtamcpmclnjngcaaRO
import Derived.Test.YtamcpmclnjngcaaRP
import Derived.Test.YtamcpmclnjngcaaD4
namespace Go.Proofs.Ytamcpmclnjngcaa
open Go.RowKit

set_option maxHeartbeats 4000000 in
theorem dbytes_x {w : World} {c : Nat} {a : Option Addr} {len cap : Nat} (h : Cu w c a len cap) {n : Nat} (hn : n ≤ 1000) :
    Calls Try.prog 29 #[.pointer (some ⟨c, 0, none⟩), .int .i64 (n : Int)] w fun e w' => ∃ u xs, e = .returned u ∧ Byt n xs ∧ w'.ownsRow w.heap.size 5 1 u n (bls xs n) ∧ Cu w' c a len cap ∧ Keep c w w' := by
  obtain ⟨j0, ji, jz0, jz1, jz2⟩ := info_parts Try.info5
  have HC : Hid (Cu w c a len cap) := h
  have hcw : c < w.heap.size := h.lt
  have O0 : Hid ((w.alloc (.cells #[] 5)).ownsRow w.heap.size 5 1 (.slice (some ⟨w.heap.size, 0, none⟩) 0 0) 0 (bls (fun _ => 0) 0)) := own_empty w 5 1
  have C0 : Hid (Cu (w.alloc (.cells #[] 5)) c a len cap) := h.call (below_one _ _)
  have K0 : Hid (Keep c w (w.alloc (.cells #[] 5))) := (Keep.refl c w).call (below_one _ _)
  clear h
  go_enter Try.func29, Try.ntmps29
  go_upto_region 2 with fail
  generalize (Value.slice (some ⟨w.heap.size, 0, none⟩) 0 0) = u0 at *
  generalize w.alloc (.cells #[] 5) = W at *
  go_wp2
  go_loopw [5, 6] (fun u iv wr => ∃ (i : Nat) (xs : Nat → Int), iv = .int .i64 (i : Int) ∧ i ≤ n ∧ Hid (Byt i xs ∧ wr.ownsRow w.heap.size 5 1 u i (bls xs i) ∧ Cu wr c a len cap ∧ Keep c w wr)) (fun _ iv _ => n - (intOf iv).toNat)
  case atStart => exact ⟨0, _, rfl, by omega, fun k hk => absurd hk (by omega), O0.out, C0.out, K0.out⟩
  case round =>
    obtain ⟨i, xs, rfl, hi, HR⟩ := hrel
    clear O0 C0 K0
    by_cases h1 : i < n
    · have ib := byte_x HR.out.2.2.1
      have HY : Hid (Byt i xs) := HR.out.1
      have OR : Hid (wr.ownsRow w.heap.size 5 1 u5 i (bls xs i)) := HR.out.2.1
      have KR : Hid (Keep c w wr) := HR.out.2.2.2
      clear HR
      go_wp2_with (first
        | (go_at_call 47; (refine ib.mono ?_); rintro e W5 ⟨x, h05, h15, rfl, hc, hk⟩; have bx := below_one W5 (.cells #[.int .u8 x] 5); have hwx : IntKind.u8.wrap x = x := (by rw [IntKind.wrap_u8]; omega); have OA : Hid ((W5.alloc (.cells #[.int .u8 x] 5)).ownsRow w.heap.size 5 1 u5 i (bls xs i)) := own_below (own_keep OR.out hk hcw) bx; have CA : Hid (Cu (W5.alloc (.cells #[.int .u8 x] 5)) c a len cap) := hc.call bx; have KA : Hid (Keep c w (W5.alloc (.cells #[.int .u8 x] 5))) := (KR.out.trans hk).call bx; clear hc hk bx)
        | (at_builtin; refine wpList_app _ rfl _ _ 22 rfl w.heap.size 5 j0 (.int .u8 0) 1 1 Try.underlying22 ji jz0 jz1 jz2 rfl (by decide) _ _ _ rfl OA.out ⟨W5.heap.size, 0, none⟩ 1 1 [.int .u8 x] rfl rfl (one_new _ _ _) (by simp [Value.oneCell']) (by unfold maxLen; omega) (by omega) KA.out.size (by decide) ?_; intro v8 w8 hown hgrow _; have B4 : Below w.heap.size (W5.alloc (.cells #[.int .u8 x] 5)) w8 := grown_below (Below.refl _ _) KA.out.size OA.out hgrow; have OB : Hid (w8.ownsRow w.heap.size 5 1 v8 (i + 1) (bls (fun k => if k = i then x else xs k) (i + 1))) := (by have h := hown; have e := bls_snoc (fun k => if k = i then x else xs k) i; rw [bls_congr (n := i) (g := xs) (fun k hk => if_neg (by omega)), if_pos rfl] at e; rw [← e] at h; exact h); have CB : Hid (Cu w8 c a len cap) := Cu.grow HC.out CA.out KA.out B4; have KB : Hid (Keep c w w8) := KA.out.below B4; have YB : Hid (Byt (i + 1) (fun k => if k = i then x else xs k)) := (fun k hk => by show 0 ≤ (if k = i then x else xs k) ∧ (if k = i then x else xs k) < 256; by_cases e : k = i; rw [if_pos e]; omega; rw [if_neg e]; exact HY.out k (by omega)); clear hown hgrow B4))
      go_roundw
      case rel => exact ⟨i + 1, _, by go_num, by omega, YB.out, OB.out, CB.out, KB.out⟩
      case measure => simp [intOf]; omega
    · obtain rfl : i = n := by omega
      go_wp2
      go_ret
      exact ⟨_, xs, rfl, HR.out.1, HR.out.2.1, HR.out.2.2.1, HR.out.2.2.2⟩
end Go.Proofs.Ytamcpmclnjngcaa

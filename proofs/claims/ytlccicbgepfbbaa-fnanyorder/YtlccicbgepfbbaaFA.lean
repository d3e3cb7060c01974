/- DrawShuffle. -/
import Derived.Test.YtlccicbgepfbbaaEB
namespace Go.Proofs.Ytlccicbgepfbbaa
open Go.RowKit

set_option maxRecDepth 20000 in
set_option maxHeartbeats 8000000 in
theorem shuffle_x {w : World} {a : Option Addr} {len cap : Nat} (hr : Row w a len) (hl : len ≤ 1048576) :
    Calls Try.prog 18 #[.slice a len cap] w fun e w' => ∃ (n : Int) (m : Nat) (u p : Value) (ss : Nat → Wr) (ts : Nat → Nat), e = .returned (.tuple #[.int .i64 n, u, p]) ∧ Below w.heap.size w w' ∧ Ow w' u m ss ∧ m ≤ 40 ∧ Il w' p 60 (fun i => (ts i : Int)) := by
  have HN := new_x (cap := cap) hr (by omega)
  obtain ⟨i0, hi, hz0, hz1, hz2⟩ := info_parts Try.info3
  obtain ⟨c, hc⟩ : ∃ c, c = w.heap.size := ⟨_, rfl⟩
  have HN : Hid (Calls Try.prog 40 #[.slice a len cap] w fun e w' => e = .returned (.pointer (some ⟨c, 0, none⟩)) ∧ Cu w' c a len cap ∧ Below w.heap.size w w') := by rw [hc]; exact HN
  have hcw : w.heap.size ≤ c := by omega
  clear hr hc
  go_enter Try.func18, Try.ntmps18
  go_upto_region 3 with (first
    | (go_at_call 40; (with_reducible refine HN.out.mono ?_); rintro e w1 ⟨rfl, h1, h2⟩; have HC : Hid (Cu w1 c a len cap) := h1; have HB : Hid (Below w.heap.size w w1) := h2; clear h1 h2)
    | (go_at_call 39; (with_reducible refine (draw19_x HC.out hl).mono ?_); rintro e w2 ⟨n, m, u, ss, rfl, h1, h2, h3, h4⟩; have HK : Hid (c < w1.heap.size ∧ w.heap.size ≤ w1.heap.size) := ⟨HC.out.lt, HB.out.size⟩; have HE : Hid (Below w.heap.size w w2) := Below.keep HB.out h2 hcw; have HO : Hid (w2.ownsRow w1.heap.size 31 5 u m (ils (zs ss) (m * 5))) := h3; have HD : Hid (Cu w2 c a len cap) := h1; clear h1 h2 h3))
  have hc2 : c < w2.heap.size := HD.out.lt
  go_upto_region 5 with fail
  have OW : Hid ((w2.alloc (.cells #[] 3)).ownsRow w2.heap.size 3 1 (.slice (some ⟨w2.heap.size, 0, none⟩) 0 0) 0 (ils (fun i => (((fun _ => 1) i : Nat) : Int)) 0)) := own_empty w2 3 1
  have CU : Hid (Cu (w2.alloc (.cells #[] 3)) c a len cap) := HD.out.call (below_one _ _)
  have KP : Hid (Keep c w2 (w2.alloc (.cells #[] 3))) := (Keep.refl _ _).call (below_one _ _)
  generalize w2.alloc (.cells #[] 3) = W1 at OW CU KP ⊢
  obtain ⟨G1, hG⟩ : ∃ G, G = w2.heap.size := ⟨_, rfl⟩
  rw [← hG] at OW hc2 ⊢
  have HG : Hid (G1 = w2.heap.size) := hG
  clear hG
  go_loopw [8, 9] (fun v i wr => ∃ (k : Nat) (ts : Nat → Nat), i = .int .i64 k ∧ k ≤ 60 ∧ Hid (Cu wr c a len cap ∧ Keep c w2 wr ∧ wr.ownsRow G1 3 1 v k (ils (fun i => (ts i : Int)) k))) (fun _ i _ => 60 - (intOf i).toNat)
  case atStart => exact ⟨0, fun _ => 1, rfl, by omega, CU.out, KP.out, OW.out⟩
  case round =>
    clear CU KP OW
    obtain ⟨k, ts, rfl, hk, hrel⟩ := hrel
    have CU : Hid (Cu wr c a len cap) := hrel.out.1
    have KP : Hid (Keep c w2 wr) := hrel.out.2.1
    have HP : Hid (wr.ownsRow G1 3 1 u8 k (ils (fun i => (ts i : Int)) k)) := hrel.out.2.2
    clear hrel
    by_cases h1 : k < 60
    · go_wp2_with (first
        | (go_at_call 54; (with_reducible refine (below_x CU.out _).mono ?_); rintro e w4 ⟨x, hx0, hx1, hx2, rfl, hc, hk2⟩; have KP : Hid (Keep c w2 w4) := KP.out.trans hk2; have HP : Hid (w4.ownsRow G1 3 1 u8 k (ils (fun i => (ts i : Int)) k)) := own_keep HP.out hk2 hc2; have CU : Hid (Cu w4 c a len cap) := hc; have hx3 := hx2 (by decide); clear hc hk2 hx2; have CU4 : Hid (Cu (w4.alloc (.cells #[.int .i64 x] 3)) c a len cap) := CU.out.call (below_one _ _); have KP4 : Hid (Keep c w2 (w4.alloc (.cells #[.int .i64 x] 3))) := KP.out.call (below_one _ _); have HP : Hid ((w4.alloc (.cells #[.int .i64 x] 3)).ownsRow G1 3 1 u8 k (ils (fun i => (ts i : Int)) k)) := own_below HP.out (below_one _ _))
        | (at_builtin; refine wpList_append_own _ rfl _ _ 27 rfl G1 3 i0 (.int .i64 0) 1 8 Try.underlying27 hi hz0 hz1 hz2 rfl (by decide) _ _ _ rfl HP.out ⟨w4.heap.size, 0, none⟩ 1 1 [.int .i64 x] rfl rfl (one_new _ _ _) (by simp [Value.oneCell']) (by unfold maxLen; omega) (by omega) (by rw [HG.out]; exact Nat.le_trans KP.out.size (by simp)) ?_))
      intro v' w5 hown' hgrow _
      obtain ⟨t, ht⟩ : ∃ t : Nat, (t : Int) = x := ⟨x.toNat, by omega⟩
      have hG1 : G1 = w2.heap.size := HG.out
      rw [hG1] at HP
      have hB5 : Below w2.heap.size (w4.alloc (.cells #[.int .i64 x] 3)) w5 := grown_below (Below.refl _ _) KP4.out.size HP.out hgrow
      obtain ⟨hc5, hk5⟩ := Cu.old HD.out CU4.out KP4.out hB5
      rw [ils_app, ← ht] at hown'
      have HO5 : Hid (w5.ownsRow G1 3 1 v' (k + 1) (ils (fun i => ((if i = k then t else ts i : Nat) : Int)) (k + 1))) := by
        have e : (fun i => if i = k then (t : Int) else ((ts i : Nat) : Int)) = fun i => ((if i = k then t else ts i : Nat) : Int) := by funext i; split <;> rfl
        rw [e] at hown'
        exact hown'
      have HC5 : Hid (Cu w5 c a len cap ∧ Keep c w2 w5) := ⟨hc5, hk5⟩
      clear hown' hgrow hB5 hc5 hk5 HP CU KP CU4 KP4 hG1
      go_wp2
      go_roundw
      case rel => exact ⟨k + 1, _, by go_num, by omega, HC5.out.1, HC5.out.2, HO5.out⟩
      case measure => simp [intOf]; omega
    · obtain rfl : k = 60 := by omega
      go_wp2
      refine bodyPost_ret (v := .tuple #[.int .i64 n, u, u8]) (by simp [results, Try.results18, go_sem]) rfl ?_
      exact ⟨n, m, u, u8, ss, ts, rfl, Below.keep HE.out KP.out hcw, ow_of_own (own_keep HO.out KP.out HK.out.1), h4, il_of_own HP.out⟩

end Go.Proofs.Ytlccicbgepfbbaa

/- Rounds, of the program. -/
import Derived.Test.YtnfhnchomiejcaaTB
import Derived.Test.YtnfhnchomiejcaaFB
namespace Go.Proofs.Ytnfhnchomiejcaa
open Go.RowKit

theorem il_news {w : World} {b off m : Nat} {ys : Nat → Int} (hcell : ∀ k, k < m → w.cell? ⟨b, off + k, none⟩ = some (.int .i64 (ys k))) : ∀ j u, (ils ys m)[j]? = some u → w.cell? ((⟨b, off, none⟩ : Addr).add j) = some u := by
  intro j u hu
  by_cases hj : j < m
  · rw [ils_get hj] at hu
    have h6 := (hcell j hj).trans hu
    unfold Addr.add
    split
    · rename_i h7
      obtain rfl : j = 0 := by simpa using h7
      exact h6
    · exact h6
  · rw [List.getElem?_eq_none (by rw [ils_length]; omega)] at hu
    cases hu

theorem retp {u : Value} {x y : Int} {a b : Bool} (h : x = y) (h2 : a = b) : Ending.returned (.tuple #[u, .int .i64 x, .bool a]) = Ending.returned (.tuple #[u, .int .i64 y, .bool b]) := by rw [h, h2]

/-- What is told: a list in memory of the call's own, a number and a bool. -/
def Pst3 (w w' : World) (e : Ending) (N : Nat) (ys : Nat → Int) (d : Int) (ok : Bool) : Prop := ∃ u, e = .returned (.tuple #[u, .int .i64 d, .bool ok]) ∧ w'.ownsRow w.heap.size 3 1 u N (ils ys N) ∧ Below w.heap.size w w'

set_option maxHeartbeats 1000000 in
theorem turnS_any {w : World} {v u l : Value} {c1 : Addr} {M n N : Nat} {ms : Nat → Nat} {X : Nat → Nat → Int} {xs L : Nat → Int} (hc : w.cell? c1 = some v) (hv : Ipp w v M ms X) (hk : Cks M ms X (n : Int)) (hu : Il w u n xs) (hb : ∀ k, k < n → Bit (xs k)) (hl : Il w l N L) (hN : N ≤ 64) (hL : ∀ k, k < N → 0 ≤ L k ∧ L k < (M : Int)) :
    Calls Try.prog 43 #[u, l, .pointer (some c1)] w fun e w' => Pcr w w' e n (trn (ct ms X L N) (mx (ct ms X L N) n) xs) := by
  have i1 := turnWorst_any hv hk hu hb hl hN hL
  clear hv hk hu hb hl hL
  go_enter Try.func43, Try.ntmps43
  go_wp2_with (go_at_call 44; refine i1.mono ?_; rintro e w1 ⟨u1, rfl, ho1, hb1⟩)
  go_ret
  exact ⟨u1, rfl, ho1, hb1⟩

set_option maxRecDepth 20000 in
set_option maxHeartbeats 4000000 in
theorem inRounds_any {w : World} {v u : Value} {c1 : Addr} {B M n R d : Nat} {ms : Nat → Nat} {X : Nat → Nat → Int} {xs : Nat → Int} (hv : Ipp w v M ms X) (hk : Cks M ms X (n : Int)) (hb : ∀ k, k < n → Bit (xs k)) (hu : w.ownsRow B 3 1 u n (ils xs n)) (hB : B ≤ w.heap.size) (hc : w.cell? c1 = some v) (hcb : c1.block < w.heap.size) (hR : R ≤ 50) (hd : Std (fun j => fls ms X (itr ms X M n xs j) M) R d) :
    Calls Try.prog 42 #[v, u, .int .i64 (R : Int), .func (.func 43) #[] #[.pointer (some c1)]] w fun e w' => ∃ u', e = .returned (.tuple #[u', .int .i64 (d : Int), .bool (decide ((fls ms X (itr ms X M n xs d) M).length = 0))]) ∧ w'.ownsRow B 3 1 u' n (ils (itr ms X M n xs d) n) ∧ Below w.heap.size w w' := by
  have i1 := failing_any hv hk (il_of_own hu) hb
  have HV : Hid (Ipp w v M ms X) := hv
  have HK : Hid (Cks M ms X (n : Int)) := hk
  have HBT : Hid (∀ i k, k < n → Bit (itr ms X M n xs i k)) := itr_bit hb
  have HU : Hid (w.ownsRow B 3 1 u n (ils xs n)) := hu
  have HCC : Hid (w.cell? c1 = some v ∧ c1.block < w.heap.size) := ⟨hc, hcb⟩
  have HSD : Hid (Std (fun j => fls ms X (itr ms X M n xs j) M) R d) := hd
  have HLEN : Hid (∀ i, (fls ms X (itr ms X M n xs i) M).length ≤ 64) := fun i => by have h1 := fls_len ms X (itr ms X M n xs i) M; have h2 := hk.1.2; omega
  obtain ⟨ok, hok⟩ : ∃ ok, ok = decide ((fls ms X (itr ms X M n xs d) M).length = 0) := ⟨_, rfl⟩
  rw [← hok]
  have HOK : Hid (ok = decide ((fls ms X (itr ms X M n xs d) M).length = 0)) := hok
  clear hv hk hb hu hc hcb hd hok
  go_enter Try.func42, Try.ntmps42
  go_wp2_with (go_at_call 36; refine i1.mono ?_; rintro e w1 ⟨l1, rfl, ho1, hb1⟩; have HO1 : Hid (w1.ownsRow w.heap.size 3 1 l1 (fls ms X (itr ms X M n xs 0) M).length (ils (lf (fls ms X (itr ms X M n xs 0) M)) (fls ms X (itr ms X M n xs 0) M).length)) := ho1; have HB1 : Hid (Below w.heap.size w w1) := hb1; clear ho1 hb1)
  clear i1
  go_loopw [1, 11, 12] (fun wd fl dn wr => ∃ i : Nat, dn = .int .i64 i ∧ i ≤ R ∧ Hid (wr.ownsRow B 3 1 wd n (ils (itr ms X M n xs i) n) ∧ wr.ownsRow w.heap.size 3 1 fl (fls ms X (itr ms X M n xs i) M).length (ils (lf (fls ms X (itr ms X M n xs i) M)) (fls ms X (itr ms X M n xs i) M).length) ∧ Below w.heap.size w wr ∧ ∀ j, j < i → fls ms X (itr ms X M n xs j) M ≠ [])) (fun _ _ dn _ => R - (intOf dn).toNat)
  case atStart => exact ⟨0, rfl, by omega, own_below HU.out HB1.out, HO1.out, HB1.out, fun j hj => by omega⟩
  case round =>
    obtain ⟨i, rfl, hi, HRL⟩ := hrel
    have hlen := HLEN.out i
    have HB : Hid (Below w.heap.size w wr) := HRL.out.2.2.1
    have HBAD : Hid (∀ j, j < i → fls ms X (itr ms X M n xs j) M ≠ []) := HRL.out.2.2.2
    have HW : Hid (wr.ownsRow B 3 1 u1 n (ils (itr ms X M n xs i) n)) := HRL.out.1
    have HFL : Hid (wr.ownsRow w.heap.size 3 1 u11 (fls ms X (itr ms X M n xs i) M).length (ils (lf (fls ms X (itr ms X M n xs i) M)) (fls ms X (itr ms X M n xs i) M).length)) := HRL.out.2.1
    obtain ⟨N, hN⟩ : ∃ N, N = (fls ms X (itr ms X M n xs i) M).length := ⟨_, rfl⟩
    have HN : Hid (N = (fls ms X (itr ms X M n xs i) M).length) := hN
    rw [← hN] at hlen
    rcases Nat.eq_zero_or_pos N with h0 | h0
    · have HE : Hid (i = d) := std_one ⟨hi, HBAD.out, .inl (List.length_eq_zero_iff.1 (by rw [← hN]; exact h0))⟩ HSD.out
      have HO : Hid (ok = true) := by show ok = true; rw [HOK.out, ← HE.out, ← hN]; simp [h0]
      obtain ⟨fa, fc, hfl⟩ := own_slice HFL.out
      rw [← hN, h0] at hfl
      clear hN HFL HRL
      subst hfl
      go_wp2
      go_ret3
      exact ⟨_, retp (congrArg Int.ofNat HE.out) HO.out.symm, by rw [← HE.out]; exact HW.out, HB.out⟩
    · have hnz : (fls ms X (itr ms X M n xs i) M) ≠ [] := fun h => by rw [hN, h] at h0; exact absurd h0 (Nat.lt_irrefl _)
      obtain ⟨fa, fc, hfl⟩ := own_slice HFL.out
      rw [← hN] at hfl
      have dN : decide ((0 : Int) < (N : Int)) = true := by simp; omega
      by_cases hlt : i < R
      · have HNZ : Hid ((fls ms X (itr ms X M n xs i) M) ≠ []) := hnz
        have hilf := il_of_own HFL.out
        have i2 := turnS_any ((HB.out.cell (p := c1) HCC.out.2).trans HCC.out.1) (HV.out.below HB.out) HK.out (il_of_own HW.out) (HBT.out i) hilf (by rw [← hN]; exact hlen) (fls_lim ms X (itr ms X M n xs i) M)
        subst hfl
        clear hN HFL HRL hnz hilf
        go_wp2_with (first
          | (go_at_call 43; (fail_if_success have := MK1); refine i2.mono ?_; rintro e w2 ⟨u2, rfl, ho2, hb2⟩; have MK1 : Hid True := trivial; have HW2 : Hid (w2.ownsRow B 3 1 u2 n (ils (itr ms X M n xs (i + 1)) n)) := own_base ho2 (Nat.le_trans hB HB.out.size); have HB2 : Hid (Below w.heap.size w w2) := bstep HB.out hb2; have i3 := failing_any (HV.out.below HB2.out) HK.out (il_of_own HW2.out) (HBT.out (i + 1)); clear ho2 hb2)
          | (go_at_call 36; have Z := MK1; refine i3.mono ?_; rintro e w3 ⟨u3, rfl, ho3, hb3⟩; have HW3 : Hid (w3.ownsRow B 3 1 u2 n (ils (itr ms X M n xs (i + 1)) n)) := own_below HW2.out hb3; have HF3 : Hid (w3.ownsRow w.heap.size 3 1 u3 (fls ms X (itr ms X M n xs (i + 1)) M).length (ils (lf (fls ms X (itr ms X M n xs (i + 1)) M)) (fls ms X (itr ms X M n xs (i + 1)) M).length)) := own_base ho3 HB2.out.size; have HB3 : Hid (Below w.heap.size w w3) := bstep HB2.out hb3; clear ho3 hb3))
        go_roundw
        case rel =>
          refine ⟨i + 1, by go_num, by omega, HW3.out, HF3.out, HB3.out, fun j hj => ?_⟩
          by_cases e : j = i
          · subst e; exact HNZ.out
          · exact HBAD.out j (by omega)
        case measure => simp [intOf]; omega
      · have HE : Hid (i = d) := std_one ⟨hi, HBAD.out, .inr (by omega)⟩ HSD.out
        have HO : Hid (ok = false) := by show ok = false; rw [HOK.out, ← HE.out, ← hN]; simp; omega
        have eN : ((N : Int) == 0) = false := by simp; omega
        subst hfl
        clear hN HFL HRL hnz
        go_wp2
        go_ret3
        exact ⟨_, retp (congrArg Int.ofNat HE.out) HO.out.symm, by rw [← HE.out]; exact HW.out, HB.out⟩

theorem areR_any (x : Int) (w : World) : Calls Try.prog 41 #[.int .i64 x] w fun e w' => e = .returned (.bool (decide (0 ≤ x ∧ x ≤ 50))) ∧ w' = w := by
  go_enter Try.func41, Try.ntmps41
  by_cases h : 0 ≤ x
  · by_cases h1 : x ≤ 50
    · go_wp2
      go_ret
      exact ⟨by simp [h, h1], rfl⟩
    · go_wp2
      go_ret
      exact ⟨by simp [h1], rfl⟩
  · go_wp2
    go_ret
    exact ⟨by simp; omega, rfl⟩
end Go.Proofs.Ytnfhnchomiejcaa

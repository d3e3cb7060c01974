/- FnMatched: the draw. -/
import Derived.Test.YthfmcfgnegfkdaaFJ
import Derived.Test.YthfmcfgnegfkdaaME
import Derived.Test.YthfmcfgnegfkdaaGA
namespace Go.Proofs.Ythfmcfgnegfkdaa
open Go.RowKit

set_option maxHeartbeats 2000000 in
theorem same_yes {w : World} {v u : Value} {n : Nat} {xs ys : Nat → Int} (hv : Il w v n xs) (hu : Il w u n ys) (hn : n ≤ 1048576) (he : ∀ k, k < n → xs k = ys k) :
    Calls Try.prog 9 #[v, u] w fun e w' => e = .returned (.bool true) ∧ Below w.heap.size w w' := by
  obtain ⟨ao, cap, rfl, hcap, hc⟩ := hv
  obtain ⟨bo, cap2, rfl, hcap2, hc2⟩ := hu
  have HC : Hid (0 < n → ∃ b off, ao = some ⟨b, off, none⟩ ∧ b < w.heap.size ∧ ∀ k, k < n → w.cell? ⟨b, off + k, none⟩ = some (.int .i64 (xs k))) := hc
  have HC2 : Hid (0 < n → ∃ b off, bo = some ⟨b, off, none⟩ ∧ b < w.heap.size ∧ ∀ k, k < n → w.cell? ⟨b, off + k, none⟩ = some (.int .i64 (xs k))) := fun h0 => by
    obtain ⟨b, off, h1, h2, h3⟩ := hc2 h0
    exact ⟨b, off, h1, h2, fun k hk => by rw [he k hk]; exact h3 k hk⟩
  clear hc hc2 he
  go_enter Try.func9, Try.ntmps9
  go_wp2
  go_loopw [5] (fun i wr => ∃ k : Nat, i = .int .i64 k ∧ k ≤ n ∧ Hid (Below w.heap.size w wr)) (fun i _ => n - (intOf i).toNat)
  case atStart => exact ⟨0, rfl, by omega, Below.refl _ _⟩
  case round =>
    obtain ⟨k, rfl, hk, hbl⟩ := hrel
    by_cases h1 : k < n
    · obtain ⟨b, off, rfl, hlt, hcell⟩ := HC.out (by omega)
      obtain ⟨b2, off2, rfl, hlt2, hcell2⟩ := HC2.out (by omega)
      have c1 : wr.cell? ⟨b, off + k, none⟩ = some (.int .i64 (xs k)) := (hbl.out.cell (p := ⟨b, off + k, none⟩) hlt).trans (hcell k h1)
      have c2 : wr.cell? ⟨b2, off2 + k, none⟩ = some (.int .i64 (xs k)) := (hbl.out.cell (p := ⟨b2, off2 + k, none⟩) hlt2).trans (hcell2 k h1)
      clear hcell hcell2
      go_wp2_with (go_quiet (fail))
      go_roundw
      case rel => exact ⟨k + 1, by go_num, by omega, below_drewN hbl.out _⟩
      case measure => simp [intOf]; omega
    · obtain rfl : k = n := by omega
      go_wp2
      go_ret
      exact ⟨rfl, hbl.out⟩

/-- A list that is written out. -/
theorem lit_il (W : World) (L : List Int) : Il (W.alloc (.cells (L.map (fun x => Value.int .i64 x)).toArray 3)) (.slice (some ⟨W.heap.size, 0, none⟩) L.length L.length) L.length (fun i => L.getD i 0) := by
  refine ⟨_, _, rfl, Nat.le_refl _, fun _ => ⟨W.heap.size, 0, rfl, by simp, fun k hk => ?_⟩⟩
  rw [Nat.zero_add]
  exact lit_cells W L 3 k hk

theorem own_some4 {w : World} {B n : Nat} {ao : Option Addr} {cap : Nat} {xs : List Value} (h : w.ownsRow B 3 1 (.slice ao n cap) n xs) (hn : 0 < n) : ∃ gu, ao = some ⟨gu, 0, none⟩ := by
  rcases h.2 with ⟨_, h⟩ | ⟨gu, cu, cur, hu, _, _, hcu, _⟩
  · omega
  · injection hu with h1
    exact ⟨gu, h1⟩

theorem newsT {w : World} {B g n cap t T : Nat} {ys : Nat → Int} (h : w.ownsRow B 3 1 (.slice (some ⟨g, 0, none⟩) n cap) n (ils ys n)) (ht : t ≤ T) (hT : T ≤ n) :
    ∀ j u, (ils (fun j => ys (t + j)) (T - t))[j]? = some u → (w.alloc (.cells #[] 3)).cell? ((⟨g, t, none⟩ : Addr).add j) = some u := by
  intro j u hu
  have hj : j < T - t := by
    rcases Nat.lt_or_ge j (T - t) with h | h
    · exact h
    · rw [List.getElem?_eq_none (by rw [ils_length]; exact h)] at hu; cases hu
  rw [ils_get hj] at hu
  cases hu
  have := World.ownsRow.cellAt (own_below h (below_one w (.cells #[] 3))) (t + j) (by omega)
  rw [ils_get (by omega)] at this
  unfold Addr.add
  by_cases hj0 : j = 0
  · subst hj0; simpa using this
  · simpa [hj0] using this

/-- The draw: what stands behind it. -/
def Dm (w w' : World) (u v : Value) : Prop := (∃ n xs, n ≤ 64 ∧ Il w' u n xs) ∧ (∃ m ps, m ≤ 64 ∧ Il w' v m ps) ∧ Below w.heap.size w w'

set_option maxHeartbeats 8000000 in
theorem dmt_x {w : World} {a : Option Addr} {len cap : Nat} (hr : Row w a len) (hl : len ≤ 1048576) :
    Calls Try.prog 5 #[.slice a len cap] w fun e w' => ∃ (u v : Value), e = .returned (.tuple #[u, v]) ∧ Hid (Dm w w' u v) := by
  obtain ⟨i0, hi, hz0, hz1, hz2⟩ := info_parts Try.info3
  have HR : Hid (Row w a len) := hr
  clear hr
  obtain ⟨c, hcd⟩ : ∃ c, w.heap.size = c := ⟨_, rfl⟩
  have HN : Hid (Calls Try.prog 11 #[.slice a len cap] w fun e w' => e = .returned (.pointer (some ⟨c, 0, none⟩)) ∧ Cu w' c a len cap ∧ Below w.heap.size w w') := by have := new_x (cap := cap) HR.out (by omega); rw [← hcd]; exact this
  have HCD : Hid (w.heap.size = c) := hcd
  clear hcd
  go_enter Try.func5, Try.ntmps5
  go_wp2_with (first
    | (go_at_call 11; refine HN.out.mono ?_; rintro e w1 ⟨rfl, hc, hb⟩; have CU : Hid (Cu w1 c a len cap) := hc; have B1 : Hid (Below w.heap.size w w1) := hb; clear hc hb)
    | (go_at_call 13; refine (size_x a len cap 30 hl).mono ?_; rintro e w' ⟨z, rfl, hz5, _, hz6, hw⟩; obtain rfl := hw.symm; have hz7 := hz6 (by omega); clear hz6)
    | (go_at_call 12; (fail_if_success have := M1); refine (dsm_x CU.out z (by omega)).mono ?_; rintro e w2 ⟨v, n, ys, rfl, hn, hI, hc, hk⟩; have M1 : Hid True := trivial; have CU2 : Hid (Cu w2 c a len cap) := hc; have F2 : Hid (w2.ownsRow w1.heap.size 3 1 v n (ils ys n) ∧ Keep c w1 w2) := ⟨hI, hk⟩; obtain ⟨ao, lcap, rfl, hlcap, _⟩ := il_of_own hI; clear hc hk hI)
    | (go_at_call 12; have ZZ := M1; refine (dsm_x CU2.out 6 (by omega)).mono ?_; rintro e w3 ⟨v3, m, zs, rfl, hm, hI, hc, hk⟩; have CU3 : Hid (Cu w3 c a len cap) := hc; have F3 : Hid (w3.ownsRow w1.heap.size 3 1 (.slice ao n lcap) n (ils ys n) ∧ w3.ownsRow w2.heap.size 3 1 v3 m (ils zs m) ∧ Keep c w1 w3) := ⟨own_keep F2.out.1 hk CU.out.lt, hI, F2.out.2.trans hk⟩; clear hc hk hI; rcases Nat.lt_or_ge 4 n with h4 | h4)
    | (go_at_call 14; refine (once_x CU3.out 2).mono ?_; rintro e w4 ⟨x4, rfl, hc, hk⟩; have CU4 : Hid (Cu w4 c a len cap) := hc; have F4 : Hid (w4.ownsRow w1.heap.size 3 1 (.slice ao n lcap) n (ils ys n) ∧ w4.ownsRow w2.heap.size 3 1 v3 m (ils zs m) ∧ Keep c w1 w4) := ⟨own_keep F3.out.1 hk CU.out.lt, own_keep F3.out.2.1 hk CU2.out.lt, F3.out.2.2.trans hk⟩; clear hc hk; rcases x4 with _ | _))
  · go_ret2
    exact ⟨_, _, rfl, ⟨n, ys, hn, il_of_own F4.out.1⟩, ⟨m, zs, hm, il_of_own F4.out.2.1⟩, Below.keep B1.out F4.out.2.2 (Nat.le_of_eq HCD.out)⟩
  · obtain ⟨g, rfl⟩ := own_some4 F4.out.1 (by omega)
    go_wp2_with (first
      | (go_at_call 15; refine (below_x CU4.out ((n : Int) - 3)).mono ?_; rintro e w5 ⟨x5, hx0, _, hx2, rfl, hc, hk⟩; have hx3 := hx2 (by omega); obtain ⟨t, rfl⟩ := Int.eq_ofNat_of_zero_le hx0; have F5 : Hid (w5.ownsRow w1.heap.size 3 1 (.slice (some ⟨g, 0, none⟩) n lcap) n (ils ys n) ∧ Keep c w1 w5) := ⟨own_keep F4.out.1 hk CU.out.lt, F4.out.2.2.trans hk⟩; have HO3 := own_empty w5 3 1; obtain ⟨T, hT⟩ : ∃ T : Nat, T = t + 3 := ⟨_, rfl⟩; have e0 : (t : Int) + 3 = (T : Int) := (by omega); have hTn : T ≤ n := (by omega); have hTt : t ≤ T := (by omega); have HT : Hid (T - t = 3) := (by show T - t = 3; omega); have NW := newsT F5.out.1 (t := t) (T := T) hTt hTn; clear hc hk hx2 hx0 hT)
      | (at_builtin; refine wpList_append_own _ rfl _ _ 24 rfl w5.heap.size 3 i0 (.int .i64 0) 1 8 Try.underlying24 hi hz0 hz1 hz2 rfl (by decide) _ _ _ rfl HO3 ⟨g, t, none⟩ (T - t) (lcap - t) (ils (fun j => ys (t + j)) (T - t)) rfl (by rw [ils_length, Nat.mul_one]) NW (ils_one _ _) (by unfold maxLen; omega) (by omega) (by simp) ?_))
    intro v' w6 hown' hgrow _
    have HB6 : Hid (Below w5.heap.size w5 w6) := grown_below (below_one _ _) (Nat.le_refl _) HO3 hgrow
    have HO6 : Hid (w6.ownsRow w5.heap.size 3 1 v' (T - t) (ils (fun j => ys (t + j)) (T - t))) := hown'
    clear hown' hgrow HO3 NW
    go_wp2
    go_ret2
    exact ⟨_, _, rfl, ⟨n, ys, hn, il_of_own (own_below F5.out.1 HB6.out)⟩, ⟨T - t, _, by omega, il_of_own HO6.out⟩, bstep (Below.keep B1.out F5.out.2 (Nat.le_of_eq HCD.out)) HB6.out⟩
  · go_ret2
    exact ⟨_, _, rfl, ⟨n, ys, hn, il_of_own F3.out.1⟩, ⟨m, zs, hm, il_of_own F3.out.2.1⟩, Below.keep B1.out F3.out.2.2 (Nat.le_of_eq HCD.out)⟩
end Go.Proofs.Ythfmcfgnegfkdaa

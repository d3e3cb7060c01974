/- Lift2: one list back. -/
import Derived.Test.YtbcjbighipeafaaBT
import Derived.Test.YtbcjbighipeafaaLL
namespace Go.Proofs.Ytbcjbighipeafaa
open Go.RowKit

/-- What stood there ahead of lifting. -/
def ubk (kind : Int) (n : Nat) (xs : Nat → Int) : Nat → Int := bck kind ((n + 1) / 2) (n / 2) xs (fun i => xs ((n + 1) / 2 + i))

theorem ubk_with {kind M : Int} {n : Nat} {xs : Nat → Int} (hM : 4 ≤ M) (h : Wth M n xs) : Wth (5 * M) n (ubk kind n xs) := by
  have h1 : Wth M ((n + 1) / 2) xs := fun k hk => h k (by omega)
  have h2 : Wth M (n / 2) (fun i => xs ((n + 1) / 2 + i)) := fun k hk => h _ (by omega)
  have := bck_with (kind := kind) hM h1 h2 (by omega) (by omega)
  rw [show (n + 1) / 2 + n / 2 = n by omega] at this
  exact this

theorem il_lo {w : World} {ao : Option Addr} {n cap p : Nat} {xs : Nat → Int} (h : Il w (.slice ao n cap) n xs) (hp : p ≤ n) : Il w (.slice ao p cap) p xs := by
  obtain ⟨ao', cap', he, hcap, hc⟩ := h
  injection he with e1 e2 e3
  subst e1 e3
  exact ⟨ao, cap, rfl, by omega, fun h0 => by
    obtain ⟨b, off, hb, hlt, hcell⟩ := hc (by omega)
    exact ⟨b, off, hb, hlt, fun k hk => hcell k (by omega)⟩⟩

theorem il_hi {w : World} {b off n cap p : Nat} {xs : Nat → Int} (h : Il w (.slice (some ⟨b, off, none⟩) n cap) n xs) (hp : p ≤ n) : Il w (.slice (if cap = p then some ⟨b, off, none⟩ else some ⟨b, off + p, none⟩) (n - p) (cap - p)) (n - p) (fun i => xs (p + i)) := by
  obtain ⟨ao', cap', he, hcap, hc⟩ := h
  injection he with e1 e2 e3
  subst e1 e3
  refine ⟨_, _, rfl, by omega, fun h0 => ?_⟩
  obtain ⟨b', off', hb, hlt, hcell⟩ := hc (by omega)
  injection hb with hb
  injection hb with hb1 hb2
  subst hb1 hb2
  refine ⟨b, off + p, by rw [if_neg (by omega)], hlt, fun k hk => ?_⟩
  have := hcell (p + k) (by omega)
  rw [show off + p + k = off + (p + k) by omega]
  exact this

theorem il_nought {w : World} {ao : Option Addr} {m cap : Nat} {xs : Nat → Int} (hm : m = 0) (hc : m ≤ cap) : Il w (.slice ao m cap) m xs := ⟨ao, cap, rfl, hc, fun h => absurd h (by omega)⟩

set_option maxHeartbeats 2000000 in
theorem iUn_any {w : World} {v : Value} {n : Nat} {xs : Nat → Int} {kind M : Int} (hk : Knd kind) (hv : Il w v n xs) (hn : n ≤ 1048576) (hM4 : 4 ≤ M) (hM : M ≤ 1000000000000000) (hx : Wth M n xs) :
    Calls Try.prog 36 #[.int .i64 kind, v] w fun e w' => P1 w w' e n (ubk kind n xs) := by
  have HV : Hid (Il w.drew v n xs) := hv.below (Below.refl _ _).drew
  obtain ⟨ao, cap, rfl, hcap, hc⟩ := hv
  have HC : Hid (0 < n → ∃ b off, ao = some ⟨b, off, none⟩ ∧ b < w.heap.size ∧ ∀ k, k < n → w.cell? ⟨b, off + k, none⟩ = some (.int .i64 (xs k))) := hc
  clear hc
  obtain ⟨p, hp⟩ : ∃ p, Hid (p = (n + 1) / 2) := ⟨_, rfl⟩
  have i3 := lowOf_any (w := w) hn hp.out
  have hpn : p ≤ n := by have := hp.out; omega
  have HW1 : Hid (Wth M p xs) := fun k hk => hx k (by omega)
  have HW2 : Hid (Wth M (n - p) (fun i => xs (p + i))) := fun k hk => hx _ (by omega)
  have HE : Hid (∀ (e : Ending) (w' : World), P1 w.drew w' e (p + (n - p)) (bck kind p (n - p) xs (fun i => xs (p + i))) → ∃ u, e = .returned u ∧ Hid (w'.ownsRow w.heap.size 3 1 u n (ils (ubk kind n xs) n) ∧ Below w.heap.size w w')) := fun e w' => by
    rintro ⟨u, h1, h2, h3⟩
    have e1 : p + (n - p) = n := by omega
    have e2 : bck kind p (n - p) xs (fun i => xs (p + i)) = ubk kind n xs := by
      have := hp.out
      subst this
      unfold ubk
      rw [show n - (n + 1) / 2 = n / 2 by omega]
    rw [e1, e2] at h2
    exact ⟨u, h1, h2, (Below.refl _ _).drew.trans h3⟩
  clear hx
  have l0 : Below w.heap.size w w.drew := (Below.refl _ _).drew
  by_cases h0 : 0 < n
  · obtain ⟨b, off, rfl, hlt, hcell⟩ := HC.out h0
    clear hcell
    have i5 := iBack_any hk (il_lo HV.out hpn) (il_hi HV.out hpn) (by have := hp.out; omega) (by have := hp.out; omega) (by omega) hM4 hM HW1.out HW2.out
    go_enter Try.func36, Try.ntmps36
    go_upto_region 2 with (first
      | (go_at_call 25; (with_reducible refine i3.mono ?_); rintro e w1 ⟨rfl, hw⟩; obtain rfl := hw.symm))
    refine wp_region_any (by kernel_rfl) ?_
    change wpAny _ _ _ _ _ _ _ (World.drew _)
    refine wpI_any (I := fun X => True) _ _ _ _ ?_
    refine wpI_take (i := 0) (v := ?_) rfl (by kernel_rfl) (by kernel_rfl) (by kernel_rfl) (fun _ _ _ h => h) ⟨by rfl, ?_⟩ ?_
    rotate_left
    · intro X hI; go_simp; try go_bits
      try rw [if_pos (by omega)]
      try with_reducible rfl
    refine wpI_take (i := 1) (v := ?_) rfl (by kernel_rfl) (by kernel_rfl) (by kernel_rfl) (fun _ _ _ h => h) ⟨by rfl, ?_⟩ ?_
    rotate_left
    · intro X hI; go_simp; try go_bits
      try rw [if_pos (by omega)]
      try with_reducible rfl
    refine wpI_take (i := 2) (v := ?_) rfl (by kernel_rfl) (by kernel_rfl) (by kernel_rfl) (fun _ _ _ h => h) ⟨by rfl, ?_⟩ ?_
    rotate_left
    · intro X hI; go_simp; try go_bits
      try rw [if_pos (by omega)]
      try with_reducible rfl
    refine wpI_take (i := 3) (v := ?_) rfl (by kernel_rfl) (by kernel_rfl) (by kernel_rfl) (fun _ _ _ h => h) ⟨by rfl, ?_⟩ ?_
    rotate_left
    · intro X hI; go_simp; try go_bits
      try rw [if_pos (by omega)]
      try with_reducible rfl
    refine wpI_take (i := 4) (v := ?_) rfl (by kernel_rfl) (by kernel_rfl) (by kernel_rfl) (fun _ _ _ h => h) ⟨by rfl, ?_⟩ ?_
    rotate_left
    · intro X hI; go_simp; try go_bits
      try rw [if_pos (by omega)]
      try with_reducible rfl
    refine wpI_take (i := 5) (v := ?_) rfl (by kernel_rfl) (by kernel_rfl) (by kernel_rfl) (fun _ _ _ h => h) ⟨by rfl, ?_⟩ ?_
    rotate_left
    · intro X hI; go_simp; try go_bits
      try rw [if_pos (by omega)]
      try with_reducible rfl
    refine wpI_take (i := 6) (v := ?_) rfl (by kernel_rfl) (by kernel_rfl) (by kernel_rfl) (fun _ _ _ h => h) ⟨by rfl, ?_⟩ ?_
    rotate_left
    · intro X hI; go_simp; try go_bits
      try rw [if_pos (by omega)]
      try with_reducible rfl
    refine wpI_only (i := 7) rfl (by kernel_rfl) trivial (by rfl) ?_
    intro K hK
    go_simp
    go_wp2_with (go_at_call 27; (with_reducible refine i5.mono ?_); intro e X1 hX1; obtain ⟨u, rfl, H1⟩ := HE.out _ _ hX1; clear hX1)
    all_goals
      refine wpI_only (i := 8) rfl (by kernel_rfl) trivial (by rfl) ?_
      intro K hK
      go_simp
      refine hK _ _ ?_
      refine wpI_done trivial (by kernel_rfl) ?_ _
      go_wp2
      go_ret
      exact ⟨_, rfl, H1.out.1, H1.out.2⟩
  · have iL : Il w.drew (.slice ao p cap) p xs := il_lo HV.out hpn
    cases ao with
    | none =>
      have i5 := iBack_any hk (il_lo HV.out hpn) (il_nought (w := w.drew) (ao := none) (m := n - p) (cap := cap - p) (xs := fun i => xs (p + i)) (by omega) (by omega)) (by have := hp.out; omega) (by have := hp.out; omega) (by omega) hM4 hM HW1.out HW2.out
      go_enter Try.func36, Try.ntmps36
      go_upto_region 2 with (first
        | (go_at_call 25; (with_reducible refine i3.mono ?_); rintro e w1 ⟨rfl, hw⟩; obtain rfl := hw.symm))
      refine wp_region_any (by kernel_rfl) ?_
      change wpAny _ _ _ _ _ _ _ (World.drew _)
      refine wpI_any (I := fun X => True) _ _ _ _ ?_
      refine wpI_take (i := 0) (v := ?_) rfl (by kernel_rfl) (by kernel_rfl) (by kernel_rfl) (fun _ _ _ h => h) ⟨by rfl, ?_⟩ ?_
      rotate_left
      · intro X hI; go_simp; try go_bits
        try rw [if_pos (by omega)]
        try with_reducible rfl
      refine wpI_take (i := 1) (v := ?_) rfl (by kernel_rfl) (by kernel_rfl) (by kernel_rfl) (fun _ _ _ h => h) ⟨by rfl, ?_⟩ ?_
      rotate_left
      · intro X hI; go_simp; try go_bits
        try rw [if_pos (by omega)]
        try with_reducible rfl
      refine wpI_take (i := 2) (v := ?_) rfl (by kernel_rfl) (by kernel_rfl) (by kernel_rfl) (fun _ _ _ h => h) ⟨by rfl, ?_⟩ ?_
      rotate_left
      · intro X hI; go_simp; try go_bits
        try rw [if_pos (by omega)]
        try with_reducible rfl
      refine wpI_take (i := 3) (v := ?_) rfl (by kernel_rfl) (by kernel_rfl) (by kernel_rfl) (fun _ _ _ h => h) ⟨by rfl, ?_⟩ ?_
      rotate_left
      · intro X hI; go_simp; try go_bits
        try rw [if_pos (by omega)]
        try with_reducible rfl
      refine wpI_take (i := 4) (v := ?_) rfl (by kernel_rfl) (by kernel_rfl) (by kernel_rfl) (fun _ _ _ h => h) ⟨by rfl, ?_⟩ ?_
      rotate_left
      · intro X hI; go_simp; try go_bits
        try rw [if_pos (by omega)]
        try with_reducible rfl
      refine wpI_take (i := 5) (v := ?_) rfl (by kernel_rfl) (by kernel_rfl) (by kernel_rfl) (fun _ _ _ h => h) ⟨by rfl, ?_⟩ ?_
      rotate_left
      · intro X hI; go_simp; try go_bits
        try rw [if_pos (by omega)]
        try with_reducible rfl
      refine wpI_take (i := 6) (v := ?_) rfl (by kernel_rfl) (by kernel_rfl) (by kernel_rfl) (fun _ _ _ h => h) ⟨by rfl, ?_⟩ ?_
      rotate_left
      · intro X hI; go_simp; try go_bits
        try rw [if_pos (by omega)]
        try with_reducible rfl
      refine wpI_only (i := 7) rfl (by kernel_rfl) trivial (by rfl) ?_
      intro K hK
      go_simp
      go_wp2_with (go_at_call 27; (with_reducible refine i5.mono ?_); intro e X1 hX1; obtain ⟨u, rfl, H1⟩ := HE.out _ _ hX1; clear hX1)
      all_goals
        refine wpI_only (i := 8) rfl (by kernel_rfl) trivial (by rfl) ?_
        intro K hK
        go_simp
        refine hK _ _ ?_
        refine wpI_done trivial (by kernel_rfl) ?_ _
        go_wp2
        go_ret
        exact ⟨_, rfl, H1.out.1, H1.out.2⟩
    | some a =>
      have i5 := iBack_any hk (il_lo HV.out hpn) (il_nought (w := w.drew) (ao := if cap = p then some a else some (a.add p)) (m := n - p) (cap := cap - p) (xs := fun i => xs (p + i)) (by omega) (by omega)) (by have := hp.out; omega) (by have := hp.out; omega) (by omega) hM4 hM HW1.out HW2.out
      go_enter Try.func36, Try.ntmps36
      go_upto_region 2 with (first
        | (go_at_call 25; (with_reducible refine i3.mono ?_); rintro e w1 ⟨rfl, hw⟩; obtain rfl := hw.symm))
      refine wp_region_any (by kernel_rfl) ?_
      change wpAny _ _ _ _ _ _ _ (World.drew _)
      refine wpI_any (I := fun X => True) _ _ _ _ ?_
      refine wpI_take (i := 0) (v := ?_) rfl (by kernel_rfl) (by kernel_rfl) (by kernel_rfl) (fun _ _ _ h => h) ⟨by rfl, ?_⟩ ?_
      rotate_left
      · intro X hI; go_simp; try go_bits
        try rw [if_pos (by omega)]
        try with_reducible rfl
      refine wpI_take (i := 1) (v := ?_) rfl (by kernel_rfl) (by kernel_rfl) (by kernel_rfl) (fun _ _ _ h => h) ⟨by rfl, ?_⟩ ?_
      rotate_left
      · intro X hI; go_simp; try go_bits
        try rw [if_pos (by omega)]
        try with_reducible rfl
      refine wpI_take (i := 2) (v := ?_) rfl (by kernel_rfl) (by kernel_rfl) (by kernel_rfl) (fun _ _ _ h => h) ⟨by rfl, ?_⟩ ?_
      rotate_left
      · intro X hI; go_simp; try go_bits
        try rw [if_pos (by omega)]
        try with_reducible rfl
      refine wpI_take (i := 3) (v := ?_) rfl (by kernel_rfl) (by kernel_rfl) (by kernel_rfl) (fun _ _ _ h => h) ⟨by rfl, ?_⟩ ?_
      rotate_left
      · intro X hI; go_simp; try go_bits
        try rw [if_pos (by omega)]
        try with_reducible rfl
      refine wpI_take (i := 4) (v := ?_) rfl (by kernel_rfl) (by kernel_rfl) (by kernel_rfl) (fun _ _ _ h => h) ⟨by rfl, ?_⟩ ?_
      rotate_left
      · intro X hI; go_simp; try go_bits
        try rw [if_pos (by omega)]
        try with_reducible rfl
      refine wpI_take (i := 5) (v := ?_) rfl (by kernel_rfl) (by kernel_rfl) (by kernel_rfl) (fun _ _ _ h => h) ⟨by rfl, ?_⟩ ?_
      rotate_left
      · intro X hI; go_simp; try go_bits
        try rw [if_pos (by omega)]
        try with_reducible rfl
      refine wpI_take (i := 6) (v := ?_) rfl (by kernel_rfl) (by kernel_rfl) (by kernel_rfl) (fun _ _ _ h => h) ⟨by rfl, ?_⟩ ?_
      rotate_left
      · intro X hI; go_simp; try go_bits
        try rw [if_pos (by omega)]
        try with_reducible rfl
      refine wpI_only (i := 7) rfl (by kernel_rfl) trivial (by rfl) ?_
      intro K hK
      go_simp
      go_wp2_with (go_at_call 27; (with_reducible refine i5.mono ?_); intro e X1 hX1; obtain ⟨u, rfl, H1⟩ := HE.out _ _ hX1; clear hX1)
      all_goals
        refine wpI_only (i := 8) rfl (by kernel_rfl) trivial (by rfl) ?_
        intro K hK
        go_simp
        refine hK _ _ ?_
        refine wpI_done trivial (by kernel_rfl) ?_ _
        go_wp2
        go_ret
        exact ⟨_, rfl, H1.out.1, H1.out.2⟩
end Go.Proofs.Ytbcjbighipeafaa

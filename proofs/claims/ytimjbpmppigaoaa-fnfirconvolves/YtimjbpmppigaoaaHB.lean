/- Taps, a state and a list drawn. -/
import Derived.Test.YtimjbpmppigaoaaHA
namespace Go.Proofs.Ytimjbpmppigaoaa
open Go.RowKit

/-- A row that lies below H is as it was where nothing below H has turned. -/
theorem own_low {w w' : World} {B s n H : Nat} {e : TypeId} {v : Value} {xs : List Value} (h : w.ownsRow B e s v n xs) (hb : Below H w w') (hv : ∀ g, v.ownBlock = some g → g < H) : w'.ownsRow B e s v n xs := by
  refine ⟨h.1, ?_⟩
  rcases h.2 with h' | ⟨g', cap', cur, rfl, hb', hg, rest⟩
  · exact .inl h'
  · exact .inr ⟨g', cap', cur, rfl, hb', (hb.block g' (hv g' rfl)).trans hg, rest⟩

/-- What stands behind the draws: both lists in memory apart from the cursor, the second behind w2. -/
structure Uf (w w2 X : World) (c : Nat) (a : Option Addr) (len cap : Nat) (u v : Value) (M : Nat) : Prop where
  l1 : ∃ n ys B, n ≤ 65 ∧ c < B ∧ X.ownsRow B 3 1 u n (ils ys n) ∧ ∀ g, u.ownBlock = some g → g < w2.heap.size
  l2 : ∃ n ys, n ≤ M ∧ X.ownsRow w2.heap.size 3 1 v n (ils ys n)
  bw : Below w.heap.size w X
  cu : Cu X c a len cap
  c2 : Cu w2 c a len cap
  kp : Keep c w2 X

theorem Uf.keep {w w2 X X' : World} {c : Nat} {a : Option Addr} {len cap M : Nat} {u v : Value} (h : Uf w w2 X c a len cap u v M) (hk : Keep c X X') (hc : Cu X' c a len cap) (hw : w.heap.size ≤ c) : Uf w w2 X' c a len cap u v M := by
  obtain ⟨n, ys, B, h1, h2, h3, h4⟩ := h.l1
  obtain ⟨m, zs, g1, g2⟩ := h.l2
  exact ⟨⟨n, ys, B, h1, h2, own_keep h3 hk h2, h4⟩, ⟨m, zs, g1, own_keep g2 hk h.c2.lt⟩, Below.keep h.bw hk hw, hc, h.c2, h.kp.trans hk⟩

theorem Uf.below {w w2 X X' : World} {c : Nat} {a : Option Addr} {len cap M : Nat} {u v : Value} (h : Uf w w2 X c a len cap u v M) (hb : Below X.heap.size X X') : Uf w w2 X' c a len cap u v M := by
  obtain ⟨n, ys, B, h1, h2, h3, h4⟩ := h.l1
  obtain ⟨m, zs, g1, g2⟩ := h.l2
  exact ⟨⟨n, ys, B, h1, h2, own_below h3 hb, h4⟩, ⟨m, zs, g1, own_below g2 hb⟩, bstep h.bw hb, h.cu.call hb, h.c2, h.kp.call hb⟩

/-- The second list made longer. -/
theorem Uf.app {w w2 X X' : World} {c : Nat} {a : Option Addr} {len cap M M' m : Nat} {u v v' : Value} {zs : Nat → Int} (h : Uf w w2 X c a len cap u v M) (hb : Below w2.heap.size X X') (ho : X'.ownsRow w2.heap.size 3 1 v' m (ils zs m)) (hm : m ≤ M') (hw : w.heap.size ≤ c) : Uf w w2 X' c a len cap u v' M' := by
  obtain ⟨n, ys, B, h1, h2, h3, h4⟩ := h.l1
  have := h.c2.lt
  exact ⟨⟨n, ys, B, h1, h2, own_low h3 hb h4, h4⟩, ⟨m, zs, hm, ho⟩, h.bw.trans (hb.mono (by omega)), h.c2.grow h.cu h.kp hb, h.c2, h.kp.below hb⟩

set_option maxHeartbeats 4000000 in
theorem dfir_x {w : World} {a : Option Addr} {len cap : Nat} (hr : Row w a len) (hl : len ≤ 1048576) :
    Calls Try.prog 6 #[.slice a len cap] w fun e w' => ∃ (u v x : Value), e = .returned (.tuple #[u, v, x]) ∧ Hid ((∃ n ys, n ≤ 65 ∧ Il w' u n ys) ∧ (∃ n ys B, n ≤ 65 ∧ w'.ownsRow B 3 1 v n (ils ys n)) ∧ (∃ n ys, n ≤ 513 ∧ Il w' x n ys) ∧ Below w.heap.size w w') := by
  obtain ⟨i0, hi, hz0, hz1, hz2⟩ := info_parts Try.info3
  have HR : Hid (Row w a len) := hr
  clear hr
  obtain ⟨c, hcd⟩ : ∃ c, w.heap.size = c := ⟨_, rfl⟩
  have HN : Hid (Calls Try.prog 15 #[.slice a len cap] w fun e w' => e = .returned (.pointer (some ⟨c, 0, none⟩)) ∧ Cu w' c a len cap ∧ Below w.heap.size w w') := by have := new_x (cap := cap) HR.out (by omega); rw [← hcd]; exact this
  have HCD : Hid (w.heap.size ≤ c) := Nat.le_of_eq hcd
  clear hcd
  go_enter Try.func6, Try.ntmps6
  go_wp2_with (first
    | (go_at_call 15; refine HN.out.mono ?_; rintro e w1 ⟨rfl, hc, hb⟩; have HC1 : Hid (Cu w1 c a len cap) := hc; have B1 : Hid (Below w.heap.size w w1) := hb; clear hc hb)
    | (go_at_call 16; refine (dtaps_x HC1.out).mono ?_; rintro e w2 ⟨u, n, ys, rfl, hn, hI, hc, hk⟩; have F2 : Hid (w2.ownsRow w1.heap.size 3 1 u n (ils ys n)) := hI; have L2 : Hid (c < w1.heap.size) := HC1.out.lt; have HC2 : Hid (Cu w2 c a len cap) := hc; have B2 : Hid (Below w.heap.size w w2) := Below.keep B1.out hk HCD.out; clear hc hk hI))
  have bA := below_one w2 (.cells #[] 3)
  have U0 : Hid (Uf w w2 (w2.alloc (.cells #[] 3)) c a len cap u (.slice (some ⟨w2.heap.size, 0, none⟩) 0 0) 0) := ⟨⟨n, ys, _, hn, L2.out, own_below F2.out bA, fun g hg => (World.ownsRow.lt F2.out g hg).2⟩, ⟨0, fun _ => 0, Nat.le_refl _, own_empty w2 3 1⟩, bstep B2.out bA, HC2.out.call bA, HC2.out, (Keep.refl c w2).call bA⟩
  clear bA
  obtain ⟨ao, cp, hu, hcp, hcc⟩ := il_of_own F2.out
  subst hu
  clear hcc
  go_wp2
  generalize (w2.alloc (.cells #[] 3)) = W0 at U0 ⊢
  go_loopw [7, 8] (fun o i wr => ∃ (k : Nat), i = .int .i64 ((k + 1 : Nat) : Int) ∧ (k + 1 ≤ n ∨ k = 0) ∧ Hid (Uf w w2 wr c a len cap (.slice ao n cp) o k)) (fun _ i _ => n - (intOf i).toNat)
  case atStart => exact ⟨0, rfl, .inr rfl, U0.out⟩
  case round =>
    obtain ⟨k, rfl, hk, hrel⟩ := hrel
    by_cases h1 : k + 1 < n
    · obtain ⟨m, zs, hm, ho⟩ := hrel.out.l2
      have HO : Hid (wr.ownsRow w2.heap.size 3 1 u7 m (ils zs m)) := ho
      have HU : Hid (Uf w w2 wr c a len cap (.slice ao n cp) u7 k) := hrel.out
      clear ho hrel
      go_wp2_with (first | (go_at_call 17; refine (below_x HU.out.cu 201).mono ?_; rintro e w4 ⟨x2, hx0, _, hx1, rfl, hc, hk⟩; have hx2 := hx1 (by omega); have hb3 := below_one w4 (.cells #[.int .i64 (x2 - 100)] 3); have HO3 := own_below (own_keep HO.out hk HC2.out.lt) hb3; have HU3 : Hid (Uf w w2 (w4.alloc (.cells #[.int .i64 (x2 - 100)] 3)) c a len cap (.slice ao n cp) u7 k) := (HU.out.keep hk hc HCD.out).below hb3; have hs3 := HU3.out.kp.size; clear hc hk hb3 hx1) | (at_builtin; refine wpList_append_own _ rfl _ _ 24 rfl w2.heap.size 3 i0 (.int .i64 0) 1 8 Try.underlying24 hi hz0 hz1 hz2 rfl (by decide) _ _ _ rfl HO3 ⟨w4.heap.size, 0, none⟩ 1 1 [.int .i64 (x2 - 100)] rfl rfl (one_new _ _ _) (by simp [Value.oneCell']) (by unfold maxLen; omega) (by omega) hs3 ?_))
      intro v' w5 hown' hgrow _
      have HB5 : Below w2.heap.size (w4.alloc (.cells #[.int .i64 (x2 - 100)] 3)) w5 := grown_below (Below.refl w2.heap.size _) hs3 HO3 hgrow
      rw [ils_app] at hown'
      have HU5 : Hid (Uf w w2 w5 c a len cap (.slice ao n cp) v' (k + 1)) := HU3.out.app HB5 hown' (by omega) HCD.out
      clear hown' hgrow HO3 HB5
      go_wp2
      go_roundw
      case rel => exact ⟨k + 1, by go_num, by omega, HU5.out⟩
      case measure => simp [intOf]; omega
    · obtain ⟨m, zs, hm, ho⟩ := hrel.out.l2
      have HO : Hid (wr.ownsRow w2.heap.size 3 1 u7 m (ils zs m)) := ho
      have HU : Hid (Uf w w2 wr c a len cap (.slice ao n cp) u7 k) := hrel.out
      have hk64 : k ≤ 64 := by omega
      clear ho hrel
      go_wp2_with (first
        | (go_at_call 18; (fail_if_success have := M6); refine (once_x HU.out.cu 15).mono ?_; rintro e w6 ⟨x6, rfl, hc, hk⟩; have M6 : Hid True := trivial; have HO6 : Hid (w6.ownsRow w2.heap.size 3 1 u7 m (ils zs m)) := own_keep HO.out hk HC2.out.lt; have U6 : Hid (Uf w w2 w6 c a len cap (.slice ao n cp) u7 k) := HU.out.keep hk hc HCD.out; clear hc hk)
        | (at_builtin; refine wpList_append_own _ rfl _ _ 24 rfl w2.heap.size 3 i0 (.int .i64 0) 1 8 Try.underlying24 hi hz0 hz1 hz2 rfl (by decide) _ _ _ rfl (own_below HO6.out (below_one _ _)) ⟨w6.heap.size, 0, none⟩ 1 1 [.int .i64 1] rfl rfl (one_new _ _ _) (by simp [Value.oneCell']) (by unfold maxLen; omega) (by omega) (U6.out.below (below_one _ _)).kp.size ?_; intro v7 w7 hown' hgrow _; rw [ils_app] at hown'; have U7 : Hid (Uf w w2 w7 c a len cap (.slice ao n cp) v7 65) := (U6.out.below (below_one _ (.cells #[.int .i64 1] 3))).app (grown_below (Below.refl w2.heap.size _) (U6.out.below (below_one _ _)).kp.size (own_below HO6.out (below_one _ _)) hgrow) hown' (by omega) HCD.out; have M7 : Hid True := trivial; clear hown' hgrow)
        | (go_at_call 18; have Z := M7; (fail_if_success have := M8); refine (once_x U7.out.cu 40).mono ?_; rintro e w8 ⟨x8, rfl, hc, hk⟩; have M8 : Hid True := trivial; have U8 : Hid (Uf w w2 w8 c a len cap (.slice ao n cp) v7 65) := U7.out.keep hk hc HCD.out; clear hc hk)
        | (go_at_call 18; (fail_if_success have := M7); (fail_if_success have := M8); refine (once_x U6.out.cu 40).mono ?_; rintro e w8 ⟨x8, rfl, hc, hk⟩; have M8 : Hid True := trivial; have U8 : Hid (Uf w w2 w8 c a len cap (.slice ao n cp) u7 k) := U6.out.keep hk hc HCD.out; clear hc hk)
        | (go_at_call 20; refine (size_x a len cap 30 hl).mono ?_; rintro e w' ⟨z, rfl, hz5, _, hz6, hw⟩; obtain rfl := hw.symm; have hz7 := hz6 (by omega); clear hz6)
        | (go_at_call 19; refine (dany_x U8.out.cu z (by omega)).mono ?_; rintro e w9 ⟨xv, N, xs, rfl, hN, hI, hc, hk⟩; have F9 : Hid (w9.ownsRow w8.heap.size 3 1 xv N (ils xs N)) := hI; have U9 : Hid (Uf w w2 w9 c a len cap (.slice ao n cp) _ _) := U8.out.keep hk hc HCD.out; have M9 : Hid True := trivial; clear hI hc hk)
        | (go_at_call 19; have bE := below_one w8 (.cells #[] 3); have UE := U8.out.below bE; refine (dany_x UE.cu z (by omega)).mono ?_; rintro e w9 ⟨xv, N, xs, rfl, hN, hI, hc, hk⟩; have F9 : Hid (w9.ownsRow (w8.alloc (.cells #[] 3)).heap.size 3 1 xv N (ils xs N)) := hI; have E9 : Hid (w9.ownsRow w8.heap.size 3 1 (.slice (some ⟨w8.heap.size, 0, none⟩) 0 0) 0 (ils (fun _ => 0) 0)) := own_keep (own_empty w8 3 1) hk U8.out.cu.lt; have U9 : Hid (Uf w w2 w9 c a len cap (.slice ao n cp) _ _) := UE.keep hk hc HCD.out; clear hI hc hk bE UE))
      all_goals
        obtain ⟨n1, y1, b1, q1, _, q2, _⟩ := U9.out.l1
        obtain ⟨n2, y2, q3, q4⟩ := U9.out.l2
        go_ret3
        first
          | exact ⟨_, _, _, rfl, ⟨0, _, by omega, il_of_own E9.out⟩, ⟨n2, y2, _, by omega, q4⟩, ⟨N, xs, hN, il_of_own F9.out⟩, U9.out.bw⟩
          | exact ⟨_, _, _, rfl, ⟨n1, y1, q1, il_of_own q2⟩, ⟨n2, y2, _, by omega, q4⟩, ⟨N, xs, hN, il_of_own F9.out⟩, U9.out.bw⟩
end Go.Proofs.Ytimjbpmppigaoaa

/- Comings and goings drawn. -/
import Derived.Test.YtjijkfhpiefheaaD4
import Derived.Test.YtjijkfhpiefheaaAW
import Derived.Test.YtjijkfhpiefheaaDB
import Derived.WalkKit
import Derived.WalkSpells
import Derived.WalkLawsBesides
import Derived.Deep.QuietTactic
import Derived.BigQuiet
import Derived.BigRegion
import Derived.Deep.Cut
namespace Go.Proofs.Ytjijkfhpiefheaa
open Go.RowKit

/-- Two lists that grow behind a world with a cursor. -/
structure Two (w1 : World) (c : Nat) (ad : Option Addr) (len cap : Nat) (wr : World) (v u : Value) (k m : Nat) (f g : Nat → Int) : Prop where
  o1 : wr.ownsRow w1.heap.size 3 1 v k (ils f k)
  o2 : wr.ownsRow w1.heap.size 3 1 u m (ils g m)
  ap : Apart v u
  cu : Cu wr c ad len cap
  ke : Keep c w1 wr
  lt : c < w1.heap.size

theorem Two.call {w1 wr w' : World} {c : Nat} {ad : Option Addr} {len cap : Nat} {v u : Value} {k m : Nat} {f g : Nat → Int} (h : Two w1 c ad len cap wr v u k m f g) (hb : Below wr.heap.size wr w') : Two w1 c ad len cap w' v u k m f g :=
  ⟨own_below h.o1 hb, own_below h.o2 hb, h.ap, h.cu.call hb, h.ke.call hb, h.lt⟩

theorem Two.keep {w1 wr w' : World} {c : Nat} {ad : Option Addr} {len cap : Nat} {v u : Value} {k m : Nat} {f g : Nat → Int} (h : Two w1 c ad len cap wr v u k m f g) (hc : Cu w' c ad len cap) (hk : Keep c wr w') : Two w1 c ad len cap w' v u k m f g :=
  ⟨own_keep h.o1 hk h.lt, own_keep h.o2 hk h.lt, h.ap, hc, h.ke.trans hk, h.lt⟩

theorem Two.app1 {w1 wr w' : World} {c : Nat} {ad : Option Addr} {len cap : Nat} {v u v' : Value} {k m n : Nat} {f g f' : Nat → Int} (h : Two w1 c ad len cap wr v u k m f g) (h0 : Cu w1 c ad len cap) (ho : w'.ownsRow w1.heap.size 3 1 v' n (ils f' n)) (hg : wr.grownBy w' v.ownBlock) (hu : v'.ownBlock = v.ownBlock ∨ v'.ownBlock = some wr.heap.size) : Hid (Two w1 c ad len cap w' v' u n m f' g) :=
  have hb : Below w1.heap.size wr w' := grown_below (Below.refl _ _) h.ke.size h.o1 hg
  ⟨ho, own_grown h.o2 hg (apart_symm h.ap), apart_symm (apart_app h.o2 (apart_symm h.ap) hu), h0.grow h.cu h.ke hb, h.ke.below hb, h.lt⟩

theorem Two.app2 {w1 wr w' : World} {c : Nat} {ad : Option Addr} {len cap : Nat} {v u v' : Value} {k m n : Nat} {f g f' : Nat → Int} (h : Two w1 c ad len cap wr v u k m f g) (h0 : Cu w1 c ad len cap) (ho : w'.ownsRow w1.heap.size 3 1 v' n (ils f' n)) (hg : wr.grownBy w' u.ownBlock) (hu : v'.ownBlock = u.ownBlock ∨ v'.ownBlock = some wr.heap.size) : Hid (Two w1 c ad len cap w' v v' k n f f') :=
  have hb : Below w1.heap.size wr w' := grown_below (Below.refl _ _) h.ke.size h.o2 hg
  ⟨own_grown h.o1 hg h.ap, ho, apart_app h.o1 h.ap hu, h0.grow h.cu h.ke hb, h.ke.below hb, h.lt⟩

theorem two_start {w1 : World} {c : Nat} {ad : Option Addr} {len cap : Nat} (h0 : Cu w1 c ad len cap) : Two w1 c ad len cap ((w1.alloc (.cells #[] 3)).alloc (.cells #[] 3)) (.slice (some ⟨w1.heap.size, 0, none⟩) 0 0) (.slice (some ⟨w1.heap.size + 1, 0, none⟩) 0 0) 0 0 (fun _ => 0) (fun _ => 0) :=
  ⟨own_below (own_empty w1 3 1) (below_one _ _), by have := own_base (own_empty (w1.alloc (.cells #[] 3)) 3 1) (below_one w1 (.cells #[] 3)).size; rw [show (w1.alloc (.cells #[] 3)).heap.size = w1.heap.size + 1 by simp] at this; exact this, .inr (by simp [Value.ownBlock]), (h0.call (below_one _ _)).call (below_one _ _), ((Keep.refl _ _).call (below_one _ _)).call (below_one _ _), h0.lt⟩

set_option maxRecDepth 20000 in
set_option maxHeartbeats 8000000 in
theorem ddrop_x {w : World} {a : Option Addr} {len cap : Nat} (hr : Row w a len) (hl : len ≤ 1048576) :
    Calls Try.prog 6 #[.slice a len cap] w fun e w' => ∃ (x : Int) (n m : Nat) (v u : Value) (f g : Nat → Int), e = .returned (.tuple #[.int .i64 x, v, u]) ∧ Below w.heap.size w w' ∧ Il w' v n f ∧ Il w' u m g ∧ n ≤ 40 ∧ m ≤ 40 := by
  obtain ⟨i0, hi, hz0, hz1, hz2⟩ := info_parts Try.info3
  have HN := new_x (cap := cap) hr (by omega)
  obtain ⟨c, hc⟩ : ∃ c, c = w.heap.size := ⟨_, rfl⟩
  have HN : Hid (Calls Try.prog 11 #[.slice a len cap] w fun e w' => e = .returned (.pointer (some ⟨c, 0, none⟩)) ∧ Cu w' c a len cap ∧ Below w.heap.size w w') := by rw [hc]; exact HN
  have hcw : w.heap.size ≤ c := by omega
  have P3 : ∀ W, Cu W c a len cap → Calls Try.prog 14 #[.pointer (some ⟨c, 0, none⟩), .slice (some ⟨W.heap.size, 0, none⟩) 3 3] (W.alloc (.cells #[.int .i64 1000, .int .i64 1001, .int .i64 (-1)] 3)) fun e w' => ∃ x : Int, e = .returned (.int .i64 x) ∧ Cu w' c a len cap ∧ Keep c W w' := fun W hW => pick_lit [1000, 1001, -1] (by decide) (by decide) hW
  have P8 : ∀ W, Cu W c a len cap → Calls Try.prog 14 #[.pointer (some ⟨c, 0, none⟩), .slice (some ⟨W.heap.size, 0, none⟩) 8 8] (W.alloc (.cells #[.int .i64 1, .int .i64 2, .int .i64 5, .int .i64 10, .int .i64 1000, .int .i64 1001, .int .i64 0, .int .i64 7] 3)) fun e w' => ∃ x : Int, e = .returned (.int .i64 x) ∧ Cu w' c a len cap ∧ Keep c W w' := fun W hW => pick_lit [1, 2, 5, 10, 1000, 1001, 0, 7] (by decide) (by decide) hW
  clear hr hc
  go_enter Try.func6, Try.ntmps6
  go_wp2_with (first
    | (go_at_call 11; refine HN.out.mono ?_; rintro e w1 ⟨rfl, h1, h2⟩; have HC1 : Hid (Cu w1 c a len cap) := h1; have HB : Hid (Below w.heap.size w w1) := h2; have T : Hid _ := two_start h1; clear h1 h2)
    | (go_at_call 13; refine (size_x a len cap 30 hl).mono ?_; rintro e w2 ⟨q0, rfl, hq0, _, hq2, hw⟩; obtain rfl := hw.symm; have hq3 := hq2 (by omega); clear hq2)
    | (go_at_call 12; refine (below_x T.out.cu _).mono ?_; rintro e w2 ⟨j0, hj0, _, hj1, rfl, hc, hk⟩; have hj2 := hj1 (by omega); have T : Hid _ := T.out.keep hc hk; clear hc hk hj1))
  go_loopw [6, 7, 8] (fun l1 l2 i wr => ∃ (q k : Nat) (f g : Nat → Int), i = .int .i64 q ∧ q + k ≤ 31 ∧ Hid (Two w1 c a len cap wr l1 l2 k k f g)) (fun _ _ i => fun _ => (intOf i).toNat)
  case atStart => exact ⟨j0.toNat, 0, _, _, by congr 1; omega, by omega, T.out⟩
  case round =>
    obtain ⟨q, k, f, g, rfl, hq, T⟩ := hrel
    by_cases h1 : 0 < q
    · go_wp2_with (first
        | (go_at_call 12; refine (below_x T.out.cu _).mono ?_; rintro e w2 ⟨x2, _, _, _, rfl, hc, hk⟩; have T : Hid _ := T.out.keep hc hk; clear hc hk)
        | (at_builtin; (fail_if_success have := MA); refine wpList_app _ rfl _ _ 24 rfl w1.heap.size 3 i0 (.int .i64 0) 1 8 Try.underlying24 hi hz0 hz1 hz2 rfl (by decide) _ _ _ rfl (T.out.call (below_one _ _)).o1 ⟨w2.heap.size, 0, none⟩ 1 1 [.int .i64 x2] rfl rfl (one_new _ _ _) (by simp [Value.oneCell']) (by unfold maxLen; omega) (by omega) (T.out.call (below_one _ _)).ke.size (by decide) ?_; intro v' w4 ho hg hu; rw [ils_app] at ho; have T := (T.out.call (below_one _ _)).app1 HC1.out ho hg (hu.imp id And.left); clear ho hg hu; have MA : Hid True := trivial)
        | (at_builtin; have Z := MA; refine wpList_app _ rfl _ _ 24 rfl w1.heap.size 3 i0 (.int .i64 0) 1 8 Try.underlying24 hi hz0 hz1 hz2 rfl (by decide) _ _ _ rfl (T.out.call (below_one _ _)).o2 ⟨w2.heap.size, 0, none⟩ 1 1 [.int .i64 x2] rfl rfl (one_new _ _ _) (by simp [Value.oneCell']) (by unfold maxLen; omega) (by omega) (T.out.call (below_one _ _)).ke.size (by decide) ?_; intro v' w4 ho hg hu; rw [ils_app] at ho; have T := (T.out.call (below_one _ _)).app2 HC1.out ho hg (hu.imp id And.left); clear ho hg hu))
      go_roundw
      case rel => exact ⟨q - 1, k + 1, _, _, by congr 1; omega, by omega, T.out⟩
      case measure => simp [intOf]; omega
    · obtain rfl : q = 0 := by omega
      have NK : k ≤ 31 := by omega
      go_wp2_with (first
        | (go_at_call 12; refine (below_x T.out.cu _).mono ?_; rintro e w2 ⟨x2, _, _, _, rfl, hc, hk⟩; have T : Hid _ := T.out.keep hc hk; clear hc hk)
        | (go_at_call 14; (with_reducible refine (P3 _ T.out.cu).mono ?_); rintro e w2 ⟨x2, rfl, hc, hk⟩; have T : Hid _ := T.out.keep hc hk; clear hc hk; have MP : Hid True := trivial)
        | (go_at_call 14; (with_reducible refine (P8 _ T.out.cu).mono ?_); rintro e w2 ⟨x2, rfl, hc, hk⟩; have T : Hid _ := T.out.keep hc hk; clear hc hk)
        | (at_builtin; (fail_if_success have := MA); refine wpList_app _ rfl _ _ 24 rfl w1.heap.size 3 i0 (.int .i64 0) 1 8 Try.underlying24 hi hz0 hz1 hz2 rfl (by decide) _ _ _ rfl (T.out.call (below_one _ _)).o1 ⟨w2.heap.size, 0, none⟩ 1 1 [.int .i64 x2] rfl rfl (one_new _ _ _) (by simp [Value.oneCell']) (by unfold maxLen; omega) (by omega) (T.out.call (below_one _ _)).ke.size (by decide) ?_; intro v' w4 ho hg hu; rw [ils_app] at ho; have T := (T.out.call (below_one _ _)).app1 HC1.out ho hg (hu.imp id And.left); clear ho hg hu; have MA : Hid True := trivial)
        | (at_builtin; have Z := MA; refine wpList_app _ rfl _ _ 24 rfl w1.heap.size 3 i0 (.int .i64 0) 1 8 Try.underlying24 hi hz0 hz1 hz2 rfl (by decide) _ _ _ rfl (T.out.call (below_one _ _)).o2 ⟨w4.heap.size, 0, none⟩ 1 1 [.int .i64 0] rfl rfl (one_new _ _ _) (by simp [Value.oneCell']) (by unfold maxLen; omega) (by omega) (T.out.call (below_one _ _)).ke.size (by decide) ?_; intro v' w4 ho hg hu; rw [ils_app] at ho; have T := (T.out.call (below_one _ _)).app2 HC1.out ho hg (hu.imp id And.left); clear ho hg hu)
        | (at_builtin; (fail_if_success have := MP); refine wpList_app _ rfl _ _ 24 rfl w1.heap.size 3 i0 (.int .i64 0) 1 8 Try.underlying24 hi hz0 hz1 hz2 rfl (by decide) _ _ _ rfl (T.out.call (below_one _ _)).o2 ⟨w2.heap.size, 0, none⟩ 1 1 [.int .i64 1] rfl rfl (one_new _ _ _) (by simp [Value.oneCell']) (by unfold maxLen; omega) (by omega) (T.out.call (below_one _ _)).ke.size (by decide) ?_; intro v' w4 ho hg hu; rw [ils_app] at ho; have T := (T.out.call (below_one _ _)).app2 HC1.out ho hg (hu.imp id And.left); clear ho hg hu))
      all_goals
        go_ret3
        exact ⟨_, _, _, _, _, _, _, rfl, Below.keep HB.out T.out.ke hcw, il_of_own T.out.o1, il_of_own T.out.o2, by omega, by omega⟩

end Go.Proofs.Ytjijkfhpiefheaa

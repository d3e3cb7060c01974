/- The law of Convert: both sides at every argument. -/
import Derived.Test.YtfodpnbhcdkmnaaDoorV2
namespace Go.Proofs.YtfodpnbhcdkmnaaDoor
open Go.RowKit

theorem rndF_small (p t h mode E : Int) (n : Bool) (M : Nat) (b : Bool) : 0 ≤ rndF p t h mode E n M b ∧ rndF p t h mode E n M b ≤ 100 := by
  unfold rndF fOf
  repeat' split
  all_goals decide

/-- Both sides of Convert answer the same. -/
theorem conv_both (f g mode x : Int) (hx0 : 0 ≤ x) (hx1 : x < 18446744073709551616) :
    ∃ V F : Int, (∀ w, Calls Tryd.prog 20 #[.int .i64 f, .int .i64 g, .int .i64 mode, .int .u64 x] w fun e w' => e = .returned (.tuple #[.int .u64 V, .int .i64 F]) ∧ Below w.heap.size w w') ∧
      (∀ w, Tabs w → Calls Tryd.prog 21 #[.int .i64 f, .int .i64 g, .int .i64 mode, .int .u64 x] w fun e w' => e = .returned (.tuple #[.int .u64 V, .int .i64 F]) ∧ Below w.heap.size w w') := by
  have hm : ∃ mo : Bool, (∀ w, Calls Tryd.prog 23 #[.int .i64 mode] w fun e w' => e = .returned (.bool mo) ∧ w' = w) ∧ (mo = true ↔ 1 ≤ mode ∧ mode ≤ 5) := by
    by_cases h : 1 ≤ mode ∧ mode ≤ 5
    · exact ⟨true, fun w => mode_yes mode h.1 h.2 w, by simpa using h⟩
    · exact ⟨false, fun w => mode_no mode (by omega) w, by simpa using h⟩
  obtain ⟨mo, hmo, hmi⟩ := hm
  have hg : ∃ (ok : Bool) (a b c : Int), (∀ w, Calls Tryd.prog 22 #[.int .i64 g] w fun e w' => e = .returned (.tuple #[.int .i64 a, .int .i64 b, .int .i64 c, .bool ok]) ∧ w' = w) ∧ (ok = true ↔ 1 ≤ g ∧ g ≤ 3) := by
    by_cases h : g < 1 ∨ 3 < g
    · exact ⟨false, _, _, _, fun w => l1Form_no g w h, by simp; omega⟩
    · obtain ⟨wd, p, t, S, D, h', q, hG⟩ := frm_of g h
      exact ⟨true, _, _, _, fun w => l1Form_any hG.form w, by simp; omega⟩
  obtain ⟨ok, a, b, c, hok, hoi⟩ := hg
  rcases both_no f x hx0 hx1 with ⟨hA, hB⟩ | ⟨wd, p, t, S, D, h, q, hF, hD⟩
  · exact ⟨0, 0, fun w => sconv_no f g mode x w a b c ok false mo hok hA hmo (by simp), fun w hs => conv_no f g mode x w false (hB w hs.shp) (Or.inr (Or.inr rfl))⟩
  · have hA : ∀ w, Calls Tryd.prog 45 #[.int .i64 f, .int .u64 x] w fun e w' => e = .returned (.bool true) ∧ w' = w := fun w => by
      have := l1Are_any hF.form x hx0 hx1 w
      rwa [div_ok hx0 hD] at this
    have hB : ∀ w, Shp w → Calls Tryd.prog 47 #[.int .i64 f, .int .u64 x] w fun e w' => e = .returned (.bool true) ∧ w' = w := fun w hs => by
      have := isBits_any hF.form x w hs
      rwa [div_ok hx0 hD] at this
    by_cases hgood : (1 ≤ g ∧ g ≤ 3) ∧ 1 ≤ mode ∧ mode ≤ 5
    · obtain ⟨⟨g1, g3⟩, m1, m5⟩ := hgood
      obtain rfl : ok = true := hoi.2 ⟨g1, g3⟩
      obtain rfl : mo = true := hmi.2 ⟨m1, m5⟩
      obtain ⟨wd', p', t', S', D', h', q', hG⟩ := frm_of g (by omega)
      obtain ⟨K, E, M, nb, hu1, hu2, hK, hK1, _, h3, _⟩ := unpack_told hF x hx0 hD
      have hFl : sigOf t h S x = true → pkF p' t' h' mode K E nb M = 0 := fun hs => by
        have : K = 3 := by
          unfold sigOf at hs
          rw [h3]
          simp at hs
          exact hs.1
        subst this
        rfl
      have hFb : 0 ≤ pkF p' t' h' mode K E nb M ∧ pkF p' t' h' mode K E nb M ≤ 100 := by
        unfold pkF
        split
        · exact rndF_small _ _ _ _ _ _ _ _
        · decide
      refine ⟨pkV p' t' h' S' mode K E nb M, if sigOf t h S x then 16 else pkF p' t' h' mode K E nb M, fun w => ?_, fun w hs => ?_⟩
      · exact sconv_yes f g mode x K E M _ _ nb (sigOf t h S x) w a b c hok hA hmo hu1 (fun w => spack_any hG mode K E nb M w m1 m5 hK (fun hk => by have := hK1 hk; omega)) (fun w => signal_any hF x w hx0 hD)
      · have := conv_yes hF g mode x K E M _ _ nb (sigOf t h S x) w hs.shp g1 g3 m1 m5 (hB w hs.shp) (hu2 w hs.shp hs.brj) (fun w hs => packNum_any hG mode K E nb M w hs (fun hk => by have := hK1 hk; omega)) (fun w => isSig_any hF x w hx0 hD) hFb.1 hFb.2
        cases hsg : sigOf t h S x
        · rw [hsg] at this
          simpa using this
        · rw [hsg, hFl hsg] at this
          simpa using this
    · refine ⟨0, 0, fun w => sconv_no f g mode x w a b c ok true mo hok hA hmo ?_, fun w hs => conv_no f g mode x w true (hB w hs.shp) (by omega)⟩
      cases ok
      · simp
      · cases mo
        · simp
        · exact absurd ⟨hoi.1 rfl, hmi.1 rfl⟩ hgood

set_option maxHeartbeats 1000000 in
theorem walk_convert0 (f g mode x V F : Int) (w : World) (hs : Tabs w)
    (hA : ∀ w, Calls Tryd.prog 20 #[.int .i64 f, .int .i64 g, .int .i64 mode, .int .u64 x] w fun e w' => e = .returned (.tuple #[.int .u64 V, .int .i64 F]) ∧ Below w.heap.size w w')
    (hB : ∀ w, Tabs w → Calls Tryd.prog 21 #[.int .i64 f, .int .i64 g, .int .i64 mode, .int .u64 x] w fun e w' => e = .returned (.tuple #[.int .u64 V, .int .i64 F]) ∧ Below w.heap.size w w') :
    Calls Tryd.prog 8 #[.int .i64 f, .int .i64 g, .int .i64 mode, .int .u64 x] w fun e w' => e = .returned (.bool true) ∧ Below w.heap.size w w' := by
  have hA' : Calls Tryd.prog 20 #[.int .i64 f, .int .i64 g, .int .i64 mode, .int .u64 x] w fun e w' => e = .returned (.tuple #[.int .u64 V, .int .i64 F]) ∧ Tabs w' ∧ Below w.heap.size w w' := (hA w).mono (by rintro e w' ⟨rfl, h⟩; exact ⟨rfl, ⟨shp_below hs.shp (shp_pos hs.shp) h, Brj.below hs.brj h⟩, h⟩)
  clear hA
  go_enter Tryd.func8, Tryd.ntmps8
  go_wp2_with (first | (go_at_call 20; refine hA'.mono ?_; rintro e w1 ⟨rfl, t1, hb1⟩) | (go_at_call 21; refine (hB _ t1).mono ?_; rintro e w2 ⟨rfl, hb2⟩))
  go_ret
  exact ⟨rfl, bstep hb1 hb2⟩

theorem walk_convert (f g mode x : Int) (w : World) (hs : Tabs w) (h0 : 0 ≤ x) (h1 : x < 18446744073709551616) :
    Calls Tryd.prog 8 #[.int .i64 f, .int .i64 g, .int .i64 mode, .int .u64 x] w fun e w' => e = .returned (.bool true) ∧ Below w.heap.size w w' := by
  obtain ⟨V, F, hA, hB⟩ := conv_both f g mode x h0 h1
  exact walk_convert0 f g mode x V F w hs hA hB
end Go.Proofs.YtfodpnbhcdkmnaaDoor

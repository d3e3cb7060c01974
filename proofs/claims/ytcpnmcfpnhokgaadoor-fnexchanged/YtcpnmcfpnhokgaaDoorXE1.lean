/- What the calls of the law of exchanged arguments answer. -/
import Derived.Test.YtcpnmcfpnhokgaaDoorXE0
import Derived.Test.YtcpnmcfpnhokgaaDoorHX2
import Derived.Test.YtcpnmcfpnhokgaaDoorX3
import Derived.Test.YtcpnmcfpnhokgaaDoorHC1
namespace Go.Proofs.YtcpnmcfpnhokgaaDoor
open Go.RowKit

theorem frm_same {f wd p t S D h q wd' p' t' S' D' h' q' : Int} (hF : Frm f wd p t S D h q) (hG : Frm f wd' p' t' S' D' h' q') : D = D' := by
  rcases hF with ⟨rfl, _, _, _, _, rfl, _⟩ | ⟨rfl, _, _, _, _, rfl, _⟩ | ⟨rfl, _, _, _, _, rfl, _⟩ <;> rcases hG with ⟨e, _, _, _, _, rfl, _⟩ | ⟨e, _, _, _, _, rfl, _⟩ | ⟨e, _, _, _, _, rfl, _⟩ <;> omega

/-- What both Unpacks answer at any word. -/
theorem unpack_ans (f x : Int) (hx0 : 0 ≤ x) (hx1 : x < 18446744073709551616) :
    (Ans 11 #[.int .i64 f, .int .u64 x] (.agg #[.int .i64 4, .bool false, .int .i64 0, .int .u64 0]) ∧ Ans 12 #[.int .i64 f, .int .u64 x] (.agg #[.int .i64 4, .bool false, .int .i64 0, .int .u64 0])) ∨
      ∃ wd p t S D h q K E M n, Frm f wd p t S D h q ∧ x < D ∧ Up f p t S D h x K E M n := by
  rcases both_no f x hx0 hx1 with ⟨hA, hB⟩ | ⟨wd, p, t, S, D, h, q, hF, hD⟩
  · exact Or.inl ⟨fun w hs => unpack_bad f x w fun o => hB _ (shp_below hs.shp (shp_pos hs.shp) (below_one o)), fun w _ => sunpack_none f x hA w⟩
  · obtain ⟨K, E, M, n, u⟩ := unpack_whole hF x hx0 hD
    exact Or.inr ⟨wd, p, t, S, D, h, q, K, E, M, n, hF, hD, u⟩

theorem facE_of (f mode x y : Int) (hx0 : 0 ≤ x) (hx1 : x < 18446744073709551616) (hy0 : 0 ≤ y) (hy1 : y < 18446744073709551616) : ∃ V F U H K E M n, FacE f mode x y V F U H K E M n := by
  by_cases hg : Good2 f mode x y
  · obtain ⟨wd, p, t, S, D, h, q, hF, m1, m5, xD, yD⟩ := hg
    obtain ⟨ka, ea, A, na, ux⟩ := unpack_whole hF x hx0 xD
    obtain ⟨kb, eb, B, nb, uy⟩ := unpack_whole hF y hy0 yD
    have last : 3 ≤ kb ∨ (kb < 3 ∧ ∃ z F' s r : Int, Ans 13 #[.int .i64 f, .int .i64 1, .agg #[.int .i64 kb, .bool (!nb), .int .i64 eb, .int .u64 (B : Int)]] (.tuple #[.int .u64 z, .int .i64 F']) ∧
        Ans 14 #[.int .i64 f, .int .i64 mode, .int .u64 x, .int .u64 y] (.tuple #[.int .u64 s, .int .i64 r]) ∧ Ans 8 #[.int .i64 f, .int .i64 mode, .int .u64 x, .int .u64 z] (.tuple #[.int .u64 s, .int .i64 r])) := by
      have := uy.k
      by_cases h3 : kb = 3
      · exact Or.inl (by omega)
      · obtain ⟨F', hp⟩ := pack_flip hF uy h3
        obtain ⟨s, r, h1, h2⟩ := sub_add hF mode m1 m5 ux uy h3
        exact Or.inr ⟨by omega, flp S y, F', s, r, fun w hs => hp w hs.shp, h1, h2⟩
    by_cases hn : ka = 3 ∨ kb = 3
    · have a1 := add_nan hF mode m1 m5 ux uy hn
      have a2 := (add_nan hF mode m1 m5 uy ux hn.symm).2
      have b1 := (mul_nan hF mode m1 m5 ux uy hn).2
      have b2 := (mul_nan hF mode m1 m5 uy ux hn.symm).2
      rw [nfg_swap t h S y x] at a2 b2
      exact ⟨_, _, _, _, kb, eb, B, nb, a1.2, a2, b1, b2, fun w _ => a1.1 w, fun w hs => uy.impl w hs.shp hs.brj, fun w _ => uy.spec w, last⟩
    · have n1 : ka ≠ 3 := fun e => hn (Or.inl e)
      have n2 : kb ≠ 3 := fun e => hn (Or.inr e)
      have a1 := add_at hF mode m1 m5 ux uy n1 n2
      have a2 := (add_at hF mode m1 m5 uy ux n2 n1).2
      have b1 := (mul_at hF mode m1 m5 ux uy n1 n2).2
      have b2 := (mul_at hF mode m1 m5 uy ux n2 n1).2
      rw [← (add_swap p t h S mode ka ea kb eb na nb A B).1, ← (add_swap p t h S mode ka ea kb eb na nb A B).2] at a2
      rw [← (ml_swap p t h S mode ka ea kb eb na nb A B).1, ← (ml_swap p t h S mode ka ea kb eb na nb A B).2] at b2
      exact ⟨_, _, _, _, kb, eb, B, nb, a1.2, a2, b1, b2, fun w _ => a1.1 w, fun w hs => uy.impl w hs.shp hs.brj, fun w _ => uy.spec w, last⟩
  · have hg' : ¬ Good2 f mode y x := fun e => hg e.swap
    have a1 := add_bad hx0 hx1 hy0 hy1 hg
    have a2 := (add_bad hy0 hy1 hx0 hx1 hg').2
    have b1 := (mul_bad hx0 hx1 hy0 hy1 hg).2
    have b2 := (mul_bad hy0 hy1 hx0 hx1 hg').2
    rcases unpack_ans f y hy0 hy1 with ⟨u1, u2⟩ | ⟨wd, p, t, S, D, h, q, kb, eb, B, nb, hF, hD, uy⟩
    · exact ⟨0, 0, 0, 0, 4, 0, 0, false, a1.2, a2, b1, b2, fun w _ => a1.1 w, u1, u2, Or.inl (by decide)⟩
    · refine ⟨0, 0, 0, 0, kb, eb, B, nb, a1.2, a2, b1, b2, fun w _ => a1.1 w, fun w hs => uy.impl w hs.shp hs.brj, fun w _ => uy.spec w, ?_⟩
      have := uy.k
      by_cases h3 : kb = 3
      · exact Or.inl (by omega)
      · obtain ⟨F', hp⟩ := pack_flip hF uy h3
        obtain ⟨z1, z2, z3, z4, z5, z6⟩ := flip_any hF y uy.x0 uy.xD
        have hg2 : ¬ Good2 f mode x (flp S y) := by
          rintro ⟨wd', p', t', S', D', h', q', hG, g1, g5, gx, gy⟩
          have := frm_same hF hG
          exact hg ⟨wd', p', t', S', D', h', q', hG, g1, g5, gx, by omega⟩
        exact Or.inr ⟨by omega, flp S y, F', 0, 0, fun w hs => hp w hs.shp, fun w hs => sub_bad hx0 hx1 hy0 hy1 hg w hs, (add_bad hx0 hx1 z2 (by omega) hg2).2⟩

theorem frm2 : Frm 2 32 24 127 2147483648 4294967296 8388608 256 := Or.inr (Or.inl ⟨rfl, rfl, rfl, rfl, rfl, rfl, rfl, rfl⟩)

theorem one_two : Ans 8 #[.int .i64 2, .int .i64 1, .int .u64 1065353216, .int .u64 1065353216] (.tuple #[.int .u64 1073741824, .int .i64 (addF 24 127 8388608 1 1 0 false 1 1 0 false 1)]) := by
  have u : Up 2 24 127 2147483648 4294967296 8388608 1065353216 1 0 1 false := up_one frm2
  have := (add_at frm2 1 (by decide) (by decide) u u (by decide) (by decide)).2
  rw [two_at frm2] at this
  exact this
end Go.Proofs.YtcpnmcfpnhokgaaDoor

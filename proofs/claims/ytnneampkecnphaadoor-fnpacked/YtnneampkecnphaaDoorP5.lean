/- What both sides' Unpack tells, with its packing. -/
import Derived.Test.YtnneampkecnphaaDoorP4
import Derived.Test.YtnneampkecnphaaDoorP3
namespace Go.Proofs.YtnneampkecnphaaDoor
open Go.RowKit

theorem laidp_drew {B : Nat} {wd p t : Int} {n : Bool} {w W : World} (h : Laidp B wd p t n w W) (o : Obj) (hB : B + 1 < W.heap.size) : Laidp B wd p t n w (W.drew.alloc o) := by
  obtain ⟨a1, a2, a3, a4, a5⟩ := h
  refine ⟨?_, ?_, ?_, ?_, (a5.drew).alloc (by show B ≤ W.heap.size; omega) _⟩
  · rw [World.cell?_alloc_past _ _ _ (by show B + 1 < W.heap.size; exact hB)]; exact a1
  · rw [World.cell?_alloc_past _ _ _ (by show B + 1 < W.heap.size; exact hB)]; exact a2
  · rw [World.cell?_alloc_past _ _ _ (by show B + 1 < W.heap.size; exact hB)]; exact a3
  · rw [World.cell?_alloc_past _ _ _ (by show B < W.heap.size; omega)]; exact a4

theorem packNum_inf {f wd p t S D h q : Int} (hF : Frm f wd p t S D h q) (mode E M : Int) (n : Bool) (w : World) (hs : Shp w) :
    Calls Tryd.prog 20 #[.int .i64 f, .int .i64 mode, .agg #[.int .i64 2, .bool n, .int .i64 E, .int .u64 M]] w fun e w' => e = .returned (.tuple #[.int .u64 (if n then (2 * t + 1) * h + S else (2 * t + 1) * h), .int .i64 0]) ∧ Below w.heap.size w w' := by
  refine packNum_inf1 hF mode E M ((2 * t + 1) * h) _ n w hs (shp_pos hs) (fun W hL => ?_) (fun W hb => ?_)
  · refine (infinity_any hF W.drew).mono ?_
    rintro e w' ⟨rfl, rfl⟩
    exact ⟨rfl, laidp_drew hL _ (World.block_lt_of_cell? W _ hL.1)⟩
  · refine (signed_any hF n ((2 * t + 1) * h) W (by rcases hF with ⟨rfl, rfl, rfl, rfl, rfl, rfl, rfl, rfl⟩ | ⟨rfl, rfl, rfl, rfl, rfl, rfl, rfl, rfl⟩ | ⟨rfl, rfl, rfl, rfl, rfl, rfl, rfl, rfl⟩ <;> decide) (by rcases hF with ⟨rfl, rfl, rfl, rfl, rfl, rfl, rfl, rfl⟩ | ⟨rfl, rfl, rfl, rfl, rfl, rfl, rfl, rfl⟩ | ⟨rfl, rfl, rfl, rfl, rfl, rfl, rfl, rfl⟩ <;> decide)).mono ?_
    rintro e w' ⟨rfl, hb2⟩
    exact ⟨rfl, hb.trans (hb2.mono hb.size)⟩

theorem packs_inf {f wd p t S D h q : Int} (hF : Frm f wd p t S D h q) (x : Int) (hx0 : 0 ≤ x) (hx1 : x < D) (hz : sz S x = (2 * t + 1) * h) : Packs f 2 0 0 (x / S == 1) x := by
  intro mode w hm0 hm1 hs
  have hf : 1 ≤ f ∧ f ≤ 3 := by rcases hF with ⟨rfl, _⟩ | ⟨rfl, _⟩ | ⟨rfl, _⟩ <;> decide
  have hv : (if (x / S == 1) = true then (2 * t + 1) * h + S else (2 * t + 1) * h) = x := by
    rw [← hz]
    unfold sz
    rcases hF with ⟨rfl, rfl, rfl, rfl, rfl, rfl, rfl, rfl⟩ | ⟨rfl, rfl, rfl, rfl, rfl, rfl, rfl, rfl⟩ | ⟨rfl, rfl, rfl, rfl, rfl, rfl, rfl, rfl⟩
    all_goals
      simp only [beq_iff_eq]
      repeat' split
      all_goals omega
  refine pack_any f mode 2 0 0 x (x / S == 1) w hs hf.1 hf.2 hm0 hm1 (Or.inl rfl) fun w hs => ?_
  have := packNum_inf hF mode 0 0 (x / S == 1) w hs
  rwa [hv] at this

/-- Both sides of Unpack answer the same four fields, which are packed to the bits again where they are no NaN. -/
theorem unpack_packs (f x : Int) (hx0 : 0 ≤ x) (hx1 : x < 18446744073709551616) :
    ∃ (K E M : Int) (nb : Bool), (∀ w, Calls Tryd.prog 7 #[.int .i64 f, .int .u64 x] w fun e w' => e = .returned (.agg #[.int .i64 K, .bool nb, .int .i64 E, .int .u64 M]) ∧ Below w.heap.size w w') ∧
      (∀ w, Shp w → Brj w → Calls Tryd.prog 6 #[.int .i64 f, .int .u64 x] w fun e w' => e = .returned (.agg #[.int .i64 K, .bool nb, .int .i64 E, .int .u64 M]) ∧ Below w.heap.size w w') ∧ (3 ≤ K ∨ (K < 3 ∧ Packs f K E M nb x)) := by
  rcases both_no f x hx0 hx1 with ⟨hA, hB⟩ | ⟨wd, p, t, S, D, h, q, hF, hD⟩
  · exact ⟨4, 0, 0, false, fun w => sunpack_none f x hA w, fun w hs _ => unpack_bad f x w fun o => hB _ (shp_below hs (shp_pos hs) (below_one o)), Or.inl (by decide)⟩
  obtain ⟨hsz, hX0, hX1, hf0, hf1⟩ := sz_of hF x hx0 hD
  obtain ⟨ha, hn⟩ := and_any hF.form x hx0 hD
  have hn' : bits .andNot .u64 x S = sz S x := hn
  have hnb : ((if x < S then (0 : Int) else S) != 0) = (x / S == 1) := by
    rcases hF with ⟨rfl, rfl, rfl, rfl, rfl, rfl, rfl, rfl⟩ | ⟨rfl, rfl, rfl, rfl, rfl, rfl, rfl, rfl⟩ | ⟨rfl, rfl, rfl, rfl, rfl, rfl, rfl, rfl⟩
    all_goals
      split
      · have e : x / _ = 0 := Int.ediv_eq_zero_of_lt hx0 ‹_›
        rw [e]; rfl
      · rw [Bool.eq_iff_iff]
        simp
        omega
  have hszlt : sz S x < D ∧ 0 ≤ sz S x := by
    unfold sz
    rcases hF with ⟨rfl, rfl, rfl, rfl, rfl, rfl, rfl, rfl⟩ | ⟨rfl, rfl, rfl, rfl, rfl, rfl, rfl, rfl⟩ | ⟨rfl, rfl, rfl, rfl, rfl, rfl, rfl, rfl⟩ <;> split <;> omega
  have hi : 0 < (2 * t + 1) * h ∧ 0 < h ∧ h < 18446744073709551616 := by
    rcases hF with ⟨rfl, rfl, rfl, rfl, rfl, rfl, rfl, rfl⟩ | ⟨rfl, rfl, rfl, rfl, rfl, rfl, rfl, rfl⟩ | ⟨rfl, rfl, rfl, rfl, rfl, rfl, rfl, rfl⟩ <;> decide
  by_cases hX : x / h % q = 2 * t + 1
  · by_cases hf : x % h = 0
    · have e1 : sz S x = (2 * t + 1) * h := by rw [hsz, hX, hf]; omega
      refine ⟨2, 0, 0, _, fun w => sunpack_inf hF x w hx0 hD hX (by simpa using hf), fun w hs _ => ?_, Or.inr ⟨by decide, packs_inf hF x hx0 hD e1⟩⟩
      exact unpack_inf hF x (sz S x) _ _ w hs hx0 hD ha hnb hn' (by simp; omega) (by simpa using e1)
    · have e1 : (2 * t + 1) * h < sz S x := by rw [hsz, hX]; omega
      refine ⟨3, 0, 0, false, fun w => sunpack_nan hF x w hx0 hD hX (by simpa using hf), fun w hs _ => ?_, Or.inl (by decide)⟩
      exact unpack_nan hF x (sz S x) _ _ w hs hx0 hD ha rfl hn' (by simp; omega) (by simp; omega) e1
  · by_cases hX2 : x / h % q = 0
    · by_cases hf : x % h = 0
      · have e1 : sz S x = 0 := by rw [hsz, hX2, hf]; omega
        refine ⟨0, 0, 0, _, fun w => sunpack_zero hF x w hx0 hD hX2 (by simpa using hf), fun w hs _ => ?_, Or.inr ⟨by decide, packs_zero hF x hx0 hD e1⟩⟩
        exact unpack_zero hF x (sz S x) _ _ w hs hx0 hD ha hnb hn' (by simpa using e1)
      · have e1 : sz S x = x % h := by rw [hsz, hX2]; omega
        have e2 : x % h < (2 * t + 1) * h := by
          rcases hF with ⟨rfl, rfl, rfl, rfl, rfl, rfl, rfl, rfl⟩ | ⟨rfl, rfl, rfl, rfl, rfl, rfl, rfl, rfl⟩ | ⟨rfl, rfl, rfl, rfl, rfl, rfl, rfl, rfl⟩ <;> omega
        obtain ⟨man, k, ht, ho⟩ := tz_exists (x % h) (by omega) (by omega)
        have ht2 : 0 < 2 * t := by rcases hF with ⟨_, _, _, rfl, _⟩ | ⟨_, _, _, rfl, _⟩ | ⟨_, _, _, rfl, _⟩ <;> decide
        refine ⟨1, 2 - t - p + 0 + k, man, (x / S == 1), fun w => (sunpack_low hF x w hx0 hD hX2 (by simpa using hf)).mono ?_, fun w hs hb => ?_, Or.inr ⟨by decide, packs_fin hF x hx0 hD _ man (x % h) 0 k ht rfl (by decide) ht2 (by omega) (Or.inl rfl) (by omega) (by omega)⟩⟩
        · rintro e w' ⟨k', man', ht', ho', he, hb⟩
          obtain ⟨rfl, rfl⟩ := ht.unique ht' ho ho'
          rw [Int.add_zero]
          exact ⟨he, hb⟩
        · refine unpack_fin hF x (sz S x) _ _ w hs hx0 hD ha hnb hn' (by simp; omega) (by simp; omega) (by omega) _ _ hb fun w hb => ?_
          rw [e1]
          exact finite_low hF _ _ man k w (by omega) (by omega) ht ho hb
    · have e3 : sz S x / h = x / h % q ∧ sz S x % h = x % h ∧ h ≤ sz S x ∧ sz S x < (2 * t + 1) * h := by
        rw [hsz]
        rcases hF with ⟨rfl, rfl, rfl, rfl, rfl, rfl, rfl, rfl⟩ | ⟨rfl, rfl, rfl, rfl, rfl, rfl, rfl, rfl⟩ | ⟨rfl, rfl, rfl, rfl, rfl, rfl, rfl, rfl⟩ <;> omega
      have e4 : x % h + h < 18446744073709551616 := by
        rcases hF with ⟨rfl, rfl, rfl, rfl, rfl, rfl, rfl, rfl⟩ | ⟨rfl, rfl, rfl, rfl, rfl, rfl, rfl, rfl⟩ | ⟨rfl, rfl, rfl, rfl, rfl, rfl, rfl, rfl⟩ <;> omega
      obtain ⟨man, k, ht, ho⟩ := tz_exists (x % h + h) (by omega) e4
      have e6 : (sz S x / h - 1) * h + (x % h + h) = sz S x := by
        rw [e3.1, hsz]
        rcases hF with ⟨rfl, rfl, rfl, rfl, rfl, rfl, rfl, rfl⟩ | ⟨rfl, rfl, rfl, rfl, rfl, rfl, rfl, rfl⟩ | ⟨rfl, rfl, rfl, rfl, rfl, rfl, rfl, rfl⟩ <;> omega
      refine ⟨1, 2 - t - p + (sz S x / h - 1) + k, man, (x / S == 1), fun w => (sunpack_norm hF x w hx0 hD hX2 hX).mono ?_, fun w hs hb => ?_, Or.inr ⟨by decide, packs_fin hF x hx0 hD _ man (x % h + h) (sz S x / h - 1) k ht rfl (by omega) (by omega) (by omega) (Or.inr (by omega)) (by have := e6; omega) e6⟩⟩
      · rintro e w' ⟨k', man', ht', ho', he, hb⟩
        obtain ⟨rfl, rfl⟩ := ht.unique ht' ho ho'
        rw [e3.1]
        have e5 : 2 - t - p + (x / h % q - 1) + (k : Int) = x / h % q - t - p + 1 + k := by omega
        rw [e5]
        exact ⟨he, hb⟩
      · refine unpack_fin hF x (sz S x) _ _ w hs hx0 hD ha hnb hn' (by simp; omega) (by simp; omega) (by omega) _ _ hb fun w hb => ?_
        have ht2 : Tz (sz S x % h + h) man k := by rw [e3.2.1]; exact ht
        exact finite_norm hF _ _ man k w e3.2.2.1 hszlt.1 ht2 ho hb
end Go.Proofs.YtnneampkecnphaaDoor

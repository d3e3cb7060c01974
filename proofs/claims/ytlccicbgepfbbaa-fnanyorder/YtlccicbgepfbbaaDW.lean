/- A wire, drawn. -/
import Derived.Test.YtlccicbgepfbbaaDR
import Derived.BigRegion
namespace Go.Proofs.Ytlccicbgepfbbaa
open Go.RowKit

theorem merge4 {goal : World → Nat → Int → Int → Prop} {G0 : Prop} (F : World → Nat → Int → Prop) (tree : (∀ X G u gi, F X G gi → goal X G u gi) → G0) (rest : ∀ X G u gi, F X G gi → goal X G u gi) : G0 := tree rest

set_option maxRecDepth 20000 in
set_option maxHeartbeats 8000000 in
theorem wire_x {w : World} {c nt tc : Nat} {a : Option Addr} {len cap B tg : Nat} {ts : Nat → Nat} (h0 : Dt w c a len cap B tg nt tc ts w) (hB : c < B) (ht : ∀ i, i < nt → 1 ≤ ts i ∧ ts i ≤ 6) (i j : Nat) (hi : i < nt) (hj : j < nt) (_ : nt ≤ 1000) :
    Calls Try.prog 66 #[.pointer (some ⟨c, 0, none⟩), .slice (some ⟨tg, 0, none⟩) nt tc, .int .i64 (i : Int), .int .i64 (j : Int)] w fun e w' => ∃ s : Wr, e = .returned s.v ∧ Dt w c a len cap B tg nt tc ts w' := by
  have H0 : Hid (Dt w c a len cap B tg nt tc ts w) := h0
  have hcw : c < w.heap.size := h0.cu.lt
  have HD : Hid (Dt w c a len cap B tg nt tc ts (w.alloc (.cells #[.int .i64 0, .int .i64 0, .int .i64 0, .int .i64 0, .int .i64 0] 31))) := h0.call (below_one _ _)
  have RR : Hid (R5 (w.alloc (.cells #[.int .i64 0, .int .i64 0, .int .i64 0, .int .i64 0, .int .i64 0] 31)) w.heap.size 0 0 0 0 0) := R5.new _ _ _ _ _ _ _
  have hti := ht i hi
  have htj := ht j hj
  obtain ⟨p, hp⟩ : ∃ p, p = ts i := ⟨_, rfl⟩
  obtain ⟨q, hq⟩ : ∃ q, q = ts j := ⟨_, rfl⟩
  have HCI : Hid (∀ X, Dt w c a len cap B tg nt tc ts X → X.cell? ⟨tg, i, none⟩ = some (.int .i64 (p : Int)) ∧ X.cell? ⟨tg, j, none⟩ = some (.int .i64 (q : Int))) := fun X hX => by rw [hp, hq]; exact ⟨hX.cell hi, hX.cell hj⟩
  rw [← hp] at hti
  rw [← hq] at htj
  have hg1 : 1 ≤ Nat.gcd p q := Nat.gcd_pos_of_pos_left _ (by omega)
  have hg2 : Nat.gcd p q ≤ 6 := Nat.le_trans (Nat.gcd_le_left _ (by omega)) (by omega)
  have ig := fun W => sGcd_any p q (by omega) (by omega) W
  obtain ⟨g, hg⟩ : ∃ g, g = Nat.gcd p q := ⟨_, rfl⟩
  rw [← hg] at hg1 hg2 ig
  clear h0 ht hp hq hg
  go_enter Try.func66, Try.ntmps66
  go_upto_region 1 with fail
  generalize w.alloc (.cells #[.int .i64 0, .int .i64 0, .int .i64 0, .int .i64 0, .int .i64 0] 31) = x1 at HD RR ⊢
  refine wp_region_any (by kernel_rfl) ?_
  change wpAny _ _ _ _ _ _ _ (World.drew _)
  have HD : Hid (Dt w c a len cap B tg nt tc ts x1.drew) := HD.out.drew
  have RR : Hid (R5 x1.drew w.heap.size 0 0 0 0 0) := RR.out.drew
  generalize x1.drew = x1 at HD RR ⊢
  refine wpI_any (I := fun X => Dt w c a len cap B tg nt tc ts X) _ _ _ _ ?_
  refine wpI_take (i := 0) (v := ?_) rfl (by kernel_rfl) (by kernel_rfl) (by kernel_rfl) (fun _ _ _ h => h) ⟨by rfl, ?_⟩ ?_
  rotate_left
  · intro X hI; obtain ⟨q1, q2⟩ := HCI.out X hI; go_simp; try go_bits
    try rw [if_pos (by omega)]
    try rw [if_neg (by omega)]
    try with_reducible rfl
  refine wpI_take (i := 1) (v := ?_) rfl (by kernel_rfl) (by kernel_rfl) (by kernel_rfl) (fun _ _ _ h => h) ⟨by rfl, ?_⟩ ?_
  rotate_left
  · intro X hI; obtain ⟨q1, q2⟩ := HCI.out X hI; go_simp; try go_bits
    try rw [if_pos (by omega)]
    try rw [if_neg (by omega)]
    try with_reducible rfl
  refine wpI_take (i := 2) (v := ?_) rfl (by kernel_rfl) (by kernel_rfl) (by kernel_rfl) (fun _ _ _ h => h) ⟨by rfl, ?_⟩ ?_
  rotate_left
  · intro X hI; obtain ⟨q1, q2⟩ := HCI.out X hI; go_simp; try go_bits
    try rw [if_pos (by omega)]
    try rw [if_neg (by omega)]
    try with_reducible rfl
  refine wpI_take (i := 3) (v := ?_) rfl (by kernel_rfl) (by kernel_rfl) (by kernel_rfl) (fun _ _ _ h => h) ⟨by rfl, ?_⟩ ?_
  rotate_left
  · intro X hI; obtain ⟨q1, q2⟩ := HCI.out X hI; go_simp; try go_bits
    try rw [if_pos (by omega)]
    try rw [if_neg (by omega)]
    try with_reducible rfl
  refine wpI_take (i := 4) (v := ?_) rfl (by kernel_rfl) (by kernel_rfl) (by kernel_rfl) (fun _ _ _ h => h) ⟨by rfl, ?_⟩ ?_
  rotate_left
  · intro X hI; obtain ⟨q1, q2⟩ := HCI.out X hI; go_simp; try go_bits
    try rw [if_pos (by omega)]
    try rw [if_neg (by omega)]
    try with_reducible rfl
  refine wpI_take (i := 5) (v := ?_) rfl (by kernel_rfl) (by kernel_rfl) (by kernel_rfl) (fun _ _ _ h => h) ⟨by rfl, ?_⟩ ?_
  rotate_left
  · intro X hI; obtain ⟨q1, q2⟩ := HCI.out X hI; go_simp; try go_bits
    try rw [if_pos (by omega)]
    try rw [if_neg (by omega)]
    try with_reducible rfl
  refine wpI_take (i := 6) (v := ?_) rfl (by kernel_rfl) (by kernel_rfl) (by kernel_rfl) (fun _ _ _ h => h) ⟨by rfl, ?_⟩ ?_
  rotate_left
  · intro X hI; obtain ⟨q1, q2⟩ := HCI.out X hI; go_simp; try go_bits
    try rw [if_pos (by omega)]
    try rw [if_neg (by omega)]
    try with_reducible rfl
  refine wpI_take (i := 7) (v := ?_) rfl (by kernel_rfl) (by kernel_rfl) (by kernel_rfl) (fun _ _ _ h => h) ⟨by rfl, ?_⟩ ?_
  rotate_left
  · intro X hI; obtain ⟨q1, q2⟩ := HCI.out X hI; go_simp; try go_bits
    try rw [if_pos (by omega)]
    try rw [if_neg (by omega)]
    try with_reducible rfl
  refine wpI_take (i := 9) (v := ?_) rfl (by kernel_rfl) (by kernel_rfl) (by kernel_rfl) (fun _ _ _ h => h) ⟨by rfl, ?_⟩ ?_
  rotate_left
  · intro X hI; obtain ⟨q1, q2⟩ := HCI.out X hI; go_simp; try go_bits
    try rw [if_pos (by omega)]
    try rw [if_neg (by omega)]
    try with_reducible rfl
  refine wpI_take (i := 11) (v := ?_) rfl (by kernel_rfl) (by kernel_rfl) (by kernel_rfl) (fun _ _ _ h => h) ⟨by rfl, ?_⟩ ?_
  rotate_left
  · intro X hI; obtain ⟨q1, q2⟩ := HCI.out X hI; go_simp; try go_bits
    try rw [if_pos (by omega)]
    try rw [if_neg (by omega)]
    try with_reducible rfl
  refine wpI_only (i := 8) rfl (by kernel_rfl) HD.out (by rfl) ?_
  intro K hK
  go_simp
  go_wp2_with (go_at_call 74; refine (ig _).mono ?_; rintro e x1 ⟨rfl, hw⟩; obtain rfl := hw.symm)
  refine wpI_only (i := 10) rfl (by kernel_rfl) HD.out (by rfl) ?_
  intro K hK
  go_simp
  go_wp2_with (go_at_call 54; refine (below_x HD.out.cu 2).mono ?_; rintro e x1 ⟨x, hx0, _, hz2, rfl, hc1, hk1⟩; have hxb := hz2 (by omega); clear hz2; have HD : Hid (Dt w c a len cap B tg nt tc ts x1) := HD.out.keep hc1 hk1 hB; have RR : Hid (R5 x1 w.heap.size 0 0 0 0 0) := RR.out.keep hk1 (by omega); clear hc1 hk1)
  refine wpI_only (i := 12) rfl (by kernel_rfl) HD.out (by rfl) ?_
  intro K hK
  go_simp
  go_wp2_with (go_at_call 54; refine (below_x HD.out.cu 2).mono ?_; rintro e x1 ⟨y, hy0, _, hz2, rfl, hc1, hk1⟩; have hyb := hz2 (by omega); clear hz2; have HD : Hid (Dt w c a len cap B tg nt tc ts x1) := HD.out.keep hc1 hk1 hB; have RR : Hid (R5 x1 w.heap.size 0 0 0 0 0) := RR.out.keep hk1 (by omega); clear hc1 hk1)
  have hxy : 0 ≤ x * y ∧ x * y ≤ 1 := by
    have h1 : x = 0 ∨ x = 1 := by omega
    rcases h1 with rfl | rfl
    · rw [Int.zero_mul]; omega
    · rw [Int.one_mul]; omega
  refine wpI_only (i := 13) rfl (by kernel_rfl) HD.out (by rfl) ?_
  intro K hK
  go_simp
  try go_bits
  refine hK _ _ ?_
  refine wpI_only (i := 14) rfl (by kernel_rfl) HD.out (by rfl) ?_
  intro K hK
  go_simp
  try go_bits
  refine hK _ _ ?_
  refine wpI_only (i := 15) rfl (by kernel_rfl) HD.out (by rfl) ?_
  intro K hK
  go_simp
  try go_bits
  refine hK _ _ ?_
  refine wpI_only (i := 16) rfl (by kernel_rfl) HD.out (by rfl) ?_
  intro K hK
  go_simp
  try go_bits
  refine hK _ _ ?_
  refine wpI_done HD.out (by kernel_rfl) ?_ _
  generalize wrap64 ((g : Int) * (1 + x * y)) = gz
  clear hxy hx0 hxb hy0 hyb
  go_upto_region 2 with fail
  refine wp_region_any (by kernel_rfl) ?_
  change wpAny _ _ _ _ _ _ _ (World.drew _)
  have HD : Hid (Dt w c a len cap B tg nt tc ts x1.drew) := HD.out.drew
  have RR : Hid (R5 x1.drew w.heap.size 0 0 0 0 0) := RR.out.drew
  generalize x1.drew = x1 at HD RR ⊢
  refine wpI_any (I := fun X => Dt w c a len cap B tg nt tc ts X) _ _ _ _ ?_
  refine wpI_take (i := 0) (v := ?_) rfl (by kernel_rfl) (by kernel_rfl) (by kernel_rfl) (fun _ _ _ h => h) ⟨by rfl, ?_⟩ ?_
  rotate_left
  · intro X hI; obtain ⟨q1, q2⟩ := HCI.out X hI; go_simp; try go_bits
    try rw [if_pos (by omega)]
    try rw [if_neg (by omega)]
    try with_reducible rfl
  refine wpI_take (i := 1) (v := ?_) rfl (by kernel_rfl) (by kernel_rfl) (by kernel_rfl) (fun _ _ _ h => h) ⟨by rfl, ?_⟩ ?_
  rotate_left
  · intro X hI; obtain ⟨q1, q2⟩ := HCI.out X hI; go_simp; try go_bits
    try rw [if_pos (by omega)]
    try rw [if_neg (by omega)]
    try with_reducible rfl
  refine wpI_take (i := 2) (v := ?_) rfl (by kernel_rfl) (by kernel_rfl) (by kernel_rfl) (fun _ _ _ h => h) ⟨by rfl, ?_⟩ ?_
  rotate_left
  · intro X hI; obtain ⟨q1, q2⟩ := HCI.out X hI; go_simp; try go_bits
    try rw [if_pos (by omega)]
    try rw [if_neg (by omega)]
    try with_reducible rfl
  refine wpI_take (i := 3) (v := ?_) rfl (by kernel_rfl) (by kernel_rfl) (by kernel_rfl) (fun _ _ _ h => h) ⟨by rfl, ?_⟩ ?_
  rotate_left
  · intro X hI; obtain ⟨q1, q2⟩ := HCI.out X hI; go_simp; try go_bits
    try rw [if_pos (by omega)]
    try rw [if_neg (by omega)]
    try with_reducible rfl
  refine wpI_take (i := 4) (v := ?_) rfl (by kernel_rfl) (by kernel_rfl) (by kernel_rfl) (fun _ _ _ h => h) ⟨by rfl, ?_⟩ ?_
  rotate_left
  · intro X hI; obtain ⟨q1, q2⟩ := HCI.out X hI; go_simp; try go_bits
    try rw [if_pos (by omega)]
    try rw [if_neg (by omega)]
    try with_reducible rfl
  refine wpI_take (i := 5) (v := ?_) rfl (by kernel_rfl) (by kernel_rfl) (by kernel_rfl) (fun _ _ _ h => h) ⟨by rfl, ?_⟩ ?_
  rotate_left
  · intro X hI; obtain ⟨q1, q2⟩ := HCI.out X hI; go_simp; try go_bits
    try rw [if_pos (by omega)]
    try rw [if_neg (by omega)]
    try with_reducible rfl
  refine wpI_take (i := 6) (v := ?_) rfl (by kernel_rfl) (by kernel_rfl) (by kernel_rfl) (fun _ _ _ h => h) ⟨by rfl, ?_⟩ ?_
  rotate_left
  · intro X hI; obtain ⟨q1, q2⟩ := HCI.out X hI; go_simp; try go_bits
    try rw [if_pos (by omega)]
    try rw [if_neg (by omega)]
    try with_reducible rfl
  refine wpI_take (i := 10) (v := ?_) rfl (by kernel_rfl) (by kernel_rfl) (by kernel_rfl) (fun _ _ _ h => h) ⟨by rfl, ?_⟩ ?_
  rotate_left
  · intro X hI; obtain ⟨q1, q2⟩ := HCI.out X hI; go_simp; try go_bits
    try rw [if_pos (by omega)]
    try rw [if_neg (by omega)]
    try with_reducible rfl
  refine wpI_take (i := 11) (v := ?_) rfl (by kernel_rfl) (by kernel_rfl) (by kernel_rfl) (fun _ _ _ h => h) ⟨by rfl, ?_⟩ ?_
  rotate_left
  · intro X hI; obtain ⟨q1, q2⟩ := HCI.out X hI; go_simp; try go_bits
    try rw [if_pos (by omega)]
    try rw [if_neg (by omega)]
    try with_reducible rfl
  refine wpI_take (i := 12) (v := ?_) rfl (by kernel_rfl) (by kernel_rfl) (by kernel_rfl) (fun _ _ _ h => h) ⟨by rfl, ?_⟩ ?_
  rotate_left
  · intro X hI; obtain ⟨q1, q2⟩ := HCI.out X hI; go_simp; try go_bits
    try rw [if_pos (by omega)]
    try rw [if_neg (by omega)]
    try with_reducible rfl
  refine wpI_take (i := 13) (v := ?_) rfl (by kernel_rfl) (by kernel_rfl) (by kernel_rfl) (fun _ _ _ h => h) ⟨by rfl, ?_⟩ ?_
  rotate_left
  · intro X hI; obtain ⟨q1, q2⟩ := HCI.out X hI; go_simp; try go_bits
    try rw [if_pos (by omega)]
    try rw [if_neg (by omega)]
    try with_reducible rfl
  refine wpI_take (i := 14) (v := ?_) rfl (by kernel_rfl) (by kernel_rfl) (by kernel_rfl) (fun _ _ _ h => h) ⟨by rfl, ?_⟩ ?_
  rotate_left
  · intro X hI; obtain ⟨q1, q2⟩ := HCI.out X hI; go_simp; try go_bits
    try rw [if_pos (by omega)]
    try rw [if_neg (by omega)]
    try with_reducible rfl
  refine wpI_take (i := 15) (v := ?_) rfl (by kernel_rfl) (by kernel_rfl) (by kernel_rfl) (fun _ _ _ h => h) ⟨by rfl, ?_⟩ ?_
  rotate_left
  · intro X hI; obtain ⟨q1, q2⟩ := HCI.out X hI; go_simp; try go_bits
    try rw [if_pos (by omega)]
    try rw [if_neg (by omega)]
    try with_reducible rfl
  refine wpI_take (i := 16) (v := ?_) rfl (by kernel_rfl) (by kernel_rfl) (by kernel_rfl) (fun _ _ _ h => h) ⟨by rfl, ?_⟩ ?_
  rotate_left
  · intro X hI; obtain ⟨q1, q2⟩ := HCI.out X hI; go_simp; try go_bits
    try rw [if_pos (by omega)]
    try rw [if_neg (by omega)]
    try with_reducible rfl
  refine wpI_take (i := 17) (v := ?_) rfl (by kernel_rfl) (by kernel_rfl) (by kernel_rfl) (fun _ _ _ h => h) ⟨by rfl, ?_⟩ ?_
  rotate_left
  · intro X hI; obtain ⟨q1, q2⟩ := HCI.out X hI; go_simp; try go_bits
    try rw [if_pos (by omega)]
    try rw [if_neg (by omega)]
    try with_reducible rfl
  apply merge4 (F := fun X G gi => Hid (Dt w c a len cap B tg nt tc ts X) ∧ Hid (R5 X w.heap.size 0 0 0 0 0) ∧ Hid (R5 X G i j gi 0 0) ∧ w.heap.size < G ∧ tg < G)
  · intro rest
    refine wpI_two (i := 7) (j := 21) rfl rfl (by kernel_rfl) HD.out (by rfl) (by rfl) ?_ ?_
    · intro K hK
      go_simp
      go_wp2_with (go_at_call 54; refine (below_x HD.out.cu 2).mono ?_; rintro e x1 ⟨u, hu0, _, hz2, rfl, hc1, hk1⟩; have hub := hz2 (by omega); clear hz2; have HD : Hid (Dt w c a len cap B tg nt tc ts x1) := HD.out.keep hc1 hk1 hB; have RR : Hid (R5 x1 w.heap.size 0 0 0 0 0) := RR.out.keep hk1 (by omega); clear hc1 hk1)
      have hqu : 0 ≤ (q : Int) * (1 + u) ∧ (q : Int) * (1 + u) ≤ 12 := by
        have h1 : u = 0 ∨ u = 1 := by omega
        rcases h1 with h1 | h1
        · rw [h1]; omega
        · rw [h1]; omega
      refine wpI_take (i := 8) (v := ?_) rfl (by kernel_rfl) (by kernel_rfl) (by kernel_rfl) (fun _ _ _ h => h) ⟨by rfl, ?_⟩ ?_
      rotate_left
      · intro X hI; go_simp; try go_bits
        try rw [if_pos (by omega)]
        try rw [if_neg (by omega)]
        try with_reducible rfl
      refine wpI_take (i := 9) (v := ?_) rfl (by kernel_rfl) (by kernel_rfl) (by kernel_rfl) (fun _ _ _ h => h) ⟨by rfl, ?_⟩ ?_
      rotate_left
      · intro X hI; go_simp; try go_bits
        try rw [if_pos (by omega)]
        try rw [if_neg (by omega)]
        try with_reducible rfl
      refine wpI_two (i := 18) (j := 21) rfl rfl (by kernel_rfl) HD.out (by rfl) (by rfl) ?_ ?_
      · intro K hK
        go_simp
        go_wp2_with (go_at_call 74; refine (ig _).mono ?_; rintro e x1 ⟨rfl, hw⟩; obtain rfl := hw.symm)
        refine wpI_take (i := 19) (v := ?_) rfl (by kernel_rfl) (by kernel_rfl) (by kernel_rfl) (fun _ _ _ h => h) ⟨by rfl, ?_⟩ ?_
        rotate_left
        · intro X hI; go_simp; try go_bits
          try rw [if_pos (by omega)]
          try rw [if_neg (by omega)]
          try with_reducible rfl
        refine wpI_take (i := 20) (v := ?_) rfl (by kernel_rfl) (by kernel_rfl) (by kernel_rfl) (fun _ _ _ h => h) ⟨by rfl, ?_⟩ ?_
        rotate_left
        · intro X hI; go_simp
          try rw [if_pos (by omega)]
          try rw [if_neg (by omega)]
          try with_reducible rfl
        refine wpI_only (i := 21) rfl (by kernel_rfl) HD.out (by rfl) ?_
        intro K hK
        go_simp
        refine hK _ _ ?_
        have hG : w.heap.size < x1.heap.size := World.block_lt_of_cell? _ _ RR.out.c0
        have hC : c < x1.heap.size := HD.out.cu.lt
        have hT : tg < x1.heap.size := World.block_lt_of_cell? _ _ (HCI.out x1 HD.out).1
        skip
        have RG : Hid (R5 (x1.alloc (.cells #[.int .i64 0, .int .i64 0, .int .i64 0, .int .i64 0, .int .i64 0] 31)) x1.heap.size 0 0 0 0 0) := R5.new _ _ _ _ _ _ _
        have HD : Hid (Dt w c a len cap B tg nt tc ts (x1.alloc (.cells #[.int .i64 0, .int .i64 0, .int .i64 0, .int .i64 0, .int .i64 0] 31))) := HD.out.call (below_one _ _)
        have RR : Hid (R5 (x1.alloc (.cells #[.int .i64 0, .int .i64 0, .int .i64 0, .int .i64 0, .int .i64 0] 31)) w.heap.size 0 0 0 0 0) := RR.out.call (below_one _ _)
        generalize x1.heap.size = G at hG hC hT RG ⊢
        generalize x1.alloc (.cells #[.int .i64 0, .int .i64 0, .int .i64 0, .int .i64 0, .int .i64 0] 31) = x1 at HD RR RG ⊢
        refine wpI_only (i := 22) rfl (by kernel_rfl) HD.out (by rfl) ?_
        intro K hK
        obtain ⟨z0, z1, z2, z3, z4, zf⟩ := RG.out
        have f0 := zf 0
        have f1 := zf 1
        have f2 := zf 2
        have f3 := zf 3
        have f4 := zf 4
        go_simp
        refine hK _ _ ?_
        clear f0 f1 f2 f3 f4 z0 z1 z2 z3 z4 zf
        have RG : Hid (R5 (((((x1.setCell ⟨G, 0, none⟩ (.int .i64 (i : Int))).setCell ⟨G, 1, none⟩ (.int .i64 (j : Int))).setCell ⟨G, 2, none⟩ (.int .i64 ((q : Int) * (1 + u) / (g : Int)))).setCell ⟨G, 3, none⟩ (.int .i64 0)).setCell ⟨G, 4, none⟩ (.int .i64 0)) G i j ((q : Int) * (1 + u) / (g : Int)) 0 0) := ((((RG.out.put0 _).put1 _).put2 _).put3 _).put4 _
        have RR : Hid (R5 (((((x1.setCell ⟨G, 0, none⟩ (.int .i64 (i : Int))).setCell ⟨G, 1, none⟩ (.int .i64 (j : Int))).setCell ⟨G, 2, none⟩ (.int .i64 ((q : Int) * (1 + u) / (g : Int)))).setCell ⟨G, 3, none⟩ (.int .i64 0)).setCell ⟨G, 4, none⟩ (.int .i64 0)) w.heap.size 0 0 0 0 0) := ((((RR.out.off (by omega) _ _).off (by omega) _ _).off (by omega) _ _).off (by omega) _ _).off (by omega) _ _
        have hG2 : w.heap.size ≤ G := by omega
        have HD : Hid (Dt w c a len cap B tg nt tc ts (((((x1.setCell ⟨G, 0, none⟩ (.int .i64 (i : Int))).setCell ⟨G, 1, none⟩ (.int .i64 (j : Int))).setCell ⟨G, 2, none⟩ (.int .i64 ((q : Int) * (1 + u) / (g : Int)))).setCell ⟨G, 3, none⟩ (.int .i64 0)).setCell ⟨G, 4, none⟩ (.int .i64 0))) := H0.out.put (H0.out.put (H0.out.put (H0.out.put (H0.out.put HD.out hG2 _ _) hG2 _ _) hG2 _ _) hG2 _ _) hG2 _ _
        generalize ((((x1.setCell ⟨G, 0, none⟩ (.int .i64 (i : Int))).setCell ⟨G, 1, none⟩ (.int .i64 (j : Int))).setCell ⟨G, 2, none⟩ (.int .i64 ((q : Int) * (1 + u) / (g : Int)))).setCell ⟨G, 3, none⟩ (.int .i64 0)).setCell ⟨G, 4, none⟩ (.int .i64 0) = x1 at HD RR RG ⊢
        refine wpI_done HD.out (by kernel_rfl) ?_ _
        generalize (q : Int) * (1 + u) / (g : Int) = gi at RG ⊢
        clear hqu hu0 hub
        exact rest x1 G u gi ⟨HD, RR, RG, hG, hT⟩
      · intro K hK
        go_simp
        refine hK _ _ ?_
        have hG : w.heap.size < x1.heap.size := World.block_lt_of_cell? _ _ RR.out.c0
        have hC : c < x1.heap.size := HD.out.cu.lt
        have hT : tg < x1.heap.size := World.block_lt_of_cell? _ _ (HCI.out x1 HD.out).1
        skip
        have RG : Hid (R5 (x1.alloc (.cells #[.int .i64 0, .int .i64 0, .int .i64 0, .int .i64 0, .int .i64 0] 31)) x1.heap.size 0 0 0 0 0) := R5.new _ _ _ _ _ _ _
        have HD : Hid (Dt w c a len cap B tg nt tc ts (x1.alloc (.cells #[.int .i64 0, .int .i64 0, .int .i64 0, .int .i64 0, .int .i64 0] 31))) := HD.out.call (below_one _ _)
        have RR : Hid (R5 (x1.alloc (.cells #[.int .i64 0, .int .i64 0, .int .i64 0, .int .i64 0, .int .i64 0] 31)) w.heap.size 0 0 0 0 0) := RR.out.call (below_one _ _)
        generalize x1.heap.size = G at hG hC hT RG ⊢
        generalize x1.alloc (.cells #[.int .i64 0, .int .i64 0, .int .i64 0, .int .i64 0, .int .i64 0] 31) = x1 at HD RR RG ⊢
        refine wpI_only (i := 18) rfl (by kernel_rfl) HD.out (by rfl) ?_
        intro K hK
        go_simp
        go_wp2_with (go_at_call 74; refine (ig _).mono ?_; rintro e x1 ⟨rfl, hw⟩; obtain rfl := hw.symm)
        refine wpI_take (i := 19) (v := ?_) rfl (by kernel_rfl) (by kernel_rfl) (by kernel_rfl) (fun _ _ _ h => h) ⟨by rfl, ?_⟩ ?_
        rotate_left
        · intro X hI; go_simp; try go_bits
          try rw [if_pos (by omega)]
          try rw [if_neg (by omega)]
          try with_reducible rfl
        refine wpI_take (i := 20) (v := ?_) rfl (by kernel_rfl) (by kernel_rfl) (by kernel_rfl) (fun _ _ _ h => h) ⟨by rfl, ?_⟩ ?_
        rotate_left
        · intro X hI; go_simp
          try rw [if_pos (by omega)]
          try rw [if_neg (by omega)]
          try with_reducible rfl
        refine wpI_only (i := 22) rfl (by kernel_rfl) HD.out (by rfl) ?_
        intro K hK
        obtain ⟨z0, z1, z2, z3, z4, zf⟩ := RG.out
        have f0 := zf 0
        have f1 := zf 1
        have f2 := zf 2
        have f3 := zf 3
        have f4 := zf 4
        go_simp
        refine hK _ _ ?_
        clear f0 f1 f2 f3 f4 z0 z1 z2 z3 z4 zf
        have RG : Hid (R5 (((((x1.setCell ⟨G, 0, none⟩ (.int .i64 (i : Int))).setCell ⟨G, 1, none⟩ (.int .i64 (j : Int))).setCell ⟨G, 2, none⟩ (.int .i64 ((q : Int) * (1 + u) / (g : Int)))).setCell ⟨G, 3, none⟩ (.int .i64 0)).setCell ⟨G, 4, none⟩ (.int .i64 0)) G i j ((q : Int) * (1 + u) / (g : Int)) 0 0) := ((((RG.out.put0 _).put1 _).put2 _).put3 _).put4 _
        have RR : Hid (R5 (((((x1.setCell ⟨G, 0, none⟩ (.int .i64 (i : Int))).setCell ⟨G, 1, none⟩ (.int .i64 (j : Int))).setCell ⟨G, 2, none⟩ (.int .i64 ((q : Int) * (1 + u) / (g : Int)))).setCell ⟨G, 3, none⟩ (.int .i64 0)).setCell ⟨G, 4, none⟩ (.int .i64 0)) w.heap.size 0 0 0 0 0) := ((((RR.out.off (by omega) _ _).off (by omega) _ _).off (by omega) _ _).off (by omega) _ _).off (by omega) _ _
        have hG2 : w.heap.size ≤ G := by omega
        have HD : Hid (Dt w c a len cap B tg nt tc ts (((((x1.setCell ⟨G, 0, none⟩ (.int .i64 (i : Int))).setCell ⟨G, 1, none⟩ (.int .i64 (j : Int))).setCell ⟨G, 2, none⟩ (.int .i64 ((q : Int) * (1 + u) / (g : Int)))).setCell ⟨G, 3, none⟩ (.int .i64 0)).setCell ⟨G, 4, none⟩ (.int .i64 0))) := H0.out.put (H0.out.put (H0.out.put (H0.out.put (H0.out.put HD.out hG2 _ _) hG2 _ _) hG2 _ _) hG2 _ _) hG2 _ _
        generalize ((((x1.setCell ⟨G, 0, none⟩ (.int .i64 (i : Int))).setCell ⟨G, 1, none⟩ (.int .i64 (j : Int))).setCell ⟨G, 2, none⟩ (.int .i64 ((q : Int) * (1 + u) / (g : Int)))).setCell ⟨G, 3, none⟩ (.int .i64 0)).setCell ⟨G, 4, none⟩ (.int .i64 0) = x1 at HD RR RG ⊢
        refine wpI_done HD.out (by kernel_rfl) ?_ _
        generalize (q : Int) * (1 + u) / (g : Int) = gi at RG ⊢
        clear hqu hu0 hub
        exact rest x1 G u gi ⟨HD, RR, RG, hG, hT⟩
    · intro K hK
      go_simp
      refine hK _ _ ?_
      have hG : w.heap.size < x1.heap.size := World.block_lt_of_cell? _ _ RR.out.c0
      have hC : c < x1.heap.size := HD.out.cu.lt
      have hT : tg < x1.heap.size := World.block_lt_of_cell? _ _ (HCI.out x1 HD.out).1
      skip
      have RG : Hid (R5 (x1.alloc (.cells #[.int .i64 0, .int .i64 0, .int .i64 0, .int .i64 0, .int .i64 0] 31)) x1.heap.size 0 0 0 0 0) := R5.new _ _ _ _ _ _ _
      have HD : Hid (Dt w c a len cap B tg nt tc ts (x1.alloc (.cells #[.int .i64 0, .int .i64 0, .int .i64 0, .int .i64 0, .int .i64 0] 31))) := HD.out.call (below_one _ _)
      have RR : Hid (R5 (x1.alloc (.cells #[.int .i64 0, .int .i64 0, .int .i64 0, .int .i64 0, .int .i64 0] 31)) w.heap.size 0 0 0 0 0) := RR.out.call (below_one _ _)
      generalize x1.heap.size = G at hG hC hT RG ⊢
      generalize x1.alloc (.cells #[.int .i64 0, .int .i64 0, .int .i64 0, .int .i64 0, .int .i64 0] 31) = x1 at HD RR RG ⊢
      refine wpI_only (i := 7) rfl (by kernel_rfl) HD.out (by rfl) ?_
      intro K hK
      go_simp
      go_wp2_with (go_at_call 54; refine (below_x HD.out.cu 2).mono ?_; rintro e x1 ⟨u, hu0, _, hz2, rfl, hc1, hk1⟩; have hub := hz2 (by omega); clear hz2; have HD : Hid (Dt w c a len cap B tg nt tc ts x1) := HD.out.keep hc1 hk1 hB; have RR : Hid (R5 x1 w.heap.size 0 0 0 0 0) := RR.out.keep hk1 (by omega); have RG : Hid (R5 x1 G 0 0 0 0 0) := RG.out.keep hk1 (by omega); clear hc1 hk1)
      have hqu : 0 ≤ (q : Int) * (1 + u) ∧ (q : Int) * (1 + u) ≤ 12 := by
        have h1 : u = 0 ∨ u = 1 := by omega
        rcases h1 with h1 | h1
        · rw [h1]; omega
        · rw [h1]; omega
      refine wpI_take (i := 8) (v := ?_) rfl (by kernel_rfl) (by kernel_rfl) (by kernel_rfl) (fun _ _ _ h => h) ⟨by rfl, ?_⟩ ?_
      rotate_left
      · intro X hI; go_simp; try go_bits
        try rw [if_pos (by omega)]
        try rw [if_neg (by omega)]
        try with_reducible rfl
      refine wpI_take (i := 9) (v := ?_) rfl (by kernel_rfl) (by kernel_rfl) (by kernel_rfl) (fun _ _ _ h => h) ⟨by rfl, ?_⟩ ?_
      rotate_left
      · intro X hI; go_simp; try go_bits
        try rw [if_pos (by omega)]
        try rw [if_neg (by omega)]
        try with_reducible rfl
      refine wpI_only (i := 18) rfl (by kernel_rfl) HD.out (by rfl) ?_
      intro K hK
      go_simp
      go_wp2_with (go_at_call 74; refine (ig _).mono ?_; rintro e x1 ⟨rfl, hw⟩; obtain rfl := hw.symm)
      refine wpI_take (i := 19) (v := ?_) rfl (by kernel_rfl) (by kernel_rfl) (by kernel_rfl) (fun _ _ _ h => h) ⟨by rfl, ?_⟩ ?_
      rotate_left
      · intro X hI; go_simp; try go_bits
        try rw [if_pos (by omega)]
        try rw [if_neg (by omega)]
        try with_reducible rfl
      refine wpI_take (i := 20) (v := ?_) rfl (by kernel_rfl) (by kernel_rfl) (by kernel_rfl) (fun _ _ _ h => h) ⟨by rfl, ?_⟩ ?_
      rotate_left
      · intro X hI; go_simp
        try rw [if_pos (by omega)]
        try rw [if_neg (by omega)]
        try with_reducible rfl
      refine wpI_only (i := 22) rfl (by kernel_rfl) HD.out (by rfl) ?_
      intro K hK
      obtain ⟨z0, z1, z2, z3, z4, zf⟩ := RG.out
      have f0 := zf 0
      have f1 := zf 1
      have f2 := zf 2
      have f3 := zf 3
      have f4 := zf 4
      go_simp
      refine hK _ _ ?_
      clear f0 f1 f2 f3 f4 z0 z1 z2 z3 z4 zf
      have RG : Hid (R5 (((((x1.setCell ⟨G, 0, none⟩ (.int .i64 (i : Int))).setCell ⟨G, 1, none⟩ (.int .i64 (j : Int))).setCell ⟨G, 2, none⟩ (.int .i64 ((q : Int) * (1 + u) / (g : Int)))).setCell ⟨G, 3, none⟩ (.int .i64 0)).setCell ⟨G, 4, none⟩ (.int .i64 0)) G i j ((q : Int) * (1 + u) / (g : Int)) 0 0) := ((((RG.out.put0 _).put1 _).put2 _).put3 _).put4 _
      have RR : Hid (R5 (((((x1.setCell ⟨G, 0, none⟩ (.int .i64 (i : Int))).setCell ⟨G, 1, none⟩ (.int .i64 (j : Int))).setCell ⟨G, 2, none⟩ (.int .i64 ((q : Int) * (1 + u) / (g : Int)))).setCell ⟨G, 3, none⟩ (.int .i64 0)).setCell ⟨G, 4, none⟩ (.int .i64 0)) w.heap.size 0 0 0 0 0) := ((((RR.out.off (by omega) _ _).off (by omega) _ _).off (by omega) _ _).off (by omega) _ _).off (by omega) _ _
      have hG2 : w.heap.size ≤ G := by omega
      have HD : Hid (Dt w c a len cap B tg nt tc ts (((((x1.setCell ⟨G, 0, none⟩ (.int .i64 (i : Int))).setCell ⟨G, 1, none⟩ (.int .i64 (j : Int))).setCell ⟨G, 2, none⟩ (.int .i64 ((q : Int) * (1 + u) / (g : Int)))).setCell ⟨G, 3, none⟩ (.int .i64 0)).setCell ⟨G, 4, none⟩ (.int .i64 0))) := H0.out.put (H0.out.put (H0.out.put (H0.out.put (H0.out.put HD.out hG2 _ _) hG2 _ _) hG2 _ _) hG2 _ _) hG2 _ _
      generalize ((((x1.setCell ⟨G, 0, none⟩ (.int .i64 (i : Int))).setCell ⟨G, 1, none⟩ (.int .i64 (j : Int))).setCell ⟨G, 2, none⟩ (.int .i64 ((q : Int) * (1 + u) / (g : Int)))).setCell ⟨G, 3, none⟩ (.int .i64 0)).setCell ⟨G, 4, none⟩ (.int .i64 0) = x1 at HD RR RG ⊢
      refine wpI_done HD.out (by kernel_rfl) ?_ _
      generalize (q : Int) * (1 + u) / (g : Int) = gi at RG ⊢
      clear hqu hu0 hub
      exact rest x1 G u gi ⟨HD, RR, RG, hG, hT⟩
  · intro x1 G u gi ⟨HD, RR, RG, hG, hT⟩
    have hne : G ≠ tg := by omega
    have hne2 : tg ≠ G := by omega
    show Exit.then _ _ _ _ _
    go_upto_region 3 with fail
    refine wp_region_any (by kernel_rfl) ?_
    change wpAny _ _ _ _ _ _ _ (World.drew _)
    have HD : Hid (Dt w c a len cap B tg nt tc ts x1.drew) := HD.out.drew
    have RR : Hid (R5 x1.drew w.heap.size 0 0 0 0 0) := RR.out.drew
    have RG : Hid (R5 x1.drew G i j gi 0 0) := RG.out.drew
    generalize x1.drew = x1 at HD RR RG ⊢
    refine wpI_any (I := fun X => Dt w c a len cap B tg nt tc ts X ∧ ∃ t, R5 X G i j gi t 0) _ _ _ _ ?_
    refine wpI_take (i := 0) (v := ?_) rfl (by kernel_rfl) (by kernel_rfl) (by kernel_rfl) (fun _ _ _ h => h) ⟨by rfl, ?_⟩ ?_
    rotate_left
    · intro X hI; obtain ⟨q1, q2⟩ := HCI.out X hI.1; obtain ⟨_, c0, c1, c2, c3, c4, _⟩ := hI.2; go_simp; try go_bits
      try rw [if_pos (by omega)]
      try rw [if_neg (by omega)]
      try with_reducible rfl
    refine wpI_take (i := 1) (v := ?_) rfl (by kernel_rfl) (by kernel_rfl) (by kernel_rfl) (fun _ _ _ h => h) ⟨by rfl, ?_⟩ ?_
    rotate_left
    · intro X hI; obtain ⟨q1, q2⟩ := HCI.out X hI.1; obtain ⟨_, c0, c1, c2, c3, c4, _⟩ := hI.2; go_simp; try go_bits
      try rw [if_pos (by omega)]
      try rw [if_neg (by omega)]
      try with_reducible rfl
    refine wpI_take (i := 2) (v := ?_) rfl (by kernel_rfl) (by kernel_rfl) (by kernel_rfl) (fun _ _ _ h => h) ⟨by rfl, ?_⟩ ?_
    rotate_left
    · intro X hI; obtain ⟨q1, q2⟩ := HCI.out X hI.1; obtain ⟨_, c0, c1, c2, c3, c4, _⟩ := hI.2; go_simp; try go_bits
      try rw [if_pos (by omega)]
      try rw [if_neg (by omega)]
      try with_reducible rfl
    refine wpI_take (i := 3) (v := ?_) rfl (by kernel_rfl) (by kernel_rfl) (by kernel_rfl) (fun _ _ _ h => h) ⟨by rfl, ?_⟩ ?_
    rotate_left
    · intro X hI; obtain ⟨q1, q2⟩ := HCI.out X hI.1; obtain ⟨_, c0, c1, c2, c3, c4, _⟩ := hI.2; go_simp; try go_bits
      try rw [if_pos (by omega)]
      try rw [if_neg (by omega)]
      try with_reducible rfl
    refine wpI_take (i := 4) (v := ?_) rfl (by kernel_rfl) (by kernel_rfl) (by kernel_rfl) (fun _ _ _ h => h) ⟨by rfl, ?_⟩ ?_
    rotate_left
    · intro X hI; obtain ⟨q1, q2⟩ := HCI.out X hI.1; obtain ⟨_, c0, c1, c2, c3, c4, _⟩ := hI.2; go_simp; try go_bits
      try rw [if_pos (by omega)]
      try rw [if_neg (by omega)]
      try with_reducible rfl
    refine wpI_take (i := 5) (v := ?_) rfl (by kernel_rfl) (by kernel_rfl) (by kernel_rfl) (fun _ _ _ h => h) ⟨by rfl, ?_⟩ ?_
    rotate_left
    · intro X hI; obtain ⟨q1, q2⟩ := HCI.out X hI.1; obtain ⟨_, c0, c1, c2, c3, c4, _⟩ := hI.2; go_simp; try go_bits
      try rw [if_pos (by omega)]
      try rw [if_neg (by omega)]
      try with_reducible rfl
    refine wpI_take (i := 6) (v := ?_) rfl (by kernel_rfl) (by kernel_rfl) (by kernel_rfl) (fun _ _ _ h => h) ⟨by rfl, ?_⟩ ?_
    rotate_left
    · intro X hI; obtain ⟨q1, q2⟩ := HCI.out X hI.1; obtain ⟨_, c0, c1, c2, c3, c4, _⟩ := hI.2; go_simp; try go_bits
      try rw [if_pos (by omega)]
      try rw [if_neg (by omega)]
      try with_reducible rfl
    generalize wrap64 (gi * (p : Int)) = m6
    refine wpI_take (i := 7) (v := ?_) rfl (by kernel_rfl) (by kernel_rfl) (by kernel_rfl) (fun _ _ _ h => h) ⟨by rfl, ?_⟩ ?_
    rotate_left
    · intro X hI; obtain ⟨q1, q2⟩ := HCI.out X hI.1; obtain ⟨_, c0, c1, c2, c3, c4, _⟩ := hI.2; go_simp; try go_bits
      try rw [if_pos (by omega)]
      try rw [if_neg (by omega)]
      try with_reducible rfl
    refine wpI_take (i := 8) (v := ?_) rfl (by kernel_rfl) (by kernel_rfl) (by kernel_rfl) (fun _ _ _ h => h) ⟨by rfl, ?_⟩ ?_
    rotate_left
    · intro X hI; obtain ⟨q1, q2⟩ := HCI.out X hI.1; obtain ⟨_, c0, c1, c2, c3, c4, _⟩ := hI.2; go_simp; try go_bits
      try rw [if_pos (by omega)]
      try rw [if_neg (by omega)]
      try with_reducible rfl
    refine wpI_take (i := 9) (v := ?_) rfl (by kernel_rfl) (by kernel_rfl) (by kernel_rfl) (fun _ _ _ h => h) ⟨by rfl, ?_⟩ ?_
    rotate_left
    · intro X hI; obtain ⟨q1, q2⟩ := HCI.out X hI.1; obtain ⟨_, c0, c1, c2, c3, c4, _⟩ := hI.2; go_simp; try go_bits
      try rw [if_pos (by omega)]
      try rw [if_neg (by omega)]
      try with_reducible rfl
    refine wpI_take (i := 10) (v := ?_) rfl (by kernel_rfl) (by kernel_rfl) (by kernel_rfl) (fun _ _ _ h => h) ⟨by rfl, ?_⟩ ?_
    rotate_left
    · intro X hI; obtain ⟨q1, q2⟩ := HCI.out X hI.1; obtain ⟨_, c0, c1, c2, c3, c4, _⟩ := hI.2; go_simp; try go_bits
      try rw [if_pos (by omega)]
      try rw [if_neg (by omega)]
      try with_reducible rfl
    refine wpI_take (i := 11) (v := ?_) rfl (by kernel_rfl) (by kernel_rfl) (by kernel_rfl) (fun _ _ _ h => h) ⟨by rfl, ?_⟩ ?_
    rotate_left
    · intro X hI; obtain ⟨q1, q2⟩ := HCI.out X hI.1; obtain ⟨_, c0, c1, c2, c3, c4, _⟩ := hI.2; go_simp; try go_bits
      try rw [if_pos (by omega)]
      try rw [if_neg (by omega)]
      try with_reducible rfl
    generalize wrap64 (m6.tdiv (q : Int)) = m7
    refine wpI_take (i := 12) (v := ?_) rfl (by kernel_rfl) (by kernel_rfl) (by kernel_rfl) (fun _ _ _ h => h) ⟨by rfl, ?_⟩ ?_
    rotate_left
    · intro X hI; obtain ⟨q1, q2⟩ := HCI.out X hI.1; obtain ⟨_, c0, c1, c2, c3, c4, _⟩ := hI.2; go_simp; try go_bits
      try rw [if_pos (by omega)]
      try rw [if_neg (by omega)]
      try with_reducible rfl
    refine wpI_only (i := 13) rfl (by kernel_rfl) ⟨HD.out, ⟨_, RG.out⟩⟩ (by rfl) ?_
    intro K hK
    have z0 := RG.out.c0
    have z1 := RG.out.c1
    have z2 := RG.out.c2
    have z3 := RG.out.c3
    have z4 := RG.out.c4
    have f2 := RG.out.fz 2
    have f3 := RG.out.fz 3
    have f4 := RG.out.fz 4
    go_simp
    refine hK _ _ ?_
    clear z0 z1 z2 z3 z4 f2 f3 f4
    have hG2 : w.heap.size ≤ G := by omega
    have HD : Hid (Dt w c a len cap B tg nt tc ts (x1.setCell ⟨G, 3, none⟩ (.int .i64 m7))) := H0.out.put (HD.out) hG2 _ _
    have RR : Hid (R5 (x1.setCell ⟨G, 3, none⟩ (.int .i64 m7)) w.heap.size 0 0 0 0 0) := (RR.out).off (by omega) _ _
    have RG : Hid (R5 (x1.setCell ⟨G, 3, none⟩ (.int .i64 m7)) G i j gi m7 0) := (RG.out).put3 _
    generalize x1.setCell ⟨G, 3, none⟩ (.int .i64 m7) = x1 at HD RR RG ⊢
    refine wpI_done ⟨HD.out, ⟨_, RG.out⟩⟩ (by kernel_rfl) ?_ _
    go_upto_region 4 with fail
    have q1 := (HCI.out x1 HD.out).1; have q2 := (HCI.out x1 HD.out).2
    have z0 := RG.out.c0
    have z1 := RG.out.c1
    have z2 := RG.out.c2
    have z3 := RG.out.c3
    have z4 := RG.out.c4
    have f2 := RG.out.fz 2
    have f3 := RG.out.fz 3
    have f4 := RG.out.fz 4
    by_cases h7 : m7 = 0
    · have e7 : (m7 == 0) = true := by simp [h7]
      clear h7
      go_quiet (fail)
      clear z0 z1 z2 z3 z4 f2 f3 f4 q1 q2
      have HD : Hid (Dt w c a len cap B tg nt tc ts (x1.drewN nq)) := HD.out.call (below_dn x1 nq)
      have RR : Hid (R5 (x1.drewN nq) w.heap.size 0 0 0 0 0) := RR.out.call (below_dn x1 nq)
      have RG : Hid (R5 (x1.drewN nq) G i j gi m7 0) := RG.out.call (below_dn x1 nq)
      generalize x1.drewN nq = x1 at HD RR RG ⊢
      have q1 := (HCI.out x1 HD.out).1; have q2 := (HCI.out x1 HD.out).2
      have z0 := RG.out.c0
      have z1 := RG.out.c1
      have z2 := RG.out.c2
      have z3 := RG.out.c3
      have z4 := RG.out.c4
      have f2 := RG.out.fz 2
      have f3 := RG.out.fz 3
      have f4 := RG.out.fz 4
      have q3 := (HCI.out _ (H0.out.put HD.out hG2 2 (.int .i64 (q : Int)))).1
      go_upto_region 7 with fail
      clear z0 z1 z2 z3 z4 f2 f3 f4 q1 q2 q3
      have HD : Hid (Dt w c a len cap B tg nt tc ts ((x1.setCell ⟨G, 2, none⟩ (.int .i64 (q : Int))).setCell ⟨G, 3, none⟩ (.int .i64 (p : Int)))) := H0.out.put (H0.out.put (HD.out) hG2 _ _) hG2 _ _
      have RR : Hid (R5 ((x1.setCell ⟨G, 2, none⟩ (.int .i64 (q : Int))).setCell ⟨G, 3, none⟩ (.int .i64 (p : Int))) w.heap.size 0 0 0 0 0) := ((RR.out).off (by omega) _ _).off (by omega) _ _
      have RG : Hid (R5 ((x1.setCell ⟨G, 2, none⟩ (.int .i64 (q : Int))).setCell ⟨G, 3, none⟩ (.int .i64 (p : Int))) G i j q p 0) := ((RG.out).put2 _).put3 _
      generalize (x1.setCell ⟨G, 2, none⟩ (.int .i64 (q : Int))).setCell ⟨G, 3, none⟩ (.int .i64 (p : Int)) = x1 at HD RR RG ⊢
      go_upto_region 9 with (go_at_call 55; refine (once_x HD.out.cu 4).mono ?_; rintro e x1 ⟨x, rfl, hc1, hk1⟩; have HD : Hid (Dt w c a len cap B tg nt tc ts x1) := HD.out.keep hc1 hk1 hB; have RR : Hid (R5 x1 w.heap.size 0 0 0 0 0) := RR.out.keep hk1 (by omega); have RG : Hid (R5 x1 G i j (q : Int) (p : Int) 0) := RG.out.keep hk1 (by omega); have f4 := RG.out.fz 4; have z4 := RG.out.c4; clear hc1 hk1)
      · skip
        have HD : Hid (Dt w c a len cap B tg nt tc ts (x1.setCell ⟨G, 4, none⟩ (.int .i64 gz))) := H0.out.put (HD.out) hG2 _ _
        have RR : Hid (R5 (x1.setCell ⟨G, 4, none⟩ (.int .i64 gz)) w.heap.size 0 0 0 0 0) := (RR.out).off (by omega) _ _
        have RG : Hid (R5 (x1.setCell ⟨G, 4, none⟩ (.int .i64 gz)) G i j (q : Int) (p : Int) gz) := (RG.out).put4 _
        generalize x1.setCell ⟨G, 4, none⟩ (.int .i64 gz) = x1 at HD RR RG ⊢
        have z0 := RG.out.c0
        have z1 := RG.out.c1
        have z2 := RG.out.c2
        have z3 := RG.out.c3
        have z4 := RG.out.c4
        have y0 := RR.out.c0
        have y1 := RR.out.c1
        have y2 := RR.out.c2
        have y3 := RR.out.c3
        have y4 := RR.out.c4
        have g0 := RR.out.fz 0
        have g1 := RR.out.fz 1
        have g2 := RR.out.fz 2
        have g3 := RR.out.fz 3
        have g4 := RR.out.fz 4
        go_wp2
        have HX : Hid (Dt w c a len cap B tg nt tc ts (((((x1.setCell ⟨w.heap.size, 0, none⟩ (.int .i64 (i : Int))).setCell ⟨w.heap.size, 1, none⟩ (.int .i64 (j : Int))).setCell ⟨w.heap.size, 2, none⟩ (.int .i64 (q : Int))).setCell ⟨w.heap.size, 3, none⟩ (.int .i64 (p : Int))).setCell ⟨w.heap.size, 4, none⟩ (.int .i64 gz))) := H0.out.put (H0.out.put (H0.out.put (H0.out.put (H0.out.put HD.out (Nat.le_refl _) _ _) (Nat.le_refl _) _ _) (Nat.le_refl _) _ _) (Nat.le_refl _) _ _) (Nat.le_refl _) _ _
        have RX := ((((RR.out.put0 (i : Int)).put1 (j : Int)).put2 (q : Int)).put3 (p : Int)).put4 gz
        generalize ((((x1.setCell ⟨w.heap.size, 0, none⟩ (.int .i64 (i : Int))).setCell ⟨w.heap.size, 1, none⟩ (.int .i64 (j : Int))).setCell ⟨w.heap.size, 2, none⟩ (.int .i64 (q : Int))).setCell ⟨w.heap.size, 3, none⟩ (.int .i64 (p : Int))).setCell ⟨w.heap.size, 4, none⟩ (.int .i64 gz) = X at HX RX ⊢
        obtain ⟨k0, k1, k2, k3, k4, _⟩ := RX
        refine bodyPost_ret (v := .agg #[.int .i64 (i : Int), .int .i64 (j : Int), .int .i64 (q : Int), .int .i64 (p : Int), .int .i64 gz]) (by simp [results, Try.results66, go_sem, k0, k1, k2, k3, k4]) rfl ?_
        exact ⟨⟨(i : Int), (j : Int), (q : Int), (p : Int), gz⟩, rfl, HX.out⟩
      · skip
        have z0 := RG.out.c0
        have z1 := RG.out.c1
        have z2 := RG.out.c2
        have z3 := RG.out.c3
        have z4 := RG.out.c4
        have y0 := RR.out.c0
        have y1 := RR.out.c1
        have y2 := RR.out.c2
        have y3 := RR.out.c3
        have y4 := RR.out.c4
        have g0 := RR.out.fz 0
        have g1 := RR.out.fz 1
        have g2 := RR.out.fz 2
        have g3 := RR.out.fz 3
        have g4 := RR.out.fz 4
        go_wp2
        have HX : Hid (Dt w c a len cap B tg nt tc ts (((((x1.setCell ⟨w.heap.size, 0, none⟩ (.int .i64 (i : Int))).setCell ⟨w.heap.size, 1, none⟩ (.int .i64 (j : Int))).setCell ⟨w.heap.size, 2, none⟩ (.int .i64 (q : Int))).setCell ⟨w.heap.size, 3, none⟩ (.int .i64 (p : Int))).setCell ⟨w.heap.size, 4, none⟩ (.int .i64 0))) := H0.out.put (H0.out.put (H0.out.put (H0.out.put (H0.out.put HD.out (Nat.le_refl _) _ _) (Nat.le_refl _) _ _) (Nat.le_refl _) _ _) (Nat.le_refl _) _ _) (Nat.le_refl _) _ _
        have RX := ((((RR.out.put0 (i : Int)).put1 (j : Int)).put2 (q : Int)).put3 (p : Int)).put4 0
        generalize ((((x1.setCell ⟨w.heap.size, 0, none⟩ (.int .i64 (i : Int))).setCell ⟨w.heap.size, 1, none⟩ (.int .i64 (j : Int))).setCell ⟨w.heap.size, 2, none⟩ (.int .i64 (q : Int))).setCell ⟨w.heap.size, 3, none⟩ (.int .i64 (p : Int))).setCell ⟨w.heap.size, 4, none⟩ (.int .i64 0) = X at HX RX ⊢
        obtain ⟨k0, k1, k2, k3, k4, _⟩ := RX
        refine bodyPost_ret (v := .agg #[.int .i64 (i : Int), .int .i64 (j : Int), .int .i64 (q : Int), .int .i64 (p : Int), .int .i64 0]) (by simp [results, Try.results66, go_sem, k0, k1, k2, k3, k4]) rfl ?_
        exact ⟨⟨(i : Int), (j : Int), (q : Int), (p : Int), 0⟩, rfl, HX.out⟩
    · have e7 : (m7 == 0) = false := by simp [h7]
      clear h7
      go_quiet (fail)
      clear z0 z1 z2 z3 z4 f2 f3 f4 q1 q2
      have HD : Hid (Dt w c a len cap B tg nt tc ts (x1.drewN nq)) := HD.out.call (below_dn x1 nq)
      have RR : Hid (R5 (x1.drewN nq) w.heap.size 0 0 0 0 0) := RR.out.call (below_dn x1 nq)
      have RG : Hid (R5 (x1.drewN nq) G i j gi m7 0) := RG.out.call (below_dn x1 nq)
      generalize x1.drewN nq = x1 at HD RR RG ⊢
      have q1 := (HCI.out x1 HD.out).1; have q2 := (HCI.out x1 HD.out).2
      have z0 := RG.out.c0
      have z1 := RG.out.c1
      have z2 := RG.out.c2
      have z3 := RG.out.c3
      have z4 := RG.out.c4
      have f2 := RG.out.fz 2
      have f3 := RG.out.fz 3
      have f4 := RG.out.fz 4
      have q3 := (HCI.out _ (H0.out.put HD.out hG2 2 (.int .i64 (q : Int)))).1
      go_upto_region 7 with fail
      · clear z0 z1 z2 z3 z4 f2 f3 f4 q1 q2 q3
        have HD : Hid (Dt w c a len cap B tg nt tc ts ((x1.setCell ⟨G, 2, none⟩ (.int .i64 (q : Int))).setCell ⟨G, 3, none⟩ (.int .i64 (p : Int)))) := H0.out.put (H0.out.put (HD.out) hG2 _ _) hG2 _ _
        have RR : Hid (R5 ((x1.setCell ⟨G, 2, none⟩ (.int .i64 (q : Int))).setCell ⟨G, 3, none⟩ (.int .i64 (p : Int))) w.heap.size 0 0 0 0 0) := ((RR.out).off (by omega) _ _).off (by omega) _ _
        have RG : Hid (R5 ((x1.setCell ⟨G, 2, none⟩ (.int .i64 (q : Int))).setCell ⟨G, 3, none⟩ (.int .i64 (p : Int))) G i j q p 0) := ((RG.out).put2 _).put3 _
        generalize (x1.setCell ⟨G, 2, none⟩ (.int .i64 (q : Int))).setCell ⟨G, 3, none⟩ (.int .i64 (p : Int)) = x1 at HD RR RG ⊢
        go_upto_region 9 with (go_at_call 55; refine (once_x HD.out.cu 4).mono ?_; rintro e x1 ⟨x, rfl, hc1, hk1⟩; have HD : Hid (Dt w c a len cap B tg nt tc ts x1) := HD.out.keep hc1 hk1 hB; have RR : Hid (R5 x1 w.heap.size 0 0 0 0 0) := RR.out.keep hk1 (by omega); have RG : Hid (R5 x1 G i j (q : Int) (p : Int) 0) := RG.out.keep hk1 (by omega); have f4 := RG.out.fz 4; have z4 := RG.out.c4; clear hc1 hk1)
        · skip
          have HD : Hid (Dt w c a len cap B tg nt tc ts (x1.setCell ⟨G, 4, none⟩ (.int .i64 gz))) := H0.out.put (HD.out) hG2 _ _
          have RR : Hid (R5 (x1.setCell ⟨G, 4, none⟩ (.int .i64 gz)) w.heap.size 0 0 0 0 0) := (RR.out).off (by omega) _ _
          have RG : Hid (R5 (x1.setCell ⟨G, 4, none⟩ (.int .i64 gz)) G i j (q : Int) (p : Int) gz) := (RG.out).put4 _
          generalize x1.setCell ⟨G, 4, none⟩ (.int .i64 gz) = x1 at HD RR RG ⊢
          have z0 := RG.out.c0
          have z1 := RG.out.c1
          have z2 := RG.out.c2
          have z3 := RG.out.c3
          have z4 := RG.out.c4
          have y0 := RR.out.c0
          have y1 := RR.out.c1
          have y2 := RR.out.c2
          have y3 := RR.out.c3
          have y4 := RR.out.c4
          have g0 := RR.out.fz 0
          have g1 := RR.out.fz 1
          have g2 := RR.out.fz 2
          have g3 := RR.out.fz 3
          have g4 := RR.out.fz 4
          go_wp2
          have HX : Hid (Dt w c a len cap B tg nt tc ts (((((x1.setCell ⟨w.heap.size, 0, none⟩ (.int .i64 (i : Int))).setCell ⟨w.heap.size, 1, none⟩ (.int .i64 (j : Int))).setCell ⟨w.heap.size, 2, none⟩ (.int .i64 (q : Int))).setCell ⟨w.heap.size, 3, none⟩ (.int .i64 (p : Int))).setCell ⟨w.heap.size, 4, none⟩ (.int .i64 gz))) := H0.out.put (H0.out.put (H0.out.put (H0.out.put (H0.out.put HD.out (Nat.le_refl _) _ _) (Nat.le_refl _) _ _) (Nat.le_refl _) _ _) (Nat.le_refl _) _ _) (Nat.le_refl _) _ _
          have RX := ((((RR.out.put0 (i : Int)).put1 (j : Int)).put2 (q : Int)).put3 (p : Int)).put4 gz
          generalize ((((x1.setCell ⟨w.heap.size, 0, none⟩ (.int .i64 (i : Int))).setCell ⟨w.heap.size, 1, none⟩ (.int .i64 (j : Int))).setCell ⟨w.heap.size, 2, none⟩ (.int .i64 (q : Int))).setCell ⟨w.heap.size, 3, none⟩ (.int .i64 (p : Int))).setCell ⟨w.heap.size, 4, none⟩ (.int .i64 gz) = X at HX RX ⊢
          obtain ⟨k0, k1, k2, k3, k4, _⟩ := RX
          refine bodyPost_ret (v := .agg #[.int .i64 (i : Int), .int .i64 (j : Int), .int .i64 (q : Int), .int .i64 (p : Int), .int .i64 gz]) (by simp [results, Try.results66, go_sem, k0, k1, k2, k3, k4]) rfl ?_
          exact ⟨⟨(i : Int), (j : Int), (q : Int), (p : Int), gz⟩, rfl, HX.out⟩
        · skip
          have z0 := RG.out.c0
          have z1 := RG.out.c1
          have z2 := RG.out.c2
          have z3 := RG.out.c3
          have z4 := RG.out.c4
          have y0 := RR.out.c0
          have y1 := RR.out.c1
          have y2 := RR.out.c2
          have y3 := RR.out.c3
          have y4 := RR.out.c4
          have g0 := RR.out.fz 0
          have g1 := RR.out.fz 1
          have g2 := RR.out.fz 2
          have g3 := RR.out.fz 3
          have g4 := RR.out.fz 4
          go_wp2
          have HX : Hid (Dt w c a len cap B tg nt tc ts (((((x1.setCell ⟨w.heap.size, 0, none⟩ (.int .i64 (i : Int))).setCell ⟨w.heap.size, 1, none⟩ (.int .i64 (j : Int))).setCell ⟨w.heap.size, 2, none⟩ (.int .i64 (q : Int))).setCell ⟨w.heap.size, 3, none⟩ (.int .i64 (p : Int))).setCell ⟨w.heap.size, 4, none⟩ (.int .i64 0))) := H0.out.put (H0.out.put (H0.out.put (H0.out.put (H0.out.put HD.out (Nat.le_refl _) _ _) (Nat.le_refl _) _ _) (Nat.le_refl _) _ _) (Nat.le_refl _) _ _) (Nat.le_refl _) _ _
          have RX := ((((RR.out.put0 (i : Int)).put1 (j : Int)).put2 (q : Int)).put3 (p : Int)).put4 0
          generalize ((((x1.setCell ⟨w.heap.size, 0, none⟩ (.int .i64 (i : Int))).setCell ⟨w.heap.size, 1, none⟩ (.int .i64 (j : Int))).setCell ⟨w.heap.size, 2, none⟩ (.int .i64 (q : Int))).setCell ⟨w.heap.size, 3, none⟩ (.int .i64 (p : Int))).setCell ⟨w.heap.size, 4, none⟩ (.int .i64 0) = X at HX RX ⊢
          obtain ⟨k0, k1, k2, k3, k4, _⟩ := RX
          refine bodyPost_ret (v := .agg #[.int .i64 (i : Int), .int .i64 (j : Int), .int .i64 (q : Int), .int .i64 (p : Int), .int .i64 0]) (by simp [results, Try.results66, go_sem, k0, k1, k2, k3, k4]) rfl ?_
          exact ⟨⟨(i : Int), (j : Int), (q : Int), (p : Int), 0⟩, rfl, HX.out⟩
      · clear z0 z1 z2 z3 z4 f2 f3 f4 q1 q2 q3
        go_upto_region 9 with (go_at_call 55; refine (once_x HD.out.cu 4).mono ?_; rintro e x1 ⟨x, rfl, hc1, hk1⟩; have HD : Hid (Dt w c a len cap B tg nt tc ts x1) := HD.out.keep hc1 hk1 hB; have RR : Hid (R5 x1 w.heap.size 0 0 0 0 0) := RR.out.keep hk1 (by omega); have RG : Hid (R5 x1 G i j gi m7 0) := RG.out.keep hk1 (by omega); have f4 := RG.out.fz 4; have z4 := RG.out.c4; clear hc1 hk1)
        · skip
          have HD : Hid (Dt w c a len cap B tg nt tc ts (x1.setCell ⟨G, 4, none⟩ (.int .i64 gz))) := H0.out.put (HD.out) hG2 _ _
          have RR : Hid (R5 (x1.setCell ⟨G, 4, none⟩ (.int .i64 gz)) w.heap.size 0 0 0 0 0) := (RR.out).off (by omega) _ _
          have RG : Hid (R5 (x1.setCell ⟨G, 4, none⟩ (.int .i64 gz)) G i j gi m7 gz) := (RG.out).put4 _
          generalize x1.setCell ⟨G, 4, none⟩ (.int .i64 gz) = x1 at HD RR RG ⊢
          have z0 := RG.out.c0
          have z1 := RG.out.c1
          have z2 := RG.out.c2
          have z3 := RG.out.c3
          have z4 := RG.out.c4
          have y0 := RR.out.c0
          have y1 := RR.out.c1
          have y2 := RR.out.c2
          have y3 := RR.out.c3
          have y4 := RR.out.c4
          have g0 := RR.out.fz 0
          have g1 := RR.out.fz 1
          have g2 := RR.out.fz 2
          have g3 := RR.out.fz 3
          have g4 := RR.out.fz 4
          go_wp2
          have HX : Hid (Dt w c a len cap B tg nt tc ts (((((x1.setCell ⟨w.heap.size, 0, none⟩ (.int .i64 (i : Int))).setCell ⟨w.heap.size, 1, none⟩ (.int .i64 (j : Int))).setCell ⟨w.heap.size, 2, none⟩ (.int .i64 gi)).setCell ⟨w.heap.size, 3, none⟩ (.int .i64 m7)).setCell ⟨w.heap.size, 4, none⟩ (.int .i64 gz))) := H0.out.put (H0.out.put (H0.out.put (H0.out.put (H0.out.put HD.out (Nat.le_refl _) _ _) (Nat.le_refl _) _ _) (Nat.le_refl _) _ _) (Nat.le_refl _) _ _) (Nat.le_refl _) _ _
          have RX := ((((RR.out.put0 (i : Int)).put1 (j : Int)).put2 gi).put3 m7).put4 gz
          generalize ((((x1.setCell ⟨w.heap.size, 0, none⟩ (.int .i64 (i : Int))).setCell ⟨w.heap.size, 1, none⟩ (.int .i64 (j : Int))).setCell ⟨w.heap.size, 2, none⟩ (.int .i64 gi)).setCell ⟨w.heap.size, 3, none⟩ (.int .i64 m7)).setCell ⟨w.heap.size, 4, none⟩ (.int .i64 gz) = X at HX RX ⊢
          obtain ⟨k0, k1, k2, k3, k4, _⟩ := RX
          refine bodyPost_ret (v := .agg #[.int .i64 (i : Int), .int .i64 (j : Int), .int .i64 gi, .int .i64 m7, .int .i64 gz]) (by simp [results, Try.results66, go_sem, k0, k1, k2, k3, k4]) rfl ?_
          exact ⟨⟨(i : Int), (j : Int), gi, m7, gz⟩, rfl, HX.out⟩
        · skip
          have z0 := RG.out.c0
          have z1 := RG.out.c1
          have z2 := RG.out.c2
          have z3 := RG.out.c3
          have z4 := RG.out.c4
          have y0 := RR.out.c0
          have y1 := RR.out.c1
          have y2 := RR.out.c2
          have y3 := RR.out.c3
          have y4 := RR.out.c4
          have g0 := RR.out.fz 0
          have g1 := RR.out.fz 1
          have g2 := RR.out.fz 2
          have g3 := RR.out.fz 3
          have g4 := RR.out.fz 4
          go_wp2
          have HX : Hid (Dt w c a len cap B tg nt tc ts (((((x1.setCell ⟨w.heap.size, 0, none⟩ (.int .i64 (i : Int))).setCell ⟨w.heap.size, 1, none⟩ (.int .i64 (j : Int))).setCell ⟨w.heap.size, 2, none⟩ (.int .i64 gi)).setCell ⟨w.heap.size, 3, none⟩ (.int .i64 m7)).setCell ⟨w.heap.size, 4, none⟩ (.int .i64 0))) := H0.out.put (H0.out.put (H0.out.put (H0.out.put (H0.out.put HD.out (Nat.le_refl _) _ _) (Nat.le_refl _) _ _) (Nat.le_refl _) _ _) (Nat.le_refl _) _ _) (Nat.le_refl _) _ _
          have RX := ((((RR.out.put0 (i : Int)).put1 (j : Int)).put2 gi).put3 m7).put4 0
          generalize ((((x1.setCell ⟨w.heap.size, 0, none⟩ (.int .i64 (i : Int))).setCell ⟨w.heap.size, 1, none⟩ (.int .i64 (j : Int))).setCell ⟨w.heap.size, 2, none⟩ (.int .i64 gi)).setCell ⟨w.heap.size, 3, none⟩ (.int .i64 m7)).setCell ⟨w.heap.size, 4, none⟩ (.int .i64 0) = X at HX RX ⊢
          obtain ⟨k0, k1, k2, k3, k4, _⟩ := RX
          refine bodyPost_ret (v := .agg #[.int .i64 (i : Int), .int .i64 (j : Int), .int .i64 gi, .int .i64 m7, .int .i64 0]) (by simp [results, Try.results66, go_sem, k0, k1, k2, k3, k4]) rfl ?_
          exact ⟨⟨(i : Int), (j : Int), gi, m7, 0⟩, rfl, HX.out⟩

end Go.Proofs.Ytlccicbgepfbbaa

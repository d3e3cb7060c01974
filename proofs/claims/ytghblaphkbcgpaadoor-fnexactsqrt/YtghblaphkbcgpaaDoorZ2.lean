/- Wrong arguments and NaNs, on the program's side. -/
import Derived.Test.YtghblaphkbcgpaaDoorHZ1
import Derived.Test.YtghblaphkbcgpaaDoorK1
namespace Go.Proofs.YtghblaphkbcgpaaDoor
open Go.RowKit

set_option maxRecDepth 100000 in
theorem early_no {w : World} (f mode : Int) (v : Value) (hno : (f < 1 ∨ 3 < f) ∨ (mode < 1 ∨ 5 < mode)) :
    Calls Tryd.prog 14 #[.int .i64 f, .int .i64 mode, v] w fun e w' => e = .returned (.tuple #[.int .u64 0, .int .i64 0, .bool true]) ∧ Below w.heap.size w w' := by
  by_cases f1 : 1 ≤ f
  · by_cases f3 : f ≤ 3
    · by_cases m1 : 1 ≤ mode
      · have m5 : ¬ mode ≤ 5 := by omega
        clear hno
        go_enter Tryd.func14, Tryd.ntmps14
        go_wp2_with (first | (go_at_call 34; go_in) | (go_at_call 35; go_in))
        go_ret3
        exact ⟨rfl, Below.refl _ _⟩
      · clear hno
        go_enter Tryd.func14, Tryd.ntmps14
        go_wp2_with (first | (go_at_call 34; go_in) | (go_at_call 35; go_in))
        go_ret3
        exact ⟨rfl, Below.refl _ _⟩
    · clear hno
      go_enter Tryd.func14, Tryd.ntmps14
      go_wp2_with (first | (go_at_call 34; go_in) | (go_at_call 35; go_in))
      go_ret3
      exact ⟨rfl, Below.refl _ _⟩
  · clear hno
    go_enter Tryd.func14, Tryd.ntmps14
    go_wp2_with (first | (go_at_call 34; go_in) | (go_at_call 35; go_in))
    go_ret3
    exact ⟨rfl, Below.refl _ _⟩

/-- What earlyAnswer answers: al, whether all are bits of the form; an, whether one is a NaN. -/
def eaV (al an : Bool) (pl fl : Int) : Value := match al, an with
  | false, _ => .tuple #[.int .u64 0, .int .i64 0, .bool true]
  | true, false => .tuple #[.int .u64 0, .int .i64 0, .bool false]
  | true, true => .tuple #[.int .u64 pl, .int .i64 fl, .bool true]

/-- What earlyAnswer has laid: the shape, and the list as it was; the table of forms. -/
structure Ly (B g n : Nat) (wd p t : Int) (xs : Nat → Int) (w W : World) : Prop where
  a0 : W.cell? ⟨B, 0, none⟩ = some (.int .i64 wd)
  a1 : W.cell? ⟨B, 1, none⟩ = some (.int .i64 p)
  a2 : W.cell? ⟨B, 2, none⟩ = some (.int .i64 t)
  cs : ∀ k, k < n → W.cell? ⟨g, k, none⟩ = some (.int .u64 (xs k))
  gl : g < W.heap.size
  sh : Shp W
  bl : Below B w W

theorem Ly.step {B g n : Nat} {wd p t : Int} {xs : Nat → Int} {w W V : World} (h : Ly B g n wd p t xs w W) (hb : Below W.heap.size W V) : Ly B g n wd p t xs w V := by
  have hl : B < W.heap.size := World.block_lt_of_cell? W _ h.a0
  have c : ∀ o, V.cell? ⟨B, o, none⟩ = W.cell? ⟨B, o, none⟩ := fun o => hb.cell (p := ⟨B, o, none⟩) hl
  exact ⟨(c _).trans h.a0, (c _).trans h.a1, (c _).trans h.a2, fun k hk => (hb.cell (p := ⟨g, k, none⟩) h.gl).trans (h.cs k hk), Nat.lt_of_lt_of_le h.gl hb.size, shp_below h.sh (shp_pos h.sh) hb, h.bl.trans (hb.mono (by omega))⟩

set_option maxRecDepth 100000 in
set_option maxHeartbeats 4000000 in
theorem early_any {f wd p t S D h q : Int} (hF : Frm f wd p t S D h q) {w : World} {v : Value} {n : Nat} {xs : Nat → Int} (hv : Lu w v n xs) (hn : n ≤ 1000) (mode : Int) (hm0 : 1 ≤ mode) (hm1 : mode ≤ 5) (hs : Shp w) (pl : Int) (br nn sg : Nat → Bool)
    (hb : ∀ k, k < n → ∀ w, Shp w → Calls Tryd.prog 36 #[.int .i64 f, .int .u64 (xs k)] w fun e w' => e = .returned (.bool (br k)) ∧ w' = w)
    (hN : ∀ k, k < n → br k = true → ∀ w, Calls Tryd.prog 37 #[.agg #[.int .i64 wd, .int .i64 p, .int .i64 t], .int .u64 (xs k)] w fun e w' => e = .returned (.bool (nn k)) ∧ Below w.heap.size w w')
    (hS : ∀ k, k < n → br k = true → ∀ w, Calls Tryd.prog 38 #[.agg #[.int .i64 wd, .int .i64 p, .int .i64 t], .int .u64 (xs k)] w fun e w' => e = .returned (.bool (sg k)) ∧ Below w.heap.size w w')
    (hP : ∀ w, Calls Tryd.prog 39 #[.agg #[.int .i64 wd, .int .i64 p, .int .i64 t]] w fun e w' => e = .returned (.int .u64 pl) ∧ Below w.heap.size w w') :
    Calls Tryd.prog 14 #[.int .i64 f, .int .i64 mode, v] w fun e w' => e = .returned (eaV (allB br n) (anyB nn n) pl (fgB sg n)) ∧ Below w.heap.size w w' := by
  have hz := shp_pos hs
  obtain ⟨g, cap, rfl, hg, hc⟩ := hv
  have hf : 1 ≤ f ∧ f ≤ 3 := by rcases hF with ⟨rfl, _⟩ | ⟨rfl, _⟩ | ⟨rfl, _⟩ <;> decide
  have h0 : Ly w.heap.size g n wd p t xs w (w.alloc (Obj.cells #[.int .i64 wd, .int .i64 p, .int .i64 t] 58)) := by
    refine ⟨by simp, by simp, by simp, fun k hk => ?_, by simp; omega, shp_below hs hz (below_one _), below_one _⟩
    rw [World.cell?_alloc_past _ _ _ hg]
    exact hc k hk
  have HL : Hid (Ly w.heap.size g n wd p t xs w (w.alloc (Obj.cells #[.int .i64 wd, .int .i64 p, .int .i64 t] 58))) := h0
  have HB : Hid _ := hb
  have HN : Hid _ := hN
  have HS : Hid _ := hS
  clear h0 hb hN hS hc
  obtain ⟨c0, c1, c2, c3, c4, c5, c6, c7, c8, c9, c10, c11⟩ := hs
  obtain ⟨hf0, hf1⟩ := hf
  rcases hF with ⟨rfl, rfl, rfl, rfl, rfl, rfl, rfl, rfl⟩ | ⟨rfl, rfl, rfl, rfl, rfl, rfl, rfl, rfl⟩ | ⟨rfl, rfl, rfl, rfl, rfl, rfl, rfl, rfl⟩
  · go_enter Tryd.func14, Tryd.ntmps14
    go_wp2_with (first | (go_at_call 34; go_in) | (go_at_call 35; go_in))
    clear c0 c1 c2 c3 c4 c5 c6 c7 c8 c9 c10 c11
    go_loopw [10, 11, 27] (fun b fl i wr => ∃ k : Nat, i = .int .i64 k ∧ k ≤ n ∧ Hid (allB br k = true) ∧ b = .bool (anyB nn k) ∧ fl = .int .i64 (fgB sg k) ∧ Hid (Ly w.heap.size g n 16 11 15 xs w wr)) (fun _ _ i _ => n - (intOf i).toNat)
    case atStart => exact ⟨0, rfl, by omega, rfl, rfl, rfl, HL⟩
    case round =>
      obtain ⟨k, rfl, hk, HAL, rfl, rfl, hly0⟩ := hrel
      have hly := hly0.out
      have a0 := hly.a0
      have a1 := hly.a1
      have a2 := hly.a2
      by_cases h1 : k < n
      · have cx := hly.cs k h1
        have h47 := HB.out k h1
        cases hbr : br k
        · rw [hbr] at h47
          have HA : Hid (allB br n = false) := allB_no h1 hbr
          have HBL : Hid (Below w.heap.size w wr) := hly.bl
          go_wp2_with (go_at_call 36; refine (h47 _ hly.sh).mono ?_; rintro e w' ⟨rfl, hw⟩; obtain rfl := hw.symm)
          go_ret3
          refine ⟨?_, HBL.out⟩
          rw [HA.out]
          rfl
        · rw [hbr] at h47
          have h63 := HN.out k h1 hbr
          have h48 := HS.out k h1 hbr
          have HBR : Hid (br k = true) := hbr
          have HNN : Hid (anyB nn (k + 1) = (anyB nn k || nn k)) := rfl
          have HGG : Hid (fgB sg (k + 1) = bif sg k then 16 else fgB sg k) := rfl
          clear hbr
          generalize anyB nn k = an at *
          generalize fgB sg k = asg at *
          cases an
          · cases hsg : sg k
            · rw [hsg] at h48
              go_wp2_with (first | (go_at_call 36; refine (h47 _ hly.sh).mono ?_; rintro e w' ⟨rfl, hw⟩; obtain rfl := hw.symm) | (go_at_call 37; refine (h63 _).mono ?_; rintro e w1 ⟨rfl, hb1⟩; have l1 := hly.step hb1; have a0p := l1.a0; have a1p := l1.a1; have a2p := l1.a2) | (go_at_call 38; refine (h48 _).mono ?_; rintro e w2 ⟨rfl, hb2⟩))
              go_roundw
              case rel =>
                repeat apply Exists.intro
                exact ⟨⟨k + 1, by go_num, by omega, (show allB br (k + 1) = true by simp [allB, HAL.out, HBR.out]), by rw [HNN.out]; simp, by rw [HGG.out, hsg]; rfl, (hly.step hb1).step hb2⟩, rfl⟩
              case measure => simp [intOf]; omega
            · rw [hsg] at h48
              go_wp2_with (first | (go_at_call 36; refine (h47 _ hly.sh).mono ?_; rintro e w' ⟨rfl, hw⟩; obtain rfl := hw.symm) | (go_at_call 37; refine (h63 _).mono ?_; rintro e w1 ⟨rfl, hb1⟩; have l1 := hly.step hb1; have a0p := l1.a0; have a1p := l1.a1; have a2p := l1.a2) | (go_at_call 38; refine (h48 _).mono ?_; rintro e w2 ⟨rfl, hb2⟩))
              go_roundw
              case rel =>
                repeat apply Exists.intro
                exact ⟨⟨k + 1, by go_num, by omega, (show allB br (k + 1) = true by simp [allB, HAL.out, HBR.out]), by rw [HNN.out]; simp, by rw [HGG.out, hsg]; rfl, (hly.step hb1).step hb2⟩, rfl⟩
              case measure => simp [intOf]; omega
          · cases hsg : sg k
            · rw [hsg] at h48
              go_wp2_with (first | (go_at_call 36; refine (h47 _ hly.sh).mono ?_; rintro e w' ⟨rfl, hw⟩; obtain rfl := hw.symm) | (go_at_call 37; refine (h63 _).mono ?_; rintro e w1 ⟨rfl, hb1⟩; have l1 := hly.step hb1; have a0p := l1.a0; have a1p := l1.a1; have a2p := l1.a2) | (go_at_call 38; refine (h48 _).mono ?_; rintro e w2 ⟨rfl, hb2⟩))
              go_roundw
              case rel =>
                repeat apply Exists.intro
                exact ⟨⟨k + 1, by go_num, by omega, (show allB br (k + 1) = true by simp [allB, HAL.out, HBR.out]), by rw [HNN.out]; simp, by rw [HGG.out, hsg]; rfl, hly.step hb2⟩, rfl⟩
              case measure => simp [intOf]; omega
            · rw [hsg] at h48
              go_wp2_with (first | (go_at_call 36; refine (h47 _ hly.sh).mono ?_; rintro e w' ⟨rfl, hw⟩; obtain rfl := hw.symm) | (go_at_call 37; refine (h63 _).mono ?_; rintro e w1 ⟨rfl, hb1⟩; have l1 := hly.step hb1; have a0p := l1.a0; have a1p := l1.a1; have a2p := l1.a2) | (go_at_call 38; refine (h48 _).mono ?_; rintro e w2 ⟨rfl, hb2⟩))
              go_roundw
              case rel =>
                repeat apply Exists.intro
                exact ⟨⟨k + 1, by go_num, by omega, (show allB br (k + 1) = true by simp [allB, HAL.out, HBR.out]), by rw [HNN.out]; simp, by rw [HGG.out, hsg]; rfl, hly.step hb2⟩, rfl⟩
              case measure => simp [intOf]; omega
      · obtain rfl : k = n := by omega
        have HBL : Hid (Below w.heap.size w wr) := hly.bl
        have HA : Hid (allB br k = true) := HAL
        cases hnn : anyB nn k
        · have HN2 : Hid (anyB nn k = false) := hnn
          clear hnn
          go_wp2
          go_ret3
          refine ⟨?_, HBL.out⟩
          rw [HA.out, HN2.out]
          rfl
        · have HN2 : Hid (anyB nn k = true) := hnn
          clear hnn
          go_wp2_with (go_at_call 39; refine (hP _).mono ?_; rintro e w1 ⟨rfl, hb1⟩)
          go_ret3
          refine ⟨?_, (hly.step hb1).bl⟩
          rw [HA.out, HN2.out]
          rfl
  · go_enter Tryd.func14, Tryd.ntmps14
    go_wp2_with (first | (go_at_call 34; go_in) | (go_at_call 35; go_in))
    clear c0 c1 c2 c3 c4 c5 c6 c7 c8 c9 c10 c11
    go_loopw [10, 11, 27] (fun b fl i wr => ∃ k : Nat, i = .int .i64 k ∧ k ≤ n ∧ Hid (allB br k = true) ∧ b = .bool (anyB nn k) ∧ fl = .int .i64 (fgB sg k) ∧ Hid (Ly w.heap.size g n 32 24 127 xs w wr)) (fun _ _ i _ => n - (intOf i).toNat)
    case atStart => exact ⟨0, rfl, by omega, rfl, rfl, rfl, HL⟩
    case round =>
      obtain ⟨k, rfl, hk, HAL, rfl, rfl, hly0⟩ := hrel
      have hly := hly0.out
      have a0 := hly.a0
      have a1 := hly.a1
      have a2 := hly.a2
      by_cases h1 : k < n
      · have cx := hly.cs k h1
        have h47 := HB.out k h1
        cases hbr : br k
        · rw [hbr] at h47
          have HA : Hid (allB br n = false) := allB_no h1 hbr
          have HBL : Hid (Below w.heap.size w wr) := hly.bl
          go_wp2_with (go_at_call 36; refine (h47 _ hly.sh).mono ?_; rintro e w' ⟨rfl, hw⟩; obtain rfl := hw.symm)
          go_ret3
          refine ⟨?_, HBL.out⟩
          rw [HA.out]
          rfl
        · rw [hbr] at h47
          have h63 := HN.out k h1 hbr
          have h48 := HS.out k h1 hbr
          have HBR : Hid (br k = true) := hbr
          have HNN : Hid (anyB nn (k + 1) = (anyB nn k || nn k)) := rfl
          have HGG : Hid (fgB sg (k + 1) = bif sg k then 16 else fgB sg k) := rfl
          clear hbr
          generalize anyB nn k = an at *
          generalize fgB sg k = asg at *
          cases an
          · cases hsg : sg k
            · rw [hsg] at h48
              go_wp2_with (first | (go_at_call 36; refine (h47 _ hly.sh).mono ?_; rintro e w' ⟨rfl, hw⟩; obtain rfl := hw.symm) | (go_at_call 37; refine (h63 _).mono ?_; rintro e w1 ⟨rfl, hb1⟩; have l1 := hly.step hb1; have a0p := l1.a0; have a1p := l1.a1; have a2p := l1.a2) | (go_at_call 38; refine (h48 _).mono ?_; rintro e w2 ⟨rfl, hb2⟩))
              go_roundw
              case rel =>
                repeat apply Exists.intro
                exact ⟨⟨k + 1, by go_num, by omega, (show allB br (k + 1) = true by simp [allB, HAL.out, HBR.out]), by rw [HNN.out]; simp, by rw [HGG.out, hsg]; rfl, (hly.step hb1).step hb2⟩, rfl⟩
              case measure => simp [intOf]; omega
            · rw [hsg] at h48
              go_wp2_with (first | (go_at_call 36; refine (h47 _ hly.sh).mono ?_; rintro e w' ⟨rfl, hw⟩; obtain rfl := hw.symm) | (go_at_call 37; refine (h63 _).mono ?_; rintro e w1 ⟨rfl, hb1⟩; have l1 := hly.step hb1; have a0p := l1.a0; have a1p := l1.a1; have a2p := l1.a2) | (go_at_call 38; refine (h48 _).mono ?_; rintro e w2 ⟨rfl, hb2⟩))
              go_roundw
              case rel =>
                repeat apply Exists.intro
                exact ⟨⟨k + 1, by go_num, by omega, (show allB br (k + 1) = true by simp [allB, HAL.out, HBR.out]), by rw [HNN.out]; simp, by rw [HGG.out, hsg]; rfl, (hly.step hb1).step hb2⟩, rfl⟩
              case measure => simp [intOf]; omega
          · cases hsg : sg k
            · rw [hsg] at h48
              go_wp2_with (first | (go_at_call 36; refine (h47 _ hly.sh).mono ?_; rintro e w' ⟨rfl, hw⟩; obtain rfl := hw.symm) | (go_at_call 37; refine (h63 _).mono ?_; rintro e w1 ⟨rfl, hb1⟩; have l1 := hly.step hb1; have a0p := l1.a0; have a1p := l1.a1; have a2p := l1.a2) | (go_at_call 38; refine (h48 _).mono ?_; rintro e w2 ⟨rfl, hb2⟩))
              go_roundw
              case rel =>
                repeat apply Exists.intro
                exact ⟨⟨k + 1, by go_num, by omega, (show allB br (k + 1) = true by simp [allB, HAL.out, HBR.out]), by rw [HNN.out]; simp, by rw [HGG.out, hsg]; rfl, hly.step hb2⟩, rfl⟩
              case measure => simp [intOf]; omega
            · rw [hsg] at h48
              go_wp2_with (first | (go_at_call 36; refine (h47 _ hly.sh).mono ?_; rintro e w' ⟨rfl, hw⟩; obtain rfl := hw.symm) | (go_at_call 37; refine (h63 _).mono ?_; rintro e w1 ⟨rfl, hb1⟩; have l1 := hly.step hb1; have a0p := l1.a0; have a1p := l1.a1; have a2p := l1.a2) | (go_at_call 38; refine (h48 _).mono ?_; rintro e w2 ⟨rfl, hb2⟩))
              go_roundw
              case rel =>
                repeat apply Exists.intro
                exact ⟨⟨k + 1, by go_num, by omega, (show allB br (k + 1) = true by simp [allB, HAL.out, HBR.out]), by rw [HNN.out]; simp, by rw [HGG.out, hsg]; rfl, hly.step hb2⟩, rfl⟩
              case measure => simp [intOf]; omega
      · obtain rfl : k = n := by omega
        have HBL : Hid (Below w.heap.size w wr) := hly.bl
        have HA : Hid (allB br k = true) := HAL
        cases hnn : anyB nn k
        · have HN2 : Hid (anyB nn k = false) := hnn
          clear hnn
          go_wp2
          go_ret3
          refine ⟨?_, HBL.out⟩
          rw [HA.out, HN2.out]
          rfl
        · have HN2 : Hid (anyB nn k = true) := hnn
          clear hnn
          go_wp2_with (go_at_call 39; refine (hP _).mono ?_; rintro e w1 ⟨rfl, hb1⟩)
          go_ret3
          refine ⟨?_, (hly.step hb1).bl⟩
          rw [HA.out, HN2.out]
          rfl
  · go_enter Tryd.func14, Tryd.ntmps14
    go_wp2_with (first | (go_at_call 34; go_in) | (go_at_call 35; go_in))
    clear c0 c1 c2 c3 c4 c5 c6 c7 c8 c9 c10 c11
    go_loopw [10, 11, 27] (fun b fl i wr => ∃ k : Nat, i = .int .i64 k ∧ k ≤ n ∧ Hid (allB br k = true) ∧ b = .bool (anyB nn k) ∧ fl = .int .i64 (fgB sg k) ∧ Hid (Ly w.heap.size g n 64 53 1023 xs w wr)) (fun _ _ i _ => n - (intOf i).toNat)
    case atStart => exact ⟨0, rfl, by omega, rfl, rfl, rfl, HL⟩
    case round =>
      obtain ⟨k, rfl, hk, HAL, rfl, rfl, hly0⟩ := hrel
      have hly := hly0.out
      have a0 := hly.a0
      have a1 := hly.a1
      have a2 := hly.a2
      by_cases h1 : k < n
      · have cx := hly.cs k h1
        have h47 := HB.out k h1
        cases hbr : br k
        · rw [hbr] at h47
          have HA : Hid (allB br n = false) := allB_no h1 hbr
          have HBL : Hid (Below w.heap.size w wr) := hly.bl
          go_wp2_with (go_at_call 36; refine (h47 _ hly.sh).mono ?_; rintro e w' ⟨rfl, hw⟩; obtain rfl := hw.symm)
          go_ret3
          refine ⟨?_, HBL.out⟩
          rw [HA.out]
          rfl
        · rw [hbr] at h47
          have h63 := HN.out k h1 hbr
          have h48 := HS.out k h1 hbr
          have HBR : Hid (br k = true) := hbr
          have HNN : Hid (anyB nn (k + 1) = (anyB nn k || nn k)) := rfl
          have HGG : Hid (fgB sg (k + 1) = bif sg k then 16 else fgB sg k) := rfl
          clear hbr
          generalize anyB nn k = an at *
          generalize fgB sg k = asg at *
          cases an
          · cases hsg : sg k
            · rw [hsg] at h48
              go_wp2_with (first | (go_at_call 36; refine (h47 _ hly.sh).mono ?_; rintro e w' ⟨rfl, hw⟩; obtain rfl := hw.symm) | (go_at_call 37; refine (h63 _).mono ?_; rintro e w1 ⟨rfl, hb1⟩; have l1 := hly.step hb1; have a0p := l1.a0; have a1p := l1.a1; have a2p := l1.a2) | (go_at_call 38; refine (h48 _).mono ?_; rintro e w2 ⟨rfl, hb2⟩))
              go_roundw
              case rel =>
                repeat apply Exists.intro
                exact ⟨⟨k + 1, by go_num, by omega, (show allB br (k + 1) = true by simp [allB, HAL.out, HBR.out]), by rw [HNN.out]; simp, by rw [HGG.out, hsg]; rfl, (hly.step hb1).step hb2⟩, rfl⟩
              case measure => simp [intOf]; omega
            · rw [hsg] at h48
              go_wp2_with (first | (go_at_call 36; refine (h47 _ hly.sh).mono ?_; rintro e w' ⟨rfl, hw⟩; obtain rfl := hw.symm) | (go_at_call 37; refine (h63 _).mono ?_; rintro e w1 ⟨rfl, hb1⟩; have l1 := hly.step hb1; have a0p := l1.a0; have a1p := l1.a1; have a2p := l1.a2) | (go_at_call 38; refine (h48 _).mono ?_; rintro e w2 ⟨rfl, hb2⟩))
              go_roundw
              case rel =>
                repeat apply Exists.intro
                exact ⟨⟨k + 1, by go_num, by omega, (show allB br (k + 1) = true by simp [allB, HAL.out, HBR.out]), by rw [HNN.out]; simp, by rw [HGG.out, hsg]; rfl, (hly.step hb1).step hb2⟩, rfl⟩
              case measure => simp [intOf]; omega
          · cases hsg : sg k
            · rw [hsg] at h48
              go_wp2_with (first | (go_at_call 36; refine (h47 _ hly.sh).mono ?_; rintro e w' ⟨rfl, hw⟩; obtain rfl := hw.symm) | (go_at_call 37; refine (h63 _).mono ?_; rintro e w1 ⟨rfl, hb1⟩; have l1 := hly.step hb1; have a0p := l1.a0; have a1p := l1.a1; have a2p := l1.a2) | (go_at_call 38; refine (h48 _).mono ?_; rintro e w2 ⟨rfl, hb2⟩))
              go_roundw
              case rel =>
                repeat apply Exists.intro
                exact ⟨⟨k + 1, by go_num, by omega, (show allB br (k + 1) = true by simp [allB, HAL.out, HBR.out]), by rw [HNN.out]; simp, by rw [HGG.out, hsg]; rfl, hly.step hb2⟩, rfl⟩
              case measure => simp [intOf]; omega
            · rw [hsg] at h48
              go_wp2_with (first | (go_at_call 36; refine (h47 _ hly.sh).mono ?_; rintro e w' ⟨rfl, hw⟩; obtain rfl := hw.symm) | (go_at_call 37; refine (h63 _).mono ?_; rintro e w1 ⟨rfl, hb1⟩; have l1 := hly.step hb1; have a0p := l1.a0; have a1p := l1.a1; have a2p := l1.a2) | (go_at_call 38; refine (h48 _).mono ?_; rintro e w2 ⟨rfl, hb2⟩))
              go_roundw
              case rel =>
                repeat apply Exists.intro
                exact ⟨⟨k + 1, by go_num, by omega, (show allB br (k + 1) = true by simp [allB, HAL.out, HBR.out]), by rw [HNN.out]; simp, by rw [HGG.out, hsg]; rfl, hly.step hb2⟩, rfl⟩
              case measure => simp [intOf]; omega
      · obtain rfl : k = n := by omega
        have HBL : Hid (Below w.heap.size w wr) := hly.bl
        have HA : Hid (allB br k = true) := HAL
        cases hnn : anyB nn k
        · have HN2 : Hid (anyB nn k = false) := hnn
          clear hnn
          go_wp2
          go_ret3
          refine ⟨?_, HBL.out⟩
          rw [HA.out, HN2.out]
          rfl
        · have HN2 : Hid (anyB nn k = true) := hnn
          clear hnn
          go_wp2_with (go_at_call 39; refine (hP _).mono ?_; rintro e w1 ⟨rfl, hb1⟩)
          go_ret3
          refine ⟨?_, (hly.step hb1).bl⟩
          rw [HA.out, HN2.out]
          rfl
end Go.Proofs.YtghblaphkbcgpaaDoor

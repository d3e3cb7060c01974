/- The best shape: the program. -/
import Derived.Test.YtndagpompioooaaDoorSH
import Derived.Test.YtndagpompioooaaDoorUF
import Derived.Test.YtndagpompioooaaDoorRW
namespace Go.Proofs.YtndagpompioooaaDoor
open Go.RowKit

/-- A frame's shape in a block. -/
structure Sh (W : World) (g : Nat) (a b : Int) (v : Value) : Prop where
  c0 : W.cell? ⟨g, 0, none⟩ = some (.int .i64 a)
  c1 : W.cell? ⟨g, 1, none⟩ = some (.int .i64 b)
  c2 : W.cell? ⟨g, 2, none⟩ = some v
  z0 : W.frozen? ⟨g, 0, none⟩ = false
  z1 : W.frozen? ⟨g, 1, none⟩ = false
  z2 : W.frozen? ⟨g, 2, none⟩ = false

theorem Sh.lt {W : World} {g : Nat} {a b : Int} {v : Value} (h : Sh W g a b v) : g < W.heap.size := World.block_lt_of_cell? W _ h.c0
theorem Sh.below {W W' : World} {g : Nat} {a b : Int} {v : Value} (h : Sh W g a b v) (hb : Below W.heap.size W W') : Sh W' g a b v :=
  ⟨(hb.cell h.lt).trans h.c0, (hb.cell h.lt).trans h.c1, (hb.cell h.lt).trans h.c2, (hb.frozen h.lt).trans h.z0, (hb.frozen h.lt).trans h.z1, (hb.frozen h.lt).trans h.z2⟩
theorem Sh.block {W W' : World} {g : Nat} {a b : Int} {v : Value} (h : Sh W g a b v) (hb : W'.heap[g]? = W.heap[g]?) : Sh W' g a b v :=
  ⟨(World.cell?_of_block (w := W) hb).trans h.c0, (World.cell?_of_block (w := W) hb).trans h.c1, (World.cell?_of_block (w := W) hb).trans h.c2, (World.frozen?_of_block (w := W) hb).trans h.z0, (World.frozen?_of_block (w := W) hb).trans h.z1, (World.frozen?_of_block (w := W) hb).trans h.z2⟩
/-- All three put. -/
abbrev put3 (W : World) (g : Nat) (a b : Int) (v : Value) : World := ((W.setCell ⟨g, 0, none⟩ (.int .i64 a)).setCell ⟨g, 1, none⟩ (.int .i64 b)).setCell ⟨g, 2, none⟩ v
theorem Sh.put {W : World} {g : Nat} {a b : Int} {v : Value} (h : Sh W g a b v) (a' b' : Int) (v' : Value) : Sh (put3 W g a' b' v') g a' b' v' := by
  obtain ⟨c0, c1, c2, z0, z1, z2⟩ := h
  exact ⟨by simp [put3, go_sem, c0], by simp [put3, go_sem, c1], by simp [put3, go_sem, c2], by simp [put3, go_sem, z0], by simp [put3, go_sem, z1], by simp [put3, go_sem, z2]⟩
theorem only_three (W : World) (g : Nat) (a b : Int) (v : Value) : Only g W (put3 W g a b v) := (((Only.refl g W).put 0 _).put 1 _).put 2 _
theorem Sh.new (W : World) (a b : Int) (v : Value) (t : TypeId) : Sh (W.alloc (.cells #[.int .i64 a, .int .i64 b, v] t)) W.heap.size a b v := ⟨by simp, by simp, by simp, by simp, by simp, by simp⟩

/-- What has been found below the order o. -/
def Bs (W : World) (g : Nat) (n : Nat) (xs : Nat → Int) (o : Nat) (f : Bool) (C : Nat) : Prop :=
  (shp n xs o = (-1, 0, 0) ∧ f = false ∧ C = 0 ∧ Sh W g 0 0 (.slice none 0 0)) ∨ ∃ (a k : Nat) (u : Value), shp n xs o = ((a : Int), (k : Int), C) ∧ f = true ∧ a < o ∧ k ≤ 30 ∧ C ≤ 100000 ∧ Sh W g a k u ∧ ∃ Bb, g < Bb ∧ W.ownsRow Bb 3 1 u n (ils (gus a xs) n)

theorem Bs.below {W W' : World} {g n o C : Nat} {xs : Nat → Int} {f : Bool} (h : Bs W g n xs o f C) (hb : Below W.heap.size W W') : Bs W' g n xs o f C := by
  rcases h with ⟨h1, h2, h3, h4⟩ | ⟨a, k, u, h1, h2, h3, h4, h5, h6, h7⟩
  · exact .inl ⟨h1, h2, h3, h4.below hb⟩
  · obtain ⟨Bb, b1, b2⟩ := h7
    exact .inr ⟨a, k, u, h1, h2, h3, h4, h5, h6.below hb, Bb, b1, own_below b2 hb⟩
theorem Bs.stay {W : World} {g n o C : Nat} {xs : Nat → Int} {f : Bool} (h : Bs W g n xs o f C) (hn : shp n xs (o + 1) = shp n xs o) : Bs W g n xs (o + 1) f C := by
  rcases h with ⟨h1, h2, h3, h4⟩ | ⟨a, k, u, h1, h2, h3, h4, h5, h6, h7⟩
  · exact .inl ⟨hn.trans h1, h2, h3, h4⟩
  · exact .inr ⟨a, k, u, hn.trans h1, h2, by omega, h4, h5, h6, h7⟩
theorem Bs.le {W : World} {g n o C : Nat} {xs : Nat → Int} {f : Bool} (h : Bs W g n xs o f C) : C ≤ 100000 := by
  rcases h with ⟨_, _, h3, _⟩ | ⟨a, k, u, _, _, _, _, h5, _⟩ <;> omega
theorem Bs.sh {W : World} {g n o C : Nat} {xs : Nat → Int} {f : Bool} (h : Bs W g n xs o f C) : ∃ a b v, Sh W g a b v := by
  rcases h with ⟨_, _, _, h4⟩ | ⟨a, k, u, _, _, _, _, _, h6, _⟩
  · exact ⟨_, _, _, h4⟩
  · exact ⟨_, _, _, h6⟩
theorem Bs.first {W : World} {g n o C : Nat} {xs : Nat → Int} {f : Bool} (h : Bs W g n xs o f C) : (shp n xs o).1 < 0 ↔ f = false := by
  rcases h with ⟨h1, h2, _, _⟩ | ⟨a, k, u, h1, h2, _⟩
  · rw [h1, h2]; exact ⟨fun _ => rfl, fun _ => by show (-1 : Int) < 0; omega⟩
  · rw [h1, h2]; exact ⟨fun h => absurd h (by show ¬ (a : Int) < 0; omega), fun h => by cases h⟩
theorem Bs.many {W : World} {g n o C : Nat} {xs : Nat → Int} {f : Bool} (h : Bs W g n xs o f C) : (shp n xs o).2.2 = C := by
  rcases h with ⟨h1, _, h3, _⟩ | ⟨a, k, u, h1, _⟩
  · rw [h1, h3]
  · rw [h1]

/-- What bestShape tells. -/
def Pbs (w w' : World) (e : Ending) (n : Nat) (xs : Nat → Int) (q : Nat) : Prop :=
  (shp n xs q = (-1, 0, 0) ∧ e = .returned (.tuple #[.agg #[.int .i64 0, .int .i64 0, .slice none 0 0], .bool false]) ∧ Below w.heap.size w w') ∨
  ∃ (a k C : Nat) (u : Value), shp n xs q = ((a : Int), (k : Int), C) ∧ a < q ∧ k ≤ 30 ∧ C ≤ 100000 ∧ e = .returned (.tuple #[.agg #[.int .i64 (a : Int), .int .i64 (k : Int), u], .bool true]) ∧ Il w' u n (gus a xs) ∧ Below w.heap.size w w'

set_option maxRecDepth 20000 in
set_option maxHeartbeats 8000000 in
theorem shape_good {w : World} {v : Value} {n : Nat} {xs : Nat → Int} (hv : Il w v n xs) (h : Sig n xs) (hn : n ≤ 128) {q : Nat} (hq : q = min n 4) : Calls Tryd.prog 61 #[v] w fun e w' => Pbs w w' e n xs q := by
  have HS : Hid (Sig n xs) := h
  have HV : Hid (Il w v n xs) := hv
  have hq4 : q ≤ 4 ∧ q ≤ n ∧ (n ≤ q ∨ 4 ≤ q) := by omega
  have hm4 : min (n : Int) 4 = (q : Int) := by omega
  have S0 : Hid (Sh ((w.alloc (.cells #[.int .i64 0, .int .i64 0, .slice none 0 0] 74)).alloc (.cells #[.int .i64 0, .int .i64 0, .slice none 0 0] 74)) (w.heap.size + 1) 0 0 (.slice none 0 0)) := by
    have := Sh.new (w.alloc (.cells #[.int .i64 0, .int .i64 0, .slice none 0 0] 74)) 0 0 (.slice none 0 0) 74
    rw [show (w.alloc (.cells #[.int .i64 0, .int .i64 0, .slice none 0 0] 74)).heap.size = w.heap.size + 1 from Array.size_push _] at this
    exact this
  have R0 : Hid (Sh ((w.alloc (.cells #[.int .i64 0, .int .i64 0, .slice none 0 0] 74)).alloc (.cells #[.int .i64 0, .int .i64 0, .slice none 0 0] 74)) w.heap.size 0 0 (.slice none 0 0)) := (Sh.new w 0 0 (.slice none 0 0) 74).below (below_one _ _)
  have BL : Hid (Below w.heap.size w ((w.alloc (.cells #[.int .i64 0, .int .i64 0, .slice none 0 0] 74)).alloc (.cells #[.int .i64 0, .int .i64 0, .slice none 0 0] 74))) := bstep (below_one _ _) (below_one _ _)
  obtain ⟨ao, cap, rfl, hcap, hc⟩ := hv
  clear hc h hq
  go_enter Tryd.func61, Tryd.ntmps61
  go_upto_region 2 with fail
  generalize (w.alloc (.cells #[.int .i64 0, .int .i64 0, .slice none 0 0] 74)).alloc (.cells #[.int .i64 0, .int .i64 0, .slice none 0 0] 74) = W at *
  obtain ⟨g, hg⟩ : ∃ g, g = w.heap.size := ⟨_, rfl⟩
  obtain ⟨G, hG⟩ : ∃ G, G = g + 1 := ⟨_, rfl⟩
  rw [← hg] at S0 R0
  rw [← hG] at S0
  rw [← hg, ← hG]
  have hgG : g < G := by omega
  have HG0 : Hid (w.heap.size ≤ g ∧ w.heap.size ≤ G) := ⟨by omega, by omega⟩
  clear hG hg
  go_wp2
  · have e : 4 = q := by omega
    subst e
    go_loopw [5, 6, 7, 8, 9, 10, 11, 16] (fun l fv _ _ _ _ _ iv wr => ∃ (o : Nat) (f : Bool) (C : Nat), iv = .int .i64 o ∧ l = .int .i64 (C : Int) ∧ fv = .bool f ∧ o ≤ 4 ∧ C ≤ 100000 ∧ Hid (Bs wr G n xs o f C) ∧ Hid (Sh wr g 0 0 (.slice none 0 0)) ∧ Hid (Il wr (.slice ao n cap) n xs) ∧ Hid (Below w.heap.size w wr)) (fun _ _ _ _ _ _ _ iv _ => 4 - (intOf iv).toNat)
    case atStart => exact ⟨0, false, 0, rfl, rfl, rfl, by omega, by omega, .inl ⟨rfl, rfl, rfl, S0.out⟩, R0.out, HV.out.below BL.out, BL.out⟩
    case round =>
      have HV0 : Hid (Il w (.slice ao n cap) n xs) := HV
      clear HV S0 R0 BL
      obtain ⟨o, f, C, rfl, rfl, rfl, hoq, hC, BS, RS, HV, BW⟩ := hrel
      have hGw : G < wr.heap.size := by obtain ⟨_, _, _, hh⟩ := BS.out.sh; exact hh.lt
      by_cases h1 : o < 4
      · obtain ⟨B, C1, hbc⟩ : ∃ (B : Int) (C1 : Nat), brv n (gus o xs) = (B, C1) := ⟨_, _, rfl⟩
        have hbi := brv_in n (gus o xs)
        have HYN : Hid ((∀ (_ : 0 ≤ B) (_ : f = false ∨ C1 < C), shp n xs (o + 1) = ((o : Int), B, C1)) ∧ ∀ (_ : ¬ (0 ≤ B ∧ (f = false ∨ C1 < C))), shp n xs (o + 1) = shp n xs o) := by
          refine ⟨fun a1 a2 => ?_, fun a1 => shp_no (by rw [hbc, BS.out.first, BS.out.many]; exact a1)⟩
          have := shp_yes (n := n) (o := o) (xs := xs) (by rw [hbc]; exact a1) (by rw [hbc, BS.out.first, BS.out.many]; exact a2)
          rw [hbc] at this
          exact this
        have HB9 : Hid (brv n (gus o xs) = (B, C1)) := hbc
        rw [hbc] at hbi
        obtain ⟨hb0, hb1, hb2⟩ : -1 ≤ B ∧ B ≤ 31 ∧ C1 ≤ 100000 := hbi
        clear hbc
        by_cases hB : 0 ≤ B
        · by_cases hf : f = false
          · subst hf
            have HR : Hid (shp n xs (o + 1) = ((o : Int), B, C1)) := HYN.out.1 hB (.inl rfl)
            have hk9 : Hid (∃ k : Nat, k ≤ 30 ∧ B = (k : Int)) := by obtain ⟨_, k, e1, e2, _⟩ := brv_told (n := n) (xs := gus o xs) (by rw [HB9.out]; exact hB); rw [HB9.out] at e2; exact ⟨k, e1, e2⟩
            clear HYN
            go_upto_region 8 with (first
              | (go_at_call 80; refine (iGuess_good HV.out HS.out (by omega)).mono ?_; rintro e w2 ⟨x2, rfl, hq, hb⟩; have HL : Hid (w2.ownsRow wr.heap.size 3 1 x2 n (ils (gus o xs) n)) := hq; have BS : Hid (Bs w2 G n xs o _ C) := BS.out.below hb; have RS : Hid (Sh w2 g 0 0 (.slice none 0 0)) := RS.out.below hb; have HV : Hid (Il w2 (.slice ao n cap) n xs) := HV.out.below hb; have hs2 : wr.heap.size ≤ w2.heap.size := hb.size; have BW : Hid (Below w.heap.size w w2) := bstep BW.out hb; clear hq hb)
              | (go_at_call 11; refine (iBest_any (il_of_own HL.out) (by omega)).mono ?_; rw [HB9.out]; rintro e w' ⟨rfl, hw⟩; obtain rfl := hw.symm))
            obtain ⟨xa, xc, rfl⟩ := own_slice3 HL.out
            obtain ⟨a0, b0, v0, hsh⟩ := BS.out.sh
            have hGl := hsh.lt
            have SN : Hid (Sh (put3 w2 G (o : Int) B (.slice xa n xc)) G (o : Int) B (.slice xa n xc)) := hsh.put _ _ _
            have hon := only_three w2 G (o : Int) B (.slice xa n xc)
            have LN : Hid ((put3 w2 G (o : Int) B (.slice xa n xc)).ownsRow wr.heap.size 3 1 (.slice xa n xc) n (ils (gus o xs) n)) := own_only HL.out hon hGw
            have RN : Hid (Sh (put3 w2 G (o : Int) B (.slice xa n xc)) g 0 0 (.slice none 0 0)) := RS.out.block (hon.block _ (by omega))
            have VN : Hid (Il (put3 w2 G (o : Int) B (.slice xa n xc)) (.slice ao n cap) n xs) := HV0.out.below (Below.only BW.out hon HG0.out.2)
            have BN : Hid (Below w.heap.size w (put3 w2 G (o : Int) B (.slice xa n xc))) := Below.only BW.out hon HG0.out.2
            obtain ⟨c0, c1, c2, z0, z1, z2⟩ := hsh
            clear BS RS HV HL BW hon
            go_wp2
            go_roundw
            case rel =>
              refine ⟨o + 1, true, C1, by go_num, by go_num, by go_num, by omega, by omega, ?_, RN.out, VN.out, BN.out⟩
              obtain ⟨k, hk, rfl⟩ := hk9.out
              exact .inr ⟨o, k, _, HR.out, rfl, by omega, hk, by omega, SN.out, wr.heap.size, hGw, LN.out⟩
            case measure => simp [intOf]; omega
          · have hf2 : f = true := by cases f <;> simp_all
            subst hf2
            by_cases hl : C1 < C
            · skip
              have HR : Hid (shp n xs (o + 1) = ((o : Int), B, C1)) := HYN.out.1 hB (.inr hl)
              have hk9 : Hid (∃ k : Nat, k ≤ 30 ∧ B = (k : Int)) := by obtain ⟨_, k, e1, e2, _⟩ := brv_told (n := n) (xs := gus o xs) (by rw [HB9.out]; exact hB); rw [HB9.out] at e2; exact ⟨k, e1, e2⟩
              clear HYN
              go_upto_region 8 with (first
                | (go_at_call 80; refine (iGuess_good HV.out HS.out (by omega)).mono ?_; rintro e w2 ⟨x2, rfl, hq, hb⟩; have HL : Hid (w2.ownsRow wr.heap.size 3 1 x2 n (ils (gus o xs) n)) := hq; have BS : Hid (Bs w2 G n xs o _ C) := BS.out.below hb; have RS : Hid (Sh w2 g 0 0 (.slice none 0 0)) := RS.out.below hb; have HV : Hid (Il w2 (.slice ao n cap) n xs) := HV.out.below hb; have hs2 : wr.heap.size ≤ w2.heap.size := hb.size; have BW : Hid (Below w.heap.size w w2) := bstep BW.out hb; clear hq hb)
                | (go_at_call 11; refine (iBest_any (il_of_own HL.out) (by omega)).mono ?_; rw [HB9.out]; rintro e w' ⟨rfl, hw⟩; obtain rfl := hw.symm))
              obtain ⟨xa, xc, rfl⟩ := own_slice3 HL.out
              obtain ⟨a0, b0, v0, hsh⟩ := BS.out.sh
              have hGl := hsh.lt
              have SN : Hid (Sh (put3 w2 G (o : Int) B (.slice xa n xc)) G (o : Int) B (.slice xa n xc)) := hsh.put _ _ _
              have hon := only_three w2 G (o : Int) B (.slice xa n xc)
              have LN : Hid ((put3 w2 G (o : Int) B (.slice xa n xc)).ownsRow wr.heap.size 3 1 (.slice xa n xc) n (ils (gus o xs) n)) := own_only HL.out hon hGw
              have RN : Hid (Sh (put3 w2 G (o : Int) B (.slice xa n xc)) g 0 0 (.slice none 0 0)) := RS.out.block (hon.block _ (by omega))
              have VN : Hid (Il (put3 w2 G (o : Int) B (.slice xa n xc)) (.slice ao n cap) n xs) := HV0.out.below (Below.only BW.out hon HG0.out.2)
              have BN : Hid (Below w.heap.size w (put3 w2 G (o : Int) B (.slice xa n xc))) := Below.only BW.out hon HG0.out.2
              obtain ⟨c0, c1, c2, z0, z1, z2⟩ := hsh
              clear BS RS HV HL BW hon
              go_wp2
              go_roundw
              case rel =>
                refine ⟨o + 1, true, C1, by go_num, by go_num, by go_num, by omega, by omega, ?_, RN.out, VN.out, BN.out⟩
                obtain ⟨k, hk, rfl⟩ := hk9.out
                exact .inr ⟨o, k, _, HR.out, rfl, by omega, hk, by omega, SN.out, wr.heap.size, hGw, LN.out⟩
              case measure => simp [intOf]; omega
            · skip
              have HR : Hid (shp n xs (o + 1) = shp n xs o) := HYN.out.2 (fun a => a.2.elim (fun e => by cases e) hl)
              clear HYN
              go_wp2_with (first
                | (go_at_call 80; refine (iGuess_good HV.out HS.out (by omega)).mono ?_; rintro e w2 ⟨x2, rfl, hq, hb⟩; have HL : Hid (w2.ownsRow wr.heap.size 3 1 x2 n (ils (gus o xs) n)) := hq; have BS : Hid (Bs w2 G n xs o _ C) := BS.out.below hb; have RS : Hid (Sh w2 g 0 0 (.slice none 0 0)) := RS.out.below hb; have HV : Hid (Il w2 (.slice ao n cap) n xs) := HV.out.below hb; have hs2 : wr.heap.size ≤ w2.heap.size := hb.size; have BW : Hid (Below w.heap.size w w2) := bstep BW.out hb; clear hq hb)
                | (go_at_call 11; refine (iBest_any (il_of_own HL.out) (by omega)).mono ?_; rw [HB9.out]; rintro e w' ⟨rfl, hw⟩; obtain rfl := hw.symm))
              go_roundw
              case rel => exact ⟨o + 1, true, C, by go_num, by go_num, by go_num, by omega, by omega, BS.out.stay HR.out, RS.out, HV.out, BW.out⟩
              case measure => simp [intOf]; omega
        · have hdB : decide (0 ≤ B) = false := decide_eq_false hB
          have HR : Hid (shp n xs (o + 1) = shp n xs o) := HYN.out.2 (fun a => hB a.1)
          clear HYN
          go_wp2_with (first
            | (go_at_call 80; refine (iGuess_good HV.out HS.out (by omega)).mono ?_; rintro e w2 ⟨x2, rfl, hq, hb⟩; have HL : Hid (w2.ownsRow wr.heap.size 3 1 x2 n (ils (gus o xs) n)) := hq; have BS : Hid (Bs w2 G n xs o _ C) := BS.out.below hb; have RS : Hid (Sh w2 g 0 0 (.slice none 0 0)) := RS.out.below hb; have HV : Hid (Il w2 (.slice ao n cap) n xs) := HV.out.below hb; have hs2 : wr.heap.size ≤ w2.heap.size := hb.size; have BW : Hid (Below w.heap.size w w2) := bstep BW.out hb; clear hq hb)
            | (go_at_call 11; refine (iBest_any (il_of_own HL.out) (by omega)).mono ?_; rw [HB9.out]; rintro e w' ⟨rfl, hw⟩; obtain rfl := hw.symm))
          go_roundw
          case rel => exact ⟨o + 1, f, C, by go_num, by go_num, by go_num, by omega, by omega, BS.out.stay HR.out, RS.out, HV.out, BW.out⟩
          case measure => simp [intOf]; omega
      · have e9 : 4 = o := by omega
        subst e9
        rcases BS.out with ⟨e1, e2, e3, c0, c1, c2, z0, z1, z2⟩ | ⟨a, k, u, e1, e2, e3, e4, e5, ⟨c0, c1, c2, z0, z1, z2⟩, e7⟩
        · obtain ⟨d0, d1, d2, y0, y1, y2⟩ := RS.out
          have RP := RS.out.put 0 0 (.slice none 0 0)
          have BN : Hid (Below w.heap.size w (put3 wr g 0 0 (.slice none 0 0))) := Below.only BW.out (only_three wr g 0 0 (.slice none 0 0)) HG0.out.1
          obtain ⟨p0, p1, p2, _, _, _⟩ := RP
          subst e2
          go_wp2
          refine bodyPost_ret (v := .tuple #[.agg #[.int .i64 0, .int .i64 0, .slice none 0 0], .bool false]) (by simp [results, Tryd.results61, go_sem, p0, p1, p2]) rfl ?_
          exact .inl ⟨e1, rfl, BN.out⟩
        · obtain ⟨Bb, b1, b2⟩ := e7
          obtain ⟨xa, xc, rfl⟩ := own_slice3 b2
          obtain ⟨d0, d1, d2, y0, y1, y2⟩ := RS.out
          have RP := RS.out.put (a : Int) (k : Int) (.slice xa n xc)
          have hon := only_three wr g (a : Int) (k : Int) (.slice xa n xc)
          have BN : Hid (Below w.heap.size w (put3 wr g (a : Int) (k : Int) (.slice xa n xc))) := Below.only BW.out hon HG0.out.1
          have LN : Hid (Il (put3 wr g (a : Int) (k : Int) (.slice xa n xc)) (.slice xa n xc) n (gus a xs)) := (by exact il_of_own (own_only b2 hon (by omega)))
          obtain ⟨p0, p1, p2, _, _, _⟩ := RP
          subst e2
          clear hon
          go_wp2
          refine bodyPost_ret (v := .tuple #[.agg #[.int .i64 (a : Int), .int .i64 (k : Int), .slice xa n xc], .bool true]) (by simp [results, Tryd.results61, go_sem, p0, p1, p2]) rfl ?_
          exact .inr ⟨a, k, C, _, e1, e3, e4, e5, rfl, LN.out, BN.out⟩
  · have e : n = q := by omega
    subst e
    go_loopw [5, 6, 7, 8, 9, 10, 11, 16] (fun l fv _ _ _ _ _ iv wr => ∃ (o : Nat) (f : Bool) (C : Nat), iv = .int .i64 o ∧ l = .int .i64 (C : Int) ∧ fv = .bool f ∧ o ≤ n ∧ C ≤ 100000 ∧ Hid (Bs wr G n xs o f C) ∧ Hid (Sh wr g 0 0 (.slice none 0 0)) ∧ Hid (Il wr (.slice ao n cap) n xs) ∧ Hid (Below w.heap.size w wr)) (fun _ _ _ _ _ _ _ iv _ => n - (intOf iv).toNat)
    case atStart => exact ⟨0, false, 0, rfl, rfl, rfl, by omega, by omega, .inl ⟨rfl, rfl, rfl, S0.out⟩, R0.out, HV.out.below BL.out, BL.out⟩
    case round =>
      have HV0 : Hid (Il w (.slice ao n cap) n xs) := HV
      clear HV S0 R0 BL
      obtain ⟨o, f, C, rfl, rfl, rfl, hoq, hC, BS, RS, HV, BW⟩ := hrel
      have hGw : G < wr.heap.size := by obtain ⟨_, _, _, hh⟩ := BS.out.sh; exact hh.lt
      by_cases h1 : o < n
      · obtain ⟨B, C1, hbc⟩ : ∃ (B : Int) (C1 : Nat), brv n (gus o xs) = (B, C1) := ⟨_, _, rfl⟩
        have hbi := brv_in n (gus o xs)
        have HYN : Hid ((∀ (_ : 0 ≤ B) (_ : f = false ∨ C1 < C), shp n xs (o + 1) = ((o : Int), B, C1)) ∧ ∀ (_ : ¬ (0 ≤ B ∧ (f = false ∨ C1 < C))), shp n xs (o + 1) = shp n xs o) := by
          refine ⟨fun a1 a2 => ?_, fun a1 => shp_no (by rw [hbc, BS.out.first, BS.out.many]; exact a1)⟩
          have := shp_yes (n := n) (o := o) (xs := xs) (by rw [hbc]; exact a1) (by rw [hbc, BS.out.first, BS.out.many]; exact a2)
          rw [hbc] at this
          exact this
        have HB9 : Hid (brv n (gus o xs) = (B, C1)) := hbc
        rw [hbc] at hbi
        obtain ⟨hb0, hb1, hb2⟩ : -1 ≤ B ∧ B ≤ 31 ∧ C1 ≤ 100000 := hbi
        clear hbc
        by_cases hB : 0 ≤ B
        · by_cases hf : f = false
          · subst hf
            have HR : Hid (shp n xs (o + 1) = ((o : Int), B, C1)) := HYN.out.1 hB (.inl rfl)
            have hk9 : Hid (∃ k : Nat, k ≤ 30 ∧ B = (k : Int)) := by obtain ⟨_, k, e1, e2, _⟩ := brv_told (n := n) (xs := gus o xs) (by rw [HB9.out]; exact hB); rw [HB9.out] at e2; exact ⟨k, e1, e2⟩
            clear HYN
            go_upto_region 8 with (first
              | (go_at_call 80; refine (iGuess_good HV.out HS.out (by omega)).mono ?_; rintro e w2 ⟨x2, rfl, hq, hb⟩; have HL : Hid (w2.ownsRow wr.heap.size 3 1 x2 n (ils (gus o xs) n)) := hq; have BS : Hid (Bs w2 G n xs o _ C) := BS.out.below hb; have RS : Hid (Sh w2 g 0 0 (.slice none 0 0)) := RS.out.below hb; have HV : Hid (Il w2 (.slice ao n cap) n xs) := HV.out.below hb; have hs2 : wr.heap.size ≤ w2.heap.size := hb.size; have BW : Hid (Below w.heap.size w w2) := bstep BW.out hb; clear hq hb)
              | (go_at_call 11; refine (iBest_any (il_of_own HL.out) (by omega)).mono ?_; rw [HB9.out]; rintro e w' ⟨rfl, hw⟩; obtain rfl := hw.symm))
            obtain ⟨xa, xc, rfl⟩ := own_slice3 HL.out
            obtain ⟨a0, b0, v0, hsh⟩ := BS.out.sh
            have hGl := hsh.lt
            have SN : Hid (Sh (put3 w2 G (o : Int) B (.slice xa n xc)) G (o : Int) B (.slice xa n xc)) := hsh.put _ _ _
            have hon := only_three w2 G (o : Int) B (.slice xa n xc)
            have LN : Hid ((put3 w2 G (o : Int) B (.slice xa n xc)).ownsRow wr.heap.size 3 1 (.slice xa n xc) n (ils (gus o xs) n)) := own_only HL.out hon hGw
            have RN : Hid (Sh (put3 w2 G (o : Int) B (.slice xa n xc)) g 0 0 (.slice none 0 0)) := RS.out.block (hon.block _ (by omega))
            have VN : Hid (Il (put3 w2 G (o : Int) B (.slice xa n xc)) (.slice ao n cap) n xs) := HV0.out.below (Below.only BW.out hon HG0.out.2)
            have BN : Hid (Below w.heap.size w (put3 w2 G (o : Int) B (.slice xa n xc))) := Below.only BW.out hon HG0.out.2
            obtain ⟨c0, c1, c2, z0, z1, z2⟩ := hsh
            clear BS RS HV HL BW hon
            go_wp2
            go_roundw
            case rel =>
              refine ⟨o + 1, true, C1, by go_num, by go_num, by go_num, by omega, by omega, ?_, RN.out, VN.out, BN.out⟩
              obtain ⟨k, hk, rfl⟩ := hk9.out
              exact .inr ⟨o, k, _, HR.out, rfl, by omega, hk, by omega, SN.out, wr.heap.size, hGw, LN.out⟩
            case measure => simp [intOf]; omega
          · have hf2 : f = true := by cases f <;> simp_all
            subst hf2
            by_cases hl : C1 < C
            · skip
              have HR : Hid (shp n xs (o + 1) = ((o : Int), B, C1)) := HYN.out.1 hB (.inr hl)
              have hk9 : Hid (∃ k : Nat, k ≤ 30 ∧ B = (k : Int)) := by obtain ⟨_, k, e1, e2, _⟩ := brv_told (n := n) (xs := gus o xs) (by rw [HB9.out]; exact hB); rw [HB9.out] at e2; exact ⟨k, e1, e2⟩
              clear HYN
              go_upto_region 8 with (first
                | (go_at_call 80; refine (iGuess_good HV.out HS.out (by omega)).mono ?_; rintro e w2 ⟨x2, rfl, hq, hb⟩; have HL : Hid (w2.ownsRow wr.heap.size 3 1 x2 n (ils (gus o xs) n)) := hq; have BS : Hid (Bs w2 G n xs o _ C) := BS.out.below hb; have RS : Hid (Sh w2 g 0 0 (.slice none 0 0)) := RS.out.below hb; have HV : Hid (Il w2 (.slice ao n cap) n xs) := HV.out.below hb; have hs2 : wr.heap.size ≤ w2.heap.size := hb.size; have BW : Hid (Below w.heap.size w w2) := bstep BW.out hb; clear hq hb)
                | (go_at_call 11; refine (iBest_any (il_of_own HL.out) (by omega)).mono ?_; rw [HB9.out]; rintro e w' ⟨rfl, hw⟩; obtain rfl := hw.symm))
              obtain ⟨xa, xc, rfl⟩ := own_slice3 HL.out
              obtain ⟨a0, b0, v0, hsh⟩ := BS.out.sh
              have hGl := hsh.lt
              have SN : Hid (Sh (put3 w2 G (o : Int) B (.slice xa n xc)) G (o : Int) B (.slice xa n xc)) := hsh.put _ _ _
              have hon := only_three w2 G (o : Int) B (.slice xa n xc)
              have LN : Hid ((put3 w2 G (o : Int) B (.slice xa n xc)).ownsRow wr.heap.size 3 1 (.slice xa n xc) n (ils (gus o xs) n)) := own_only HL.out hon hGw
              have RN : Hid (Sh (put3 w2 G (o : Int) B (.slice xa n xc)) g 0 0 (.slice none 0 0)) := RS.out.block (hon.block _ (by omega))
              have VN : Hid (Il (put3 w2 G (o : Int) B (.slice xa n xc)) (.slice ao n cap) n xs) := HV0.out.below (Below.only BW.out hon HG0.out.2)
              have BN : Hid (Below w.heap.size w (put3 w2 G (o : Int) B (.slice xa n xc))) := Below.only BW.out hon HG0.out.2
              obtain ⟨c0, c1, c2, z0, z1, z2⟩ := hsh
              clear BS RS HV HL BW hon
              go_wp2
              go_roundw
              case rel =>
                refine ⟨o + 1, true, C1, by go_num, by go_num, by go_num, by omega, by omega, ?_, RN.out, VN.out, BN.out⟩
                obtain ⟨k, hk, rfl⟩ := hk9.out
                exact .inr ⟨o, k, _, HR.out, rfl, by omega, hk, by omega, SN.out, wr.heap.size, hGw, LN.out⟩
              case measure => simp [intOf]; omega
            · skip
              have HR : Hid (shp n xs (o + 1) = shp n xs o) := HYN.out.2 (fun a => a.2.elim (fun e => by cases e) hl)
              clear HYN
              go_wp2_with (first
                | (go_at_call 80; refine (iGuess_good HV.out HS.out (by omega)).mono ?_; rintro e w2 ⟨x2, rfl, hq, hb⟩; have HL : Hid (w2.ownsRow wr.heap.size 3 1 x2 n (ils (gus o xs) n)) := hq; have BS : Hid (Bs w2 G n xs o _ C) := BS.out.below hb; have RS : Hid (Sh w2 g 0 0 (.slice none 0 0)) := RS.out.below hb; have HV : Hid (Il w2 (.slice ao n cap) n xs) := HV.out.below hb; have hs2 : wr.heap.size ≤ w2.heap.size := hb.size; have BW : Hid (Below w.heap.size w w2) := bstep BW.out hb; clear hq hb)
                | (go_at_call 11; refine (iBest_any (il_of_own HL.out) (by omega)).mono ?_; rw [HB9.out]; rintro e w' ⟨rfl, hw⟩; obtain rfl := hw.symm))
              go_roundw
              case rel => exact ⟨o + 1, true, C, by go_num, by go_num, by go_num, by omega, by omega, BS.out.stay HR.out, RS.out, HV.out, BW.out⟩
              case measure => simp [intOf]; omega
        · have hdB : decide (0 ≤ B) = false := decide_eq_false hB
          have HR : Hid (shp n xs (o + 1) = shp n xs o) := HYN.out.2 (fun a => hB a.1)
          clear HYN
          go_wp2_with (first
            | (go_at_call 80; refine (iGuess_good HV.out HS.out (by omega)).mono ?_; rintro e w2 ⟨x2, rfl, hq, hb⟩; have HL : Hid (w2.ownsRow wr.heap.size 3 1 x2 n (ils (gus o xs) n)) := hq; have BS : Hid (Bs w2 G n xs o _ C) := BS.out.below hb; have RS : Hid (Sh w2 g 0 0 (.slice none 0 0)) := RS.out.below hb; have HV : Hid (Il w2 (.slice ao n cap) n xs) := HV.out.below hb; have hs2 : wr.heap.size ≤ w2.heap.size := hb.size; have BW : Hid (Below w.heap.size w w2) := bstep BW.out hb; clear hq hb)
            | (go_at_call 11; refine (iBest_any (il_of_own HL.out) (by omega)).mono ?_; rw [HB9.out]; rintro e w' ⟨rfl, hw⟩; obtain rfl := hw.symm))
          go_roundw
          case rel => exact ⟨o + 1, f, C, by go_num, by go_num, by go_num, by omega, by omega, BS.out.stay HR.out, RS.out, HV.out, BW.out⟩
          case measure => simp [intOf]; omega
      · have e9 : n = o := by omega
        subst e9
        rcases BS.out with ⟨e1, e2, e3, c0, c1, c2, z0, z1, z2⟩ | ⟨a, k, u, e1, e2, e3, e4, e5, ⟨c0, c1, c2, z0, z1, z2⟩, e7⟩
        · obtain ⟨d0, d1, d2, y0, y1, y2⟩ := RS.out
          have RP := RS.out.put 0 0 (.slice none 0 0)
          have BN : Hid (Below w.heap.size w (put3 wr g 0 0 (.slice none 0 0))) := Below.only BW.out (only_three wr g 0 0 (.slice none 0 0)) HG0.out.1
          obtain ⟨p0, p1, p2, _, _, _⟩ := RP
          subst e2
          go_wp2
          refine bodyPost_ret (v := .tuple #[.agg #[.int .i64 0, .int .i64 0, .slice none 0 0], .bool false]) (by simp [results, Tryd.results61, go_sem, p0, p1, p2]) rfl ?_
          exact .inl ⟨e1, rfl, BN.out⟩
        · obtain ⟨Bb, b1, b2⟩ := e7
          obtain ⟨xa, xc, rfl⟩ := own_slice3 b2
          obtain ⟨d0, d1, d2, y0, y1, y2⟩ := RS.out
          have RP := RS.out.put (a : Int) (k : Int) (.slice xa n xc)
          have hon := only_three wr g (a : Int) (k : Int) (.slice xa n xc)
          have BN : Hid (Below w.heap.size w (put3 wr g (a : Int) (k : Int) (.slice xa n xc))) := Below.only BW.out hon HG0.out.1
          have LN : Hid (Il (put3 wr g (a : Int) (k : Int) (.slice xa n xc)) (.slice xa n xc) n (gus a xs)) := (by exact il_of_own (own_only b2 hon (by omega)))
          obtain ⟨p0, p1, p2, _, _, _⟩ := RP
          subst e2
          clear hon
          go_wp2
          refine bodyPost_ret (v := .tuple #[.agg #[.int .i64 (a : Int), .int .i64 (k : Int), .slice xa n xc], .bool true]) (by simp [results, Tryd.results61, go_sem, p0, p1, p2]) rfl ?_
          exact .inr ⟨a, k, C, _, e1, e3, e4, e5, rfl, LN.out, BN.out⟩

set_option maxRecDepth 20000 in
set_option maxHeartbeats 8000000 in
theorem shape_bad {w : World} {v : Value} {n : Nat} {xs : Nat → Int} (hv : Il w v n xs) (h : ¬ Sig n xs) (hn : n ≤ 128) {q : Nat} (hq : q = min n 4) : Calls Tryd.prog 61 #[v] w fun e w' => e = .returned (.tuple #[.agg #[.int .i64 0, .int .i64 0, .slice none 0 0], .bool false]) ∧ Below w.heap.size w w' := by
  have HS : Hid (¬ Sig n xs) := h
  have HV : Hid (Il w v n xs) := hv
  have hq4 : q ≤ 4 ∧ q ≤ n ∧ (n ≤ q ∨ 4 ≤ q) := by omega
  have hm4 : min (n : Int) 4 = (q : Int) := by omega
  have S0 : Hid (Sh ((w.alloc (.cells #[.int .i64 0, .int .i64 0, .slice none 0 0] 74)).alloc (.cells #[.int .i64 0, .int .i64 0, .slice none 0 0] 74)) (w.heap.size + 1) 0 0 (.slice none 0 0)) := by
    have := Sh.new (w.alloc (.cells #[.int .i64 0, .int .i64 0, .slice none 0 0] 74)) 0 0 (.slice none 0 0) 74
    rw [show (w.alloc (.cells #[.int .i64 0, .int .i64 0, .slice none 0 0] 74)).heap.size = w.heap.size + 1 from Array.size_push _] at this
    exact this
  have R0 : Hid (Sh ((w.alloc (.cells #[.int .i64 0, .int .i64 0, .slice none 0 0] 74)).alloc (.cells #[.int .i64 0, .int .i64 0, .slice none 0 0] 74)) w.heap.size 0 0 (.slice none 0 0)) := (Sh.new w 0 0 (.slice none 0 0) 74).below (below_one _ _)
  have BL : Hid (Below w.heap.size w ((w.alloc (.cells #[.int .i64 0, .int .i64 0, .slice none 0 0] 74)).alloc (.cells #[.int .i64 0, .int .i64 0, .slice none 0 0] 74))) := bstep (below_one _ _) (below_one _ _)
  obtain ⟨ao, cap, rfl, hcap, hc⟩ := hv
  clear hc h hq
  go_enter Tryd.func61, Tryd.ntmps61
  go_upto_region 2 with fail
  generalize (w.alloc (.cells #[.int .i64 0, .int .i64 0, .slice none 0 0] 74)).alloc (.cells #[.int .i64 0, .int .i64 0, .slice none 0 0] 74) = W at *
  obtain ⟨g, hg⟩ : ∃ g, g = w.heap.size := ⟨_, rfl⟩
  obtain ⟨G, hG⟩ : ∃ G, G = g + 1 := ⟨_, rfl⟩
  rw [← hg] at S0 R0
  rw [← hG] at S0
  rw [← hg, ← hG]
  have hgG : g < G := by omega
  have HG0 : Hid (w.heap.size ≤ g ∧ w.heap.size ≤ G) := ⟨by omega, by omega⟩
  clear hG hg
  go_wp2
  · have e : 4 = q := by omega
    subst e
    go_loopw [5, 6, 7, 8, 9, 10, 11, 16] (fun l fv _ _ _ _ _ iv wr => ∃ (o : Nat), iv = .int .i64 o ∧ l = .int .i64 0 ∧ fv = .bool false ∧ o ≤ 4 ∧ Hid (Sh wr G 0 0 (.slice none 0 0)) ∧ Hid (Sh wr g 0 0 (.slice none 0 0)) ∧ Hid (Il wr (.slice ao n cap) n xs) ∧ Hid (Below w.heap.size w wr)) (fun _ _ _ _ _ _ _ iv _ => 4 - (intOf iv).toNat)
    case atStart => exact ⟨0, rfl, rfl, rfl, by omega, S0.out, R0.out, HV.out.below BL.out, BL.out⟩
    case round =>
      clear HV S0 R0 BL
      obtain ⟨o, rfl, rfl, rfl, hoq, BS, RS, HV, BW⟩ := hrel
      by_cases h1 : o < 4
      · obtain ⟨z, hz⟩ : ∃ z : Nat, z = 0 := ⟨0, rfl⟩
        have HZ : Hid (z = 0) := hz
        have hz1 : z ≤ 128 := by omega
        clear hz
        have hbi := brv_in z (fun _ => 0)
        obtain ⟨B, C1, hbc⟩ : ∃ (B : Int) (C1 : Nat), brv z (fun _ => 0) = (B, C1) := ⟨_, _, rfl⟩
        have HB9 : Hid (brv z (fun _ => 0) = (B, C1)) := hbc
        rw [hbc] at hbi
        obtain ⟨hb0, hb1, hb2⟩ : -1 ≤ B ∧ B ≤ 31 ∧ C1 ≤ 100000 := hbi
        clear hbc
        go_wp2_with (first
          | (go_at_call 80; refine (iGuess_bad HV.out (by omega) (fun hh => HS.out hh.2) (fun _ => 0)).mono ?_; rintro e w2 ⟨x2, rfl, hq, hb⟩; have HL : Hid (Il w2 x2 z (fun _ => 0)) := (by show Il _ _ _ _; rw [HZ.out]; exact il_of_own hq); have BS : Hid (Sh w2 G 0 0 (.slice none 0 0)) := BS.out.below hb; have RS : Hid (Sh w2 g 0 0 (.slice none 0 0)) := RS.out.below hb; have HV : Hid (Il w2 (.slice ao n cap) n xs) := HV.out.below hb; have BW : Hid (Below w.heap.size w w2) := bstep BW.out hb; clear hq hb)
          | (go_at_call 11; refine (iBest_any HL.out (by omega)).mono ?_; rw [HB9.out]; rintro e w' ⟨rfl, hw⟩; obtain rfl := hw.symm))
        go_roundw
        case rel => exact ⟨o + 1, by go_num, by go_num, by go_num, by omega, BS.out, RS.out, HV.out, BW.out⟩
        case measure => simp [intOf]; omega
      · have e9 : 4 = o := by omega
        subst e9
        obtain ⟨c0, c1, c2, z0, z1, z2⟩ := BS.out
        obtain ⟨d0, d1, d2, y0, y1, y2⟩ := RS.out
        have RP := RS.out.put 0 0 (.slice none 0 0)
        have BN : Hid (Below w.heap.size w (put3 wr g 0 0 (.slice none 0 0))) := Below.only BW.out (only_three wr g 0 0 (.slice none 0 0)) HG0.out.1
        obtain ⟨p0, p1, p2, _, _, _⟩ := RP
        go_wp2
        refine bodyPost_ret (v := .tuple #[.agg #[.int .i64 0, .int .i64 0, .slice none 0 0], .bool false]) (by simp [results, Tryd.results61, go_sem, p0, p1, p2]) rfl ?_
        exact ⟨rfl, BN.out⟩
  · have e : n = q := by omega
    subst e
    go_loopw [5, 6, 7, 8, 9, 10, 11, 16] (fun l fv _ _ _ _ _ iv wr => ∃ (o : Nat), iv = .int .i64 o ∧ l = .int .i64 0 ∧ fv = .bool false ∧ o ≤ n ∧ Hid (Sh wr G 0 0 (.slice none 0 0)) ∧ Hid (Sh wr g 0 0 (.slice none 0 0)) ∧ Hid (Il wr (.slice ao n cap) n xs) ∧ Hid (Below w.heap.size w wr)) (fun _ _ _ _ _ _ _ iv _ => n - (intOf iv).toNat)
    case atStart => exact ⟨0, rfl, rfl, rfl, by omega, S0.out, R0.out, HV.out.below BL.out, BL.out⟩
    case round =>
      clear HV S0 R0 BL
      obtain ⟨o, rfl, rfl, rfl, hoq, BS, RS, HV, BW⟩ := hrel
      by_cases h1 : o < n
      · obtain ⟨z, hz⟩ : ∃ z : Nat, z = 0 := ⟨0, rfl⟩
        have HZ : Hid (z = 0) := hz
        have hz1 : z ≤ 128 := by omega
        clear hz
        have hbi := brv_in z (fun _ => 0)
        obtain ⟨B, C1, hbc⟩ : ∃ (B : Int) (C1 : Nat), brv z (fun _ => 0) = (B, C1) := ⟨_, _, rfl⟩
        have HB9 : Hid (brv z (fun _ => 0) = (B, C1)) := hbc
        rw [hbc] at hbi
        obtain ⟨hb0, hb1, hb2⟩ : -1 ≤ B ∧ B ≤ 31 ∧ C1 ≤ 100000 := hbi
        clear hbc
        go_wp2_with (first
          | (go_at_call 80; refine (iGuess_bad HV.out (by omega) (fun hh => HS.out hh.2) (fun _ => 0)).mono ?_; rintro e w2 ⟨x2, rfl, hq, hb⟩; have HL : Hid (Il w2 x2 z (fun _ => 0)) := (by show Il _ _ _ _; rw [HZ.out]; exact il_of_own hq); have BS : Hid (Sh w2 G 0 0 (.slice none 0 0)) := BS.out.below hb; have RS : Hid (Sh w2 g 0 0 (.slice none 0 0)) := RS.out.below hb; have HV : Hid (Il w2 (.slice ao n cap) n xs) := HV.out.below hb; have BW : Hid (Below w.heap.size w w2) := bstep BW.out hb; clear hq hb)
          | (go_at_call 11; refine (iBest_any HL.out (by omega)).mono ?_; rw [HB9.out]; rintro e w' ⟨rfl, hw⟩; obtain rfl := hw.symm))
        go_roundw
        case rel => exact ⟨o + 1, by go_num, by go_num, by go_num, by omega, BS.out, RS.out, HV.out, BW.out⟩
        case measure => simp [intOf]; omega
      · have e9 : n = o := by omega
        subst e9
        obtain ⟨c0, c1, c2, z0, z1, z2⟩ := BS.out
        obtain ⟨d0, d1, d2, y0, y1, y2⟩ := RS.out
        have RP := RS.out.put 0 0 (.slice none 0 0)
        have BN : Hid (Below w.heap.size w (put3 wr g 0 0 (.slice none 0 0))) := Below.only BW.out (only_three wr g 0 0 (.slice none 0 0)) HG0.out.1
        obtain ⟨p0, p1, p2, _, _, _⟩ := RP
        go_wp2
        refine bodyPost_ret (v := .tuple #[.agg #[.int .i64 0, .int .i64 0, .slice none 0 0], .bool false]) (by simp [results, Tryd.results61, go_sem, p0, p1, p2]) rfl ?_
        exact ⟨rfl, BN.out⟩
end Go.Proofs.YtndagpompioooaaDoor

/- Wires, drawn. -/
import Derived.Test.YtlccicbgepfbbaaDW
import Derived.Test.YtlccicbgepfbbaaC1
import Derived.Test.YtlccicbgepfbbaaD4
import Derived.Test.YtlccicbgepfbbaaWC
import Derived.Test.YtlccicbgepfbbaaWI
import Derived.BigRegion
namespace Go.Proofs.Ytlccicbgepfbbaa
open Go.RowKit

theorem zs_app (ss : Nat → Wr) (m : Nat) (t : Wr) : ils (zs ss) (m * 5) ++ ils t.n 5 = ils (zs (fun i => if i = m then t else ss i)) ((m + 1) * 5) := by
  apply List.ext_getElem?
  intro i
  by_cases h : i < m * 5
  · rw [List.getElem?_append_left (by rw [ils_length]; exact h)]
    simp only [ils, List.getElem?_map, List.getElem?_range, h, show i < (m + 1) * 5 by omega, Option.map]
    unfold zs
    show _ = some (Value.int .i64 ((if i / 5 = m then t else ss (i / 5)).n (i % 5)))
    rw [if_neg (show ¬ i / 5 = m by omega)]
  · rw [List.getElem?_append_right (by rw [ils_length]; omega), ils_length]
    by_cases h2 : i < (m + 1) * 5
    · simp only [ils, List.getElem?_map, List.getElem?_range, h2, show i - m * 5 < 5 by omega, Option.map]
      unfold zs
      show _ = some (Value.int .i64 ((if i / 5 = m then t else ss (i / 5)).n (i % 5)))
      rw [if_pos (show i / 5 = m by omega), show i % 5 = i - m * 5 by omega]
    · rw [List.getElem?_eq_none (by rw [ils_length]; omega), List.getElem?_eq_none (by rw [ils_length]; omega)]

theorem five_new (w : World) (s : Wr) (t : TypeId) : ∀ j u, (ils s.n 5)[j]? = some u → (w.alloc (.cells #[.int .i64 s.fr, .int .i64 s.to, .int .i64 s.gi, .int .i64 s.ta, .int .i64 s.ha] t)).cell? ((⟨w.heap.size, 0, none⟩ : Addr).add j) = some u := by
  intro j u h
  match j, h with
  | 0, h => simp [ils, Wr.n, List.range, List.range.loop] at h; subst h; simp [Addr.add]
  | 1, h => simp [ils, Wr.n, List.range, List.range.loop] at h; subst h; simp [Addr.add]
  | 2, h => simp [ils, Wr.n, List.range, List.range.loop] at h; subst h; simp [Addr.add]
  | 3, h => simp [ils, Wr.n, List.range, List.range.loop] at h; subst h; simp [Addr.add]
  | 4, h => simp [ils, Wr.n, List.range, List.range.loop] at h; subst h; simp [Addr.add]
  | k + 5, h => rw [List.getElem?_eq_none (by rw [ils_length]; omega)] at h; cases h

theorem Cu.old {w W w' : World} {c : Nat} {a : Option Addr} {len cap : Nat} (h0 : Cu w c a len cap) (h : Cu W c a len cap) (hk : Keep c w W) (hb : Below w.heap.size W w') : Cu w' c a len cap ∧ Keep c w w' :=
  ⟨Cu.grow h0 h hk hb, hk.below hb⟩

/-- Wires that grow behind a world, with the cursor. -/
structure Stw (w0 X : World) (c : Nat) (a : Option Addr) (len cap : Nat) (u : Value) (m : Nat) (ss : Nat → Wr) : Prop where
  cu : Cu X c a len cap
  kp : Keep c w0 X
  row : X.ownsRow w0.heap.size 31 5 u m (ils (zs ss) (m * 5))

theorem Stw.keep {w0 X Y : World} {c : Nat} {a : Option Addr} {len cap m : Nat} {u : Value} {ss : Nat → Wr} (h : Stw w0 X c a len cap u m ss) (hc : Cu Y c a len cap) (hk : Keep c X Y) (hcw : c < w0.heap.size) : Stw w0 Y c a len cap u m ss :=
  ⟨hc, h.kp.trans hk, own_keep h.row hk hcw⟩

theorem Stw.call {w0 X Y : World} {c : Nat} {a : Option Addr} {len cap m : Nat} {u : Value} {ss : Nat → Wr} (h : Stw w0 X c a len cap u m ss) (hb : Below X.heap.size X Y) : Stw w0 Y c a len cap u m ss :=
  ⟨h.cu.call hb, h.kp.call hb, own_below h.row hb⟩

theorem Stw.dt {w0 X : World} {c : Nat} {a : Option Addr} {len cap m tg nt tc B : Nat} {u : Value} {ss : Nat → Wr} {ts : Nat → Nat} (h : Stw w0 X c a len cap u m ss) (hr : w0.ownsRow B 3 1 (.slice (some ⟨tg, 0, none⟩) nt tc) nt (ils (fun i => (ts i : Int)) nt)) (hB : c < B) : Dt X c a len cap B tg nt tc ts X :=
  ⟨h.cu, Keep.refl _ _, own_keep hr h.kp hB⟩

/-- One more wire. -/
theorem Stw.app {w0 X Y : World} {c : Nat} {a : Option Addr} {len cap m : Nat} {u u' : Value} {ss : Nat → Wr} (h0 : Cu w0 c a len cap) (h : Stw w0 X c a len cap u m ss) (t : Wr) (ho : Y.ownsRow w0.heap.size 31 5 u' (m + 1) (ils (zs ss) (m * 5) ++ ils t.n 5)) (hg : X.grownBy Y u.ownBlock) : Stw w0 Y c a len cap u' (m + 1) (fun i => if i = m then t else ss i) := by
  have hb : Below w0.heap.size X Y := grown_below (Below.refl _ _) h.kp.size h.row hg
  obtain ⟨h1, h2⟩ := Cu.old h0 h.cu h.kp hb
  exact ⟨h1, h2, by rw [← zs_app]; exact ho⟩

theorem put19 {w W : World} {c : Nat} {a : Option Addr} {len cap : Nat} (h0 : Cu w c a len cap) (h : Cu W c a len cap) (hk : Keep c w W) {G : Nat} (hG : w.heap.size ≤ G) (_ : G ≠ c) (v : Value) : Cu (W.setCell ⟨G, 4, none⟩ v) c a len cap ∧ Keep c w (W.setCell ⟨G, 4, none⟩ v) :=
  Cu.old h0 h hk ((Below.refl _ _).setCell (p := ⟨G, 4, none⟩) hG v)

set_option maxRecDepth 20000 in
set_option maxHeartbeats 8000000 in
theorem draw19_x {w : World} {c : Nat} {a : Option Addr} {len cap : Nat} (h : Cu w c a len cap) (hn : len ≤ 1048576) :
    Calls Try.prog 39 #[.pointer (some ⟨c, 0, none⟩), .slice a len cap] w fun e w' => ∃ (n : Int) (m : Nat) (u : Value) (ss : Nat → Wr), e = .returned (.tuple #[.int .i64 n, u]) ∧ Cu w' c a len cap ∧ Keep c w w' ∧ w'.ownsRow w.heap.size 31 5 u m (ils (zs ss) (m * 5)) ∧ m ≤ 40 := by
  have H0 : Hid (Cu w c a len cap) := h
  have hcw := h.lt
  have isz := fun W => size_x (w := W) a len cap 6 hn
  obtain ⟨i0, hi, hz0, hz1, hz2⟩ := info_parts Try.info3
  clear h
  go_enter Try.func39, Try.ntmps39
  go_upto_region 2 with (first
    | (go_at_call 65; (with_reducible refine (isz _).mono ?_); rintro e w' ⟨y, rfl, hy1, _, hy2, hw⟩; obtain rfl := hw.symm; have hy3 := hy2 (by decide); clear hy2)
    | (go_at_call 54; (with_reducible refine (below_x H0.out _).mono ?_); rintro e w3 ⟨x, hx0, hx1, hx2, rfl, hc, hk⟩; have CU : Hid (Cu w3 c a len cap) := hc; have KP : Hid (Keep c w w3) := hk; have hx3 := hx2 (by omega); clear hc hk hx2))
  obtain ⟨n, hnn⟩ : ∃ n : Nat, (n : Int) = 1 + x := ⟨(1 + x).toNat, by omega⟩
  have hn1 : 1 ≤ n ∧ n ≤ 6 := by omega
  rw [← hnn]
  clear hnn hx0 hx1 hx3 hy1 hy3 isz
  go_upto_region 3 with fail
  have OW : Hid ((w3.alloc (.cells #[] 3)).ownsRow w.heap.size 3 1 (.slice (some ⟨w3.heap.size, 0, none⟩) 0 0) 0 (ils (fun i => (((fun _ => 1) i : Nat) : Int)) 0)) := own_base (own_empty w3 3 1) KP.out.size
  have CU : Hid (Cu (w3.alloc (.cells #[] 3)) c a len cap) := CU.out.call (below_one _ _)
  have KP : Hid (Keep c w (w3.alloc (.cells #[] 3))) := KP.out.call (below_one _ _)
  generalize w3.alloc (.cells #[] 3) = W1 at *
  generalize w3.heap.size = G1 at *
  go_upto_region 4 with fail
  go_loopw [7, 8] (fun v i wr => ∃ (k : Nat) (ts : Nat → Nat), i = .int .i64 k ∧ k ≤ n ∧ Hid (Cu wr c a len cap ∧ Keep c w wr ∧ wr.ownsRow w.heap.size 3 1 v k (ils (fun i => (ts i : Int)) k) ∧ ∀ i, i < k → 1 ≤ ts i ∧ ts i ≤ 6)) (fun _ i _ => n - (intOf i).toNat)
  case atStart => exact ⟨0, fun _ => 1, rfl, by omega, CU.out, KP.out, OW.out, fun i hi => by omega⟩
  case round =>
    obtain ⟨k, ts, rfl, hk, hrel⟩ := hrel
    by_cases h1 : k < n
    · have CU : Hid (Cu wr c a len cap) := hrel.out.1
      have KP : Hid (Keep c w wr) := hrel.out.2.1
      have HO : Hid (wr.ownsRow w.heap.size 3 1 u7 k (ils (fun i => (ts i : Int)) k)) := hrel.out.2.2.1
      have HT : Hid (∀ i, i < k → 1 ≤ ts i ∧ ts i ≤ 6) := hrel.out.2.2.2
      clear hrel
      go_wp2_with (first
        | (go_at_call 54; (with_reducible refine (below_x CU.out _).mono ?_); rintro e w4 ⟨x, hx0, hx1, hx2, rfl, hc, hk2⟩; have CU : Hid (Cu w4 c a len cap) := hc; have KP : Hid (Keep c w w4) := KP.out.trans hk2; have HO : Hid (w4.ownsRow w.heap.size 3 1 u7 k (ils (fun i => (ts i : Int)) k)) := own_keep HO.out hk2 hcw; have hx3 := hx2 (by decide); clear hc hk2 hx2; have CU4 : Hid (Cu (w4.alloc (.cells #[.int .i64 (1 + x)] 3)) c a len cap) := CU.out.call (below_one _ _); have KP4 : Hid (Keep c w (w4.alloc (.cells #[.int .i64 (1 + x)] 3))) := KP.out.call (below_one _ _); have HO : Hid ((w4.alloc (.cells #[.int .i64 (1 + x)] 3)).ownsRow w.heap.size 3 1 u7 k (ils (fun i => (ts i : Int)) k)) := own_below HO.out (below_one _ _))
        | (at_builtin; refine wpList_append_own _ rfl _ _ 27 rfl w.heap.size 3 i0 (.int .i64 0) 1 8 Try.underlying27 hi hz0 hz1 hz2 rfl (by decide) _ _ _ rfl HO.out ⟨w4.heap.size, 0, none⟩ 1 1 [.int .i64 (1 + x)] rfl rfl (one_new _ _ _) (by simp [Value.oneCell']) (by unfold maxLen; omega) (by omega) (Nat.le_trans KP.out.size (by simp)) ?_))
      intro v' w5 hown' hgrow _
      obtain ⟨t, ht⟩ : ∃ t : Nat, (t : Int) = 1 + x := ⟨(1 + x).toNat, by omega⟩
      have hB5 : Below w.heap.size (w4.alloc (.cells #[.int .i64 (1 + x)] 3)) w5 := grown_below (Below.refl _ _) KP4.out.size HO.out hgrow
      obtain ⟨hc5, hk5⟩ := Cu.old H0.out CU4.out KP4.out hB5
      rw [ils_app, ← ht] at hown'
      have HO5 : Hid (w5.ownsRow w.heap.size 3 1 v' (k + 1) (ils (fun i => ((if i = k then t else ts i : Nat) : Int)) (k + 1))) := by
        have e : (fun i => if i = k then (t : Int) else ((ts i : Nat) : Int)) = fun i => ((if i = k then t else ts i : Nat) : Int) := by funext i; split <;> rfl
        rw [e] at hown'
        exact hown'
      have HC5 : Hid (Cu w5 c a len cap ∧ Keep c w w5) := ⟨hc5, hk5⟩
      clear hown' hgrow hB5 hc5 hk5 HO CU KP CU4 KP4
      go_wp2
      go_roundw
      case rel => exact ⟨k + 1, _, by go_num, by omega, HC5.out.1, HC5.out.2, HO5.out, fun i hi => by
        by_cases hik : i = k
        · rw [if_pos hik]; omega
        · rw [if_neg hik]; exact HT.out i (by omega)⟩
      case measure => simp [intOf]; omega
    · obtain rfl : k = n := by omega
      have CU : Hid (Cu wr c a len cap) := hrel.out.1
      have KP : Hid (Keep c w wr) := hrel.out.2.1
      have HO0 : Hid (wr.ownsRow w.heap.size 3 1 u7 k (ils (fun i => (ts i : Int)) k)) := hrel.out.2.2.1
      have HT : Hid (∀ i, i < k → 1 ≤ ts i ∧ ts i ≤ 6) := hrel.out.2.2.2
      clear hrel
      obtain ⟨tg, tc, rfl⟩ : ∃ tg tc, u7 = .slice (some ⟨tg, 0, none⟩) k tc := by
        rcases HO0.out.2 with ⟨rfl, h0⟩ | ⟨g, cp, cur, rfl, _⟩
        · omega
        · exact ⟨_, _, rfl⟩
      obtain ⟨i5, hf, hf0, hf1, hf2⟩ := info_parts Try.info31
      obtain ⟨w6, hw6⟩ : ∃ w6, w6 = wr := ⟨_, rfl⟩
      have HC6 : Hid (Cu w6 c a len cap ∧ Keep c w w6 ∧ w6.ownsRow w.heap.size 3 1 (.slice (some ⟨tg, 0, none⟩) k tc) k (ils (fun i => (ts i : Int)) k)) := by rw [hw6]; exact ⟨CU.out, KP.out, HO0.out⟩
      rw [← hw6]
      have hc6 : c < w6.heap.size := HC6.out.1.lt
      clear hw6 CU KP HO0
      go_upto_region 9 with fail
      have HS6 : Hid (Stw w6 (w6.alloc (.cells #[] 31)) c a len cap (.slice (some ⟨w6.heap.size, 0, none⟩) 0 0) 0 (fun _ => ⟨0, 0, 0, 0, 0⟩)) := ⟨HC6.out.1.call (below_one _ _), (Keep.refl _ _).call (below_one _ _), own_empty w6 31 5⟩
      generalize w6.alloc (.cells #[] 31) = W2 at HS6 ⊢
      generalize w6.heap.size = G2 at HS6 ⊢
      go_loopw [9, 10] (fun v i wr => ∃ (j m : Nat) (ss : Nat → Wr), i = .int .i64 j ∧ 1 ≤ j ∧ j ≤ k ∧ m ≤ j ∧ Hid (Stw w6 wr c a len cap v m ss)) (fun _ i _ => k - (intOf i).toNat)
      case atStart => exact ⟨1, 0, _, rfl, by omega, by omega, by omega, HS6.out⟩
      case round =>
        clear HS6
        obtain ⟨j, m, ss, rfl, hj1, hjk, hmj, hrel⟩ := hrel
        by_cases h2 : j < k
        · have HS : Hid (Stw w6 wr c a len cap u9 m ss) := hrel
          clear hrel
          go_wp2_with (first
            | (go_at_call 55; (with_reducible refine (once_x HS.out.cu _).mono ?_); rintro e w7 ⟨x, rfl, hc, hk2⟩; have HS : Hid (Stw w6 w7 c a len cap u9 m ss) := HS.out.keep hc hk2 hc6; clear hc hk2)
            | (go_at_call 54; (with_reducible refine (below_x HS.out.cu _).mono ?_); rintro e w7 ⟨y, hy0, hy1, hy2, rfl, hc, hk2⟩; have hy3 := hy2 (by omega); clear hy2; obtain ⟨yn, rfl⟩ : ∃ yn : Nat, y = (yn : Int) := ⟨y.toNat, by omega⟩; have HS : Hid (Stw w6 w7 c a len cap u9 m ss) := HS.out.keep hc hk2 hc6; clear hc hk2)
            | (go_at_call 66; (with_reducible refine (wire_x (HS.out.dt HC6.out.2.2 hcw) hcw HT.out yn j (by omega) (by omega) (by omega)).mono ?_); rintro e w7 ⟨⟨f1, f2, f3, f4, f5⟩, rfl, hD⟩; rw [show (Wr.v ⟨f1, f2, f3, f4, f5⟩) = .agg #[.int .i64 f1, .int .i64 f2, .int .i64 f3, .int .i64 f4, .int .i64 f5] from rfl]; have HS : Hid (Stw w6 (w7.alloc (.cells #[.int .i64 f1, .int .i64 f2, .int .i64 f3, .int .i64 f4, .int .i64 f5] 31)) c a len cap u9 m ss) := (HS.out.keep hD.cu hD.kp hc6).call (below_one _ _); clear hD)
            | (at_builtin; refine wpList_append_own _ rfl _ _ 24 rfl w6.heap.size 31 i5 (.agg #[.int .i64 0, .int .i64 0, .int .i64 0, .int .i64 0, .int .i64 0]) 5 40 Try.underlying24 hf hf0 hf1 hf2 (by simp [Value.cells]) (by decide) _ _ _ rfl HS.out.row ⟨w7.heap.size, 0, none⟩ 1 1 (ils (Wr.n ⟨f1, f2, f3, f4, f5⟩) 5) rfl (by rw [ils_length]) (five_new w7 ⟨f1, f2, f3, f4, f5⟩ 31) (ils_one _ _) (by unfold maxLen; omega) (by omega) HS.out.kp.size ?_))
          · intro v' w8 hown' hgrow _
            have HS8 : Hid _ := Stw.app HC6.out.1 HS.out ⟨f1, f2, f3, f4, f5⟩ hown' hgrow
            clear hown' hgrow HS
            go_wp2
            go_roundw
            case rel => exact ⟨j + 1, m + 1, _, by go_num, by omega, by omega, by omega, HS8.out⟩
            case measure => simp [intOf]; omega
          · go_roundw
            case rel => exact ⟨j + 1, m, ss, by go_num, by omega, by omega, by omega, HS.out⟩
            case measure => simp [intOf]; omega
        · obtain rfl : j = k := by omega
          have HS : Hid (Stw w6 wr c a len cap u9 m ss) := hrel
          clear hrel
          go_upto_region 14 with (go_at_call 54; (with_reducible refine (below_x HS.out.cu _).mono ?_); rintro e w7 ⟨y, hy0, hy1, hy2, rfl, hc, hk2⟩; have hy3 := hy2 (by decide); clear hy2; obtain ⟨yn, rfl⟩ : ∃ yn : Nat, y = (yn : Int) := ⟨y.toNat, by omega⟩; have HS : Hid (Stw w6 w7 c a len cap u9 m ss) := HS.out.keep hc hk2 hc6; clear hc hk2)
          go_loopw [9, 11] (fun v i wr => ∃ (r m : Nat) (ss : Nat → Wr), i = .int .i64 r ∧ m + r ≤ 9 ∧ Hid (Stw w6 wr c a len cap v m ss)) (fun _ i _ => (intOf i).toNat)
          case atStart => exact ⟨yn, m, ss, rfl, by omega, HS.out⟩
          case round =>
            clear HS
            obtain ⟨r, m, ss, rfl, hmr, hrel⟩ := hrel
            by_cases h3 : 0 < r
            · have HS : Hid (Stw w6 wr c a len cap u9 m ss) := hrel
              clear hrel

              go_upto_region 17 with (first
                | ((fail_if_success have hay := ha0); go_at_call 54; (with_reducible refine (below_x HS.out.cu _).mono ?_); rintro e w7 ⟨y, ha0, hy1, hy2, rfl, hc, hk2⟩; have ha3 := hy2 (by omega); clear hy1 hy2; obtain ⟨yn, rfl⟩ : ∃ yn : Nat, y = (yn : Int) := ⟨y.toNat, by omega⟩; have HS : Hid (Stw w6 w7 c a len cap u9 m ss) := HS.out.keep hc hk2 hc6; clear hc hk2)
                | (go_at_call 54; (with_reducible refine (below_x HS.out.cu _).mono ?_); rintro e w7 ⟨y, hb0, hy1, hy2, rfl, hc, hk2⟩; have hb3 := hy2 (by omega); clear hy1 hy2; obtain ⟨zn, rfl⟩ : ∃ zn : Nat, y = (zn : Int) := ⟨y.toNat, by omega⟩; have HS : Hid (Stw w6 w7 c a len cap u9 m ss) := HS.out.keep hc hk2 hc6; clear hc hk2))
              go_upto_region 18 with (go_at_call 66; (with_reducible refine (wire_x (HS.out.dt HC6.out.2.2 hcw) hcw HT.out yn zn (by omega) (by omega) (by omega)).mono ?_); rintro e w7 ⟨⟨f1, f2, f3, f4, f5⟩, rfl, hD⟩; rw [show (Wr.v ⟨f1, f2, f3, f4, f5⟩) = .agg #[.int .i64 f1, .int .i64 f2, .int .i64 f3, .int .i64 f4, .int .i64 f5] from rfl]; have HS : Hid (Stw w6 w7 c a len cap u9 m ss) := HS.out.keep hD.cu hD.kp hc6; clear hD)
              have HB : Hid (Below w7.heap.size w7 (w7.alloc (.cells #[.int .i64 f1, .int .i64 f2, .int .i64 f3, .int .i64 f4, .int .i64 f5] 31))) := below_one _ _
              have RG : Hid (R5 (w7.alloc (.cells #[.int .i64 f1, .int .i64 f2, .int .i64 f3, .int .i64 f4, .int .i64 f5] 31)) w7.heap.size f1 f2 f3 f4 f5) := R5.new _ _ _ _ _ _ _
              have hcG : c < w7.heap.size := HS.out.cu.lt
              have HTZ : Hid (∀ X, (Cu X c a len cap ∧ Keep c w7 X) → X.cell? ⟨tg, zn, none⟩ = some (.int .i64 (ts zn : Int))) := fun X hX => ((HS.out.keep hX.1 hX.2 hc6).dt HC6.out.2.2 hcw).cell (by omega)
              have HJ : Hid (Cu (w7.alloc (.cells #[.int .i64 f1, .int .i64 f2, .int .i64 f3, .int .i64 f4, .int .i64 f5] 31)) c a len cap ∧ Keep c w7 (w7.alloc (.cells #[.int .i64 f1, .int .i64 f2, .int .i64 f3, .int .i64 f4, .int .i64 f5] 31))) := ⟨HS.out.cu.call HB.out, (Keep.refl _ _).call HB.out⟩
              obtain ⟨tz, htz⟩ : ∃ tz, tz = ts zn := ⟨_, rfl⟩
              rw [← htz] at HTZ
              have HTG : tg < w7.heap.size := World.block_lt_of_cell? _ _ (HTZ.out w7 ⟨HS.out.cu, Keep.refl _ _⟩)
              obtain ⟨G, hGe⟩ : ∃ G, G = w7.heap.size := ⟨_, rfl⟩
              generalize w7.alloc (.cells #[.int .i64 f1, .int .i64 f2, .int .i64 f3, .int .i64 f4, .int .i64 f5] 31) = x1 at HJ RG ⊢
              rw [← hGe] at RG hcG HTG ⊢
              have hGG : w7.heap.size ≤ G := by omega
              clear htz HB hGe
              have hne : G ≠ tg := by omega
              have hne2 : tg ≠ G := by omega
              have hnc : G ≠ c := by omega
              by_cases hzy : zn ≤ yn
              · skip
                go_upto_region 19 with (first
                  | (go_at_call 55; (with_reducible refine (once_x HJ.out.1 _).mono ?_); rintro e x1 ⟨x, rfl, hc, hk2⟩; have HJ : Hid (Cu x1 c a len cap ∧ Keep c w7 x1) := ⟨hc, HJ.out.2.trans hk2⟩; have RG : Hid (R5 x1 G f1 f2 f3 f4 f5) := RG.out.keep hk2 hnc; clear hc hk2; have k0 := RG.out.c0; have k1 := RG.out.c1; have k2 := RG.out.c2; have k3 := RG.out.c3; have k4 := RG.out.c4; have HX : Hid (Stw w6 (x1.alloc (.cells #[.int .i64 f1, .int .i64 f2, .int .i64 f3, .int .i64 f4, .int .i64 f5] 31)) c a len cap u9 m ss) := (HS.out.keep HJ.out.1 HJ.out.2 hc6).call (below_one _ _))
                  | (at_builtin; refine wpList_append_own _ rfl _ _ 24 rfl w6.heap.size 31 i5 (.agg #[.int .i64 0, .int .i64 0, .int .i64 0, .int .i64 0, .int .i64 0]) 5 40 Try.underlying24 hf hf0 hf1 hf2 (by simp [Value.cells]) (by decide) _ _ _ rfl HX.out.row ⟨x1.heap.size, 0, none⟩ 1 1 (ils (Wr.n ⟨f1, f2, f3, f4, f5⟩) 5) rfl (by rw [ils_length]) (five_new x1 ⟨f1, f2, f3, f4, f5⟩ 31) (ils_one _ _) (by unfold maxLen; omega) (by omega) HX.out.kp.size ?_))
                · have HT3 := HTZ.out x1 HJ.out
                  refine wp_region_any (by kernel_rfl) ?_
                  change wpAny _ _ _ _ _ _ _ (World.drew _)
                  clear HT3 k0 k1 k2 k3 k4 HX
                  have HJ : Hid (Cu x1.drew c a len cap ∧ Keep c w7 x1.drew) := ⟨HJ.out.1.call (below_dn x1 1), HJ.out.2.call (below_dn x1 1)⟩
                  have RG : Hid (R5 x1.drew G f1 f2 f3 f4 f5) := RG.out.drew
                  generalize x1.drew = x1 at HJ RG ⊢
                  refine wpI_any (I := fun X => (Cu X c a len cap ∧ Keep c w7 X) ∧ ∃ t, R5 X G f1 f2 f3 f4 t) _ _ _ _ ?_
                  refine wpI_take (i := 0) (v := ?_) rfl (by kernel_rfl) (by kernel_rfl) (by kernel_rfl) (fun _ _ _ h => h) ⟨by rfl, ?_⟩ ?_
                  rotate_left
                  · intro X hI; have q1 := HTZ.out X hI.1; obtain ⟨_, c0, c1, c2, c3, c4, _⟩ := hI.2; go_simp; try go_bits
                    try rw [if_pos (by omega)]
                    try rw [if_neg (by omega)]
                    try with_reducible rfl
                  refine wpI_take (i := 1) (v := ?_) rfl (by kernel_rfl) (by kernel_rfl) (by kernel_rfl) (fun _ _ _ h => h) ⟨by rfl, ?_⟩ ?_
                  rotate_left
                  · intro X hI; have q1 := HTZ.out X hI.1; obtain ⟨_, c0, c1, c2, c3, c4, _⟩ := hI.2; go_simp; try go_bits
                    try rw [if_pos (by omega)]
                    try rw [if_neg (by omega)]
                    try with_reducible rfl
                  refine wpI_take (i := 2) (v := ?_) rfl (by kernel_rfl) (by kernel_rfl) (by kernel_rfl) (fun _ _ _ h => h) ⟨by rfl, ?_⟩ ?_
                  rotate_left
                  · intro X hI; have q1 := HTZ.out X hI.1; obtain ⟨_, c0, c1, c2, c3, c4, _⟩ := hI.2; go_simp; try go_bits
                    try rw [if_pos (by omega)]
                    try rw [if_neg (by omega)]
                    try with_reducible rfl
                  refine wpI_take (i := 3) (v := ?_) rfl (by kernel_rfl) (by kernel_rfl) (by kernel_rfl) (fun _ _ _ h => h) ⟨by rfl, ?_⟩ ?_
                  rotate_left
                  · intro X hI; have q1 := HTZ.out X hI.1; obtain ⟨_, c0, c1, c2, c3, c4, _⟩ := hI.2; go_simp; try go_bits
                    try rw [if_pos (by omega)]
                    try rw [if_neg (by omega)]
                    try with_reducible rfl
                  refine wpI_take (i := 4) (v := ?_) rfl (by kernel_rfl) (by kernel_rfl) (by kernel_rfl) (fun _ _ _ h => h) ⟨by rfl, ?_⟩ ?_
                  rotate_left
                  · intro X hI; have q1 := HTZ.out X hI.1; obtain ⟨_, c0, c1, c2, c3, c4, _⟩ := hI.2; go_simp; try go_bits
                    try rw [if_pos (by omega)]
                    try rw [if_neg (by omega)]
                    try with_reducible rfl
                  refine wpI_take (i := 5) (v := ?_) rfl (by kernel_rfl) (by kernel_rfl) (by kernel_rfl) (fun _ _ _ h => h) ⟨by rfl, ?_⟩ ?_
                  rotate_left
                  · intro X hI; have q1 := HTZ.out X hI.1; obtain ⟨_, c0, c1, c2, c3, c4, _⟩ := hI.2; go_simp; try go_bits
                    try rw [if_pos (by omega)]
                    try rw [if_neg (by omega)]
                    try with_reducible rfl
                  refine wpI_take (i := 6) (v := ?_) rfl (by kernel_rfl) (by kernel_rfl) (by kernel_rfl) (fun _ _ _ h => h) ⟨by rfl, ?_⟩ ?_
                  rotate_left
                  · intro X hI; have q1 := HTZ.out X hI.1; obtain ⟨_, c0, c1, c2, c3, c4, _⟩ := hI.2; go_simp; try go_bits
                    try rw [if_pos (by omega)]
                    try rw [if_neg (by omega)]
                    try with_reducible rfl
                  generalize wrap64 (f4 * (tz : Int)) = m8
                  refine wpI_take (i := 7) (v := ?_) rfl (by kernel_rfl) (by kernel_rfl) (by kernel_rfl) (fun _ _ _ h => h) ⟨by rfl, ?_⟩ ?_
                  rotate_left
                  · intro X hI; have q1 := HTZ.out X hI.1; obtain ⟨_, c0, c1, c2, c3, c4, _⟩ := hI.2; go_simp; try go_bits
                    try rw [if_pos (by omega)]
                    try rw [if_neg (by omega)]
                    try with_reducible rfl
                  refine wpI_only (i := 8) rfl (by kernel_rfl) ⟨HJ.out, ⟨_, RG.out⟩⟩ (by rfl) ?_
                  intro K hK
                  have z4 := RG.out.c4
                  have g4 := RG.out.fz 4
                  go_simp
                  refine hK _ _ ?_
                  clear z4 g4
                  have hJ2 := put19 HS.out.cu HJ.out.1 HJ.out.2 hGG hnc (.int .i64 m8)
                  have HJ : Hid (Cu (x1.setCell ⟨G, 4, none⟩ (.int .i64 m8)) c a len cap ∧ Keep c w7 (x1.setCell ⟨G, 4, none⟩ (.int .i64 m8))) := hJ2
                  clear hJ2
                  have RG : Hid (R5 (x1.setCell ⟨G, 4, none⟩ (.int .i64 m8)) G f1 f2 f3 f4 m8) := RG.out.put4 _
                  generalize x1.setCell ⟨G, 4, none⟩ (.int .i64 m8) = x1 at HJ RG ⊢
                  refine wpI_done ⟨HJ.out, ⟨_, RG.out⟩⟩ (by kernel_rfl) ?_ _
                  have HX : Hid (Stw w6 (x1.alloc (.cells #[.int .i64 f1, .int .i64 f2, .int .i64 f3, .int .i64 f4, .int .i64 m8] 31)) c a len cap u9 m ss) := (HS.out.keep HJ.out.1 HJ.out.2 hc6).call (below_one _ _)
                  have k0 := RG.out.c0; have k1 := RG.out.c1; have k2 := RG.out.c2; have k3 := RG.out.c3; have k4 := RG.out.c4
                  go_wp2_with (at_builtin; refine wpList_append_own _ rfl _ _ 24 rfl w6.heap.size 31 i5 (.agg #[.int .i64 0, .int .i64 0, .int .i64 0, .int .i64 0, .int .i64 0]) 5 40 Try.underlying24 hf hf0 hf1 hf2 (by simp [Value.cells]) (by decide) _ _ _ rfl HX.out.row ⟨x1.heap.size, 0, none⟩ 1 1 (ils (Wr.n ⟨f1, f2, f3, f4, m8⟩) 5) rfl (by rw [ils_length]) (five_new x1 ⟨f1, f2, f3, f4, m8⟩ 31) (ils_one _ _) (by unfold maxLen; omega) (by omega) HX.out.kp.size ?_)
                  intro v' w8 hown' hgrow _
                  have HS8 : Hid _ := Stw.app HC6.out.1 HX.out ⟨f1, f2, f3, f4, m8⟩ hown' hgrow
                  clear hown' hgrow HX
                  go_wp2
                  go_roundw
                  case rel => exact ⟨r - 1, m + 1, _, by rw [show ((r - 1 : Nat) : Int) = (r : Int) - 1 by omega], by omega, HS8.out⟩
                  case measure => simp [intOf]; omega
                · intro v' w8 hown' hgrow _
                  have HS8 : Hid _ := Stw.app HC6.out.1 HX.out ⟨f1, f2, f3, f4, f5⟩ hown' hgrow
                  clear hown' hgrow HX
                  go_wp2
                  go_roundw
                  case rel => exact ⟨r - 1, m + 1, _, by rw [show ((r - 1 : Nat) : Int) = (r : Int) - 1 by omega], by omega, HS8.out⟩
                  case measure => simp [intOf]; omega
              · skip
                have k0 := RG.out.c0; have k1 := RG.out.c1; have k2 := RG.out.c2; have k3 := RG.out.c3; have k4 := RG.out.c4
                have HX : Hid (Stw w6 (x1.alloc (.cells #[.int .i64 f1, .int .i64 f2, .int .i64 f3, .int .i64 f4, .int .i64 f5] 31)) c a len cap u9 m ss) := (HS.out.keep HJ.out.1 HJ.out.2 hc6).call (below_one _ _)
                go_wp2_with (at_builtin; refine wpList_append_own _ rfl _ _ 24 rfl w6.heap.size 31 i5 (.agg #[.int .i64 0, .int .i64 0, .int .i64 0, .int .i64 0, .int .i64 0]) 5 40 Try.underlying24 hf hf0 hf1 hf2 (by simp [Value.cells]) (by decide) _ _ _ rfl HX.out.row ⟨x1.heap.size, 0, none⟩ 1 1 (ils (Wr.n ⟨f1, f2, f3, f4, f5⟩) 5) rfl (by rw [ils_length]) (five_new x1 ⟨f1, f2, f3, f4, f5⟩ 31) (ils_one _ _) (by unfold maxLen; omega) (by omega) HX.out.kp.size ?_)
                intro v' w8 hown' hgrow _
                have HS8 : Hid _ := Stw.app HC6.out.1 HX.out ⟨f1, f2, f3, f4, f5⟩ hown' hgrow
                clear hown' hgrow HX
                go_wp2
                go_roundw
                case rel => exact ⟨r - 1, m + 1, _, by rw [show ((r - 1 : Nat) : Int) = (r : Int) - 1 by omega], by omega, HS8.out⟩
                case measure => simp [intOf]; omega
            · obtain rfl : r = 0 := by omega
              have HS : Hid (Stw w6 wr c a len cap u9 m ss) := hrel
              clear hrel
              go_upto_region 22 with (go_at_call 54; (with_reducible refine (below_x HS.out.cu _).mono ?_); rintro e w7 ⟨y, hy0, hy1, hy2, rfl, hc, hk2⟩; have hy3 := hy2 (by decide); clear hy1 hy2; have HS : Hid (Stw w6 w7 c a len cap u9 m ss) := HS.out.keep hc hk2 hc6; clear hc hk2)
              by_cases y0 : y = 0
              · subst y0
                go_wp2_with (first
                  | ((fail_if_success have hay := hc1); go_at_call 54; (with_reducible refine (below_x HS.out.cu _).mono ?_); rintro e w7 ⟨x1, hc1, hd1, he1, rfl, hc, hk2⟩; have hv1 := he1 (by omega); clear hd1 he1; have HS : Hid (Stw w6 w7 c a len cap u9 m ss) := HS.out.keep hc hk2 hc6; clear hc hk2)
                  | ((fail_if_success have hay := hc2); go_at_call 54; (with_reducible refine (below_x HS.out.cu _).mono ?_); rintro e w7 ⟨x2, hc2, hd2, he2, rfl, hc, hk2⟩; have hv2 := he2 (by omega); clear hd2 he2; have HS : Hid (Stw w6 w7 c a len cap u9 m ss) := HS.out.keep hc hk2 hc6; clear hc hk2)
                  | ((fail_if_success have hay := hc3); go_at_call 54; (with_reducible refine (below_x HS.out.cu _).mono ?_); rintro e w7 ⟨x3, hc3, hd3, he3, rfl, hc, hk2⟩; have hv3 := he3 (by omega); clear hd3 he3; have HS : Hid (Stw w6 w7 c a len cap u9 m ss) := HS.out.keep hc hk2 hc6; clear hc hk2)
                  | ((fail_if_success have hay := hc4); go_at_call 54; (with_reducible refine (below_x HS.out.cu _).mono ?_); rintro e w7 ⟨x4, hc4, hd4, he4, rfl, hc, hk2⟩; have hv4 := he4 (by omega); clear hd4 he4; have HS : Hid (Stw w6 w7 c a len cap u9 m ss) := HS.out.keep hc hk2 hc6; clear hc hk2; have HX5 : ∀ o, Hid (Stw w6 (w7.alloc o) c a len cap u9 m ss) := fun o => HS.out.call (below_one w7 o))
                  | (at_builtin; go_loud (refine wpList_append_own _ rfl _ _ 24 rfl w6.heap.size 31 i5 (.agg #[.int .i64 0, .int .i64 0, .int .i64 0, .int .i64 0, .int .i64 0]) 5 40 Try.underlying24 hf hf0 hf1 hf2 (by simp [Value.cells]) (by decide) _ _ _ rfl (HX5 (.cells #[.int .i64 x1, .int .i64 x2, .int .i64 (1 + x3), .int .i64 (1 + x4), .int .i64 0] 31)).out.row ⟨w7.heap.size, 0, none⟩ 1 1 (ils (Wr.n ⟨x1, x2, (1 + x3), (1 + x4), 0⟩) 5) rfl (by rw [ils_length]) (five_new w7 ⟨x1, x2, (1 + x3), (1 + x4), 0⟩ 31) (ils_one _ _) (by unfold maxLen; omega) (by omega) (HX5 (.cells #[.int .i64 x1, .int .i64 x2, .int .i64 (1 + x3), .int .i64 (1 + x4), .int .i64 0] 31)).out.kp.size ?_)))
                intro v' w8 hown' hgrow _
                have HS : Hid _ := Stw.app HC6.out.1 (HX5 (.cells #[.int .i64 x1, .int .i64 x2, .int .i64 (1 + x3), .int .i64 (1 + x4), .int .i64 0] 31)).out ⟨x1, x2, (1 + x3), (1 + x4), 0⟩ hown' hgrow
                clear hown' hgrow HX5
                go_wp2
                refine bodyPost_ret (v := .tuple #[.int .i64 (j : Int), v']) (by simp [results, Try.results39, go_sem]) rfl ?_; exact ⟨(j : Int), (m + 1), v', _, rfl, HS.out.cu, HC6.out.2.1.trans HS.out.kp, own_base HS.out.row HC6.out.2.1.size, by omega⟩
              · by_cases y1 : y = 1
                · subst y1
                  have pi1 : ∀ W, Cu W c a len cap → Calls Try.prog 56 #[.pointer (some ⟨c, 0, none⟩), .slice (some ⟨W.heap.size, 0, none⟩) 4 4] (W.alloc (.cells #[.int .i64 0, .int .i64 1, .int .i64 64, .int .i64 65] 3)) fun e w' => ∃ x : Int, e = .returned (.int .i64 x) ∧ Cu w' c a len cap ∧ Keep c W w' := fun W hW => pick_lit [0, 1, 64, 65] (by decide) (by decide) hW
                  have pi2 : ∀ W, Cu W c a len cap → Calls Try.prog 56 #[.pointer (some ⟨c, 0, none⟩), .slice (some ⟨W.heap.size, 0, none⟩) 4 4] (W.alloc (.cells #[.int .i64 0, .int .i64 1000, .int .i64 1001, .int .i64 (-1)] 3)) fun e w' => ∃ x : Int, e = .returned (.int .i64 x) ∧ Cu w' c a len cap ∧ Keep c W w' := fun W hW => pick_lit [0, 1000, 1001, -1] (by decide) (by decide) hW
                  go_wp2_with (first
                    | ((fail_if_success have hay := hc1); go_at_call 54; (with_reducible refine (below_x HS.out.cu _).mono ?_); rintro e w7 ⟨x1, hc1, hd1, he1, rfl, hc, hk2⟩; have hv1 := he1 (by omega); clear hd1 he1; have HS : Hid (Stw w6 w7 c a len cap u9 m ss) := HS.out.keep hc hk2 hc6; clear hc hk2)
                    | ((fail_if_success have hay := HP1); go_at_call 56; (with_reducible refine (pi1 _ HS.out.cu).mono ?_); rintro e w7 ⟨p1, rfl, hc, hk2⟩; have HS : Hid (Stw w6 w7 c a len cap u9 m ss) := HS.out.keep hc hk2 hc6; have HP1 : Hid True := trivial; clear hc hk2)
                    | ((fail_if_success have hay := HP2); go_at_call 56; (with_reducible refine (pi2 _ HS.out.cu).mono ?_); rintro e w7 ⟨p2, rfl, hc, hk2⟩; have HS : Hid (Stw w6 w7 c a len cap u9 m ss) := HS.out.keep hc hk2 hc6; have HP2 : Hid True := trivial; clear hc hk2; have HX5 : ∀ o, Hid (Stw w6 (w7.alloc o) c a len cap u9 m ss) := fun o => HS.out.call (below_one w7 o))
                    | (at_builtin; go_loud (refine wpList_append_own _ rfl _ _ 24 rfl w6.heap.size 31 i5 (.agg #[.int .i64 0, .int .i64 0, .int .i64 0, .int .i64 0, .int .i64 0]) 5 40 Try.underlying24 hf hf0 hf1 hf2 (by simp [Value.cells]) (by decide) _ _ _ rfl (HX5 (.cells #[.int .i64 x1, .int .i64 0, .int .i64 p1, .int .i64 1, .int .i64 p2] 31)).out.row ⟨w7.heap.size, 0, none⟩ 1 1 (ils (Wr.n ⟨x1, 0, p1, 1, p2⟩) 5) rfl (by rw [ils_length]) (five_new w7 ⟨x1, 0, p1, 1, p2⟩ 31) (ils_one _ _) (by unfold maxLen; omega) (by omega) (HX5 (.cells #[.int .i64 x1, .int .i64 0, .int .i64 p1, .int .i64 1, .int .i64 p2] 31)).out.kp.size ?_)))
                  intro v' w8 hown' hgrow _
                  have HS : Hid _ := Stw.app HC6.out.1 (HX5 (.cells #[.int .i64 x1, .int .i64 0, .int .i64 p1, .int .i64 1, .int .i64 p2] 31)).out ⟨x1, 0, p1, 1, p2⟩ hown' hgrow
                  clear hown' hgrow HX5
                  go_wp2
                  refine bodyPost_ret (v := .tuple #[.int .i64 (j : Int), v']) (by simp [results, Try.results39, go_sem]) rfl ?_; exact ⟨(j : Int), (m + 1), v', _, rfl, HS.out.cu, HC6.out.2.1.trans HS.out.kp, own_base HS.out.row HC6.out.2.1.size, by omega⟩
                · by_cases y2 : y = 2
                  · subst y2
                    have pi1 : ∀ W, Cu W c a len cap → Calls Try.prog 56 #[.pointer (some ⟨c, 0, none⟩), .slice (some ⟨W.heap.size, 0, none⟩) 3 3] (W.alloc (.cells #[.int .i64 0, .int .i64 20, .int .i64 21] 3)) fun e w' => ∃ x : Int, e = .returned (.int .i64 x) ∧ Cu w' c a len cap ∧ Keep c W w' := fun W hW => pick_lit [0, 20, 21] (by decide) (by decide) hW
                    go_wp2_with (((fail_if_success have hay := HP1); go_at_call 56; (with_reducible refine (pi1 _ HS.out.cu).mono ?_); rintro e w7 ⟨p1, rfl, hc, hk2⟩; have HS : Hid (Stw w6 w7 c a len cap u9 m ss) := HS.out.keep hc hk2 hc6; have HP1 : Hid True := trivial; clear hc hk2))
                    refine bodyPost_ret (v := .tuple #[.int .i64 p1, u9]) (by simp [results, Try.results39, go_sem]) rfl ?_; exact ⟨p1, m, u9, _, rfl, HS.out.cu, HC6.out.2.1.trans HS.out.kp, own_base HS.out.row HC6.out.2.1.size, by omega⟩
                  · by_cases y3 : y = 3
                    · subst y3
                      go_upto_region 30 with fail
                      go_loopw [9, 15] (fun v i wr => ∃ (l m : Nat) (ss : Nat → Wr), i = .int .i64 l ∧ m ≤ 9 + l ∧ l + 1 ≤ j ∧ Hid (Stw w6 wr c a len cap v m ss)) (fun _ i _ => j - (intOf i).toNat)
                      case atStart => exact ⟨0, m, ss, rfl, by omega, by omega, HS.out⟩
                      case round =>
                        clear HS
                        obtain ⟨l, m, ss, rfl, hml, hlj, hrel⟩ := hrel
                        have HS : Hid (Stw w6 wr c a len cap u9 m ss) := hrel
                        clear hrel
                        by_cases h4 : l + 1 < j
                        · have HX5 : ∀ o, Hid (Stw w6 (wr.alloc o) c a len cap u9 m ss) := fun o => HS.out.call (below_one wr o)
                          go_wp2_with (at_builtin; go_loud (refine wpList_append_own _ rfl _ _ 24 rfl w6.heap.size 31 i5 (.agg #[.int .i64 0, .int .i64 0, .int .i64 0, .int .i64 0, .int .i64 0]) 5 40 Try.underlying24 hf hf0 hf1 hf2 (by simp [Value.cells]) (by decide) _ _ _ rfl (HX5 (.cells #[.int .i64 (l : Int), .int .i64 ((l : Int) + 1), .int .i64 64, .int .i64 1, .int .i64 0] 31)).out.row ⟨wr.heap.size, 0, none⟩ 1 1 (ils (Wr.n ⟨(l : Int), ((l : Int) + 1), 64, 1, 0⟩) 5) rfl (by rw [ils_length]) (five_new wr ⟨(l : Int), ((l : Int) + 1), 64, 1, 0⟩ 31) (ils_one _ _) (by unfold maxLen; omega) (by omega) (HX5 (.cells #[.int .i64 (l : Int), .int .i64 ((l : Int) + 1), .int .i64 64, .int .i64 1, .int .i64 0] 31)).out.kp.size ?_))
                          intro v' w8 hown' hgrow _
                          have HS8 : Hid _ := Stw.app HC6.out.1 (HX5 (.cells #[.int .i64 (l : Int), .int .i64 ((l : Int) + 1), .int .i64 64, .int .i64 1, .int .i64 0] 31)).out ⟨(l : Int), ((l : Int) + 1), 64, 1, 0⟩ hown' hgrow
                          clear hown' hgrow HX5
                          go_wp2
                          go_roundw
                          case rel => exact ⟨l + 1, m + 1, _, by go_num, by omega, by omega, HS8.out⟩
                          case measure => simp [intOf]; omega
                        · go_wp2
                          refine bodyPost_ret (v := .tuple #[.int .i64 (j : Int), u9]) (by simp [results, Try.results39, go_sem]) rfl ?_; exact ⟨(j : Int), m, u9, _, rfl, HS.out.cu, HC6.out.2.1.trans HS.out.kp, own_base HS.out.row HC6.out.2.1.size, by omega⟩
                    · go_wp2
                      refine bodyPost_ret (v := .tuple #[.int .i64 (j : Int), u9]) (by simp [results, Try.results39, go_sem]) rfl ?_; exact ⟨(j : Int), m, u9, _, rfl, HS.out.cu, HC6.out.2.1.trans HS.out.kp, own_base HS.out.row HC6.out.2.1.size, by omega⟩

end Go.Proofs.Ytlccicbgepfbbaa

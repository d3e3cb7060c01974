/- DB DC. -/
import Derived.Test.YtddbekacdfohpaaGreatDoorDr
import Derived.Test.YtddbekacdfohpaaGreatDoorM21
import Derived.Test.YtddbekacdfohpaaGreatDoorM02
import Derived.Test.YtddbekacdfohpaaGreatDoorM05
namespace Go.Proofs.YtddbekacdfohpaaGreatDoor
open Go.RowKit

theorem Keep.trans {c : Nat} {W w w' : World} (h : Keep c W w) (h2 : Keep c w w') : Keep c W w' :=
  ⟨h2.os.trans h.os, h2.tape.trans h.tape, h2.output.trans h.output, Nat.le_trans h.size h2.size, fun k hk hl => (h2.block k hk (Nat.lt_of_lt_of_le hl h.size)).trans (h.block k hk hl)⟩

theorem cux_re {W w : World} {c : Nat} {a : Option Addr} {len cap : Nat} (h : Cux W w c a len cap) : Cux w w c a len cap := by
  refine ⟨fun i hi => ?_, h.ac, h.short, Keep.refl _ _, h.lt, h.b, h.ih, h.fz⟩
  obtain ⟨b, off, z, ha, hbW, hz, h0, h1⟩ := h.row i hi
  have hne : b ≠ c := h.ac ⟨b, off, none⟩ (by omega) ha
  exact ⟨b, off, z, ha, Nat.lt_of_lt_of_le hbW h.keep.size, (h.keep.cell (p := ⟨b, off + i, none⟩) hne hbW).trans hz, h0, h1⟩

theorem cux_tr {W w w' : World} {c : Nat} {a : Option Addr} {len cap : Nat} (h : Cux W w c a len cap) (hx : Cux w w' c a len cap) : Cux W w' c a len cap :=
  ⟨h.row, h.ac, h.short, h.keep.trans hx.keep, hx.lt, hx.b, hx.ih, hx.fz⟩

theorem cux_low {W w w' : World} {c B : Nat} {a : Option Addr} {len cap : Nat} (h : Cux W w c a len cap) (hc : c < B) (hB : W.heap.size ≤ B) (hb : Below B w w') : Cux W w' c a len cap := by
  obtain ⟨hr, hac, hsh, hbl, hlt, hb0, ⟨i, hh, hi0, hi1, hci, hch⟩, hfz⟩ := h
  exact ⟨hr, hac, hsh, ⟨hb.os.trans hbl.os, hb.tape.trans hbl.tape, hb.output.trans hbl.output, Nat.le_trans hbl.size hb.size, fun k hk hl => (hb.block k (Nat.lt_of_lt_of_le hl hB)).trans (hbl.block k hk hl)⟩, Nat.lt_of_lt_of_le hlt hb.size,
    (hb.cell (p := ⟨c, 0, none⟩) hc).trans hb0, ⟨i, hh, hi0, hi1, (hb.cell (p := ⟨c, 1, none⟩) hc).trans hci, (hb.cell (p := ⟨c, 2, none⟩) hc).trans hch⟩, fun o => (hb.frozen (p := ⟨c, o, none⟩) hc).trans (hfz o)⟩

theorem cux_set {W w : World} {c : Nat} {a : Option Addr} {len cap : Nat} (h : Cux W w c a len cap) {p : Addr} (hp : p.block ≠ c) (hg : W.heap.size ≤ p.block) (v : Value) : Cux W (w.setCell p v) c a len cap := by
  obtain ⟨hr, hac, hsh, hbl, hlt, hb, ⟨i, hh, hi0, hi1, hci, hch⟩, hfz⟩ := h
  have e : (w.setCell p v).heap[c]? = w.heap[c]? := Below.heap_setCell _ _ _ _ (Ne.symm hp)
  have ec : ∀ o, (w.setCell p v).cell? ⟨c, o, none⟩ = w.cell? ⟨c, o, none⟩ := fun o => World.cell?_of_block (w := w) e
  have ef : ∀ o, (w.setCell p v).frozen? ⟨c, o, none⟩ = w.frozen? ⟨c, o, none⟩ := fun o => World.frozen?_of_block (w := w) e
  exact ⟨hr, hac, hsh, ⟨hbl.os, hbl.tape, hbl.output, by simpa [World.setCell] using hbl.size, fun k hk hl => (Below.heap_setCell _ _ _ _ (by omega)).trans (hbl.block k hk hl)⟩, by simpa [World.setCell] using hlt, (ec 0).trans hb, ⟨i, hh, hi0, hi1, (ec 1).trans hci, (ec 2).trans hch⟩, fun o => (ef o).trans (hfz o)⟩

set_option maxHeartbeats 4000000 in
theorem l3_b {W w : World} {c : Nat} {a : Option Addr} {len cap : Nat} (h : Cux W w c a len cap) :
    Calls Tryz.prog 54 #[.pointer (some ⟨c, 0, none⟩)] w fun e w' => ∃ r : Nat, Bd r ∧ e = .returned (.float .f64 r) ∧ Cux W w' c a len cap := by
  have HC : Hid (Cux W w c a len cap) := h
  clear h
  have hQ := rQuo
  have hM := rMul
  go_enter Tryz.func54, Tryz.ntmps54
  go_wp2_with (first
    | (go_at_call 30; (fail_if_success have := hk1); refine (below_x HC.out 5 (by decide) (by decide)).mono ?_; rintro e w1 ⟨k, hk0, hk1, rfl, hc⟩; have HC1 : Hid (Cux W w1 c a len cap) := hc; clear hc)
    | (go_at_call 69; refine (dbits_x HC1.out Q.dbl).mono ?_; rintro e w2 ⟨x, hx0, hx1, rfl, hc⟩; obtain ⟨m, rfl⟩ := Int.eq_ofNat_of_zero_le hx0; have HC2 : Hid (Cux W w2 c a len cap) := hc; clear hc)
    | (go_at_call 68; refine (Q.from_spec m (by omega) _).mono ?_; rintro e w3 ⟨⟨r, rfl, hcr⟩, hb3⟩; have HBD : Hid (Bd r) := bd_cn (o := cn m) hcr (cn_lt (by omega)); clear hcr; have HC3 : Hid (Cux W w3 c a len cap) := cux_call HC2.out hb3)
    | (go_at_call 30; (with_reducible refine (below_bigx HC1.out 2000 (by decide) (by decide)).mono ?_); rintro e w4 ⟨x, hx0, hx1, rfl, hc⟩; have HC4 : Hid (Cux W w4 c a len cap) := hc; clear hc)
    | (go_at_call 30; (with_reducible refine (below_x HC1.out 201 (by decide) (by decide)).mono ?_); rintro e w5 ⟨x, hx0, hx1, rfl, hc⟩; have HC5 : Hid (Cux W w5 c a len cap) := hc; clear hc)
    | (go_at_call 30; (with_reducible refine (below_bigx HC1.out 10000 (by decide) (by decide)).mono ?_); rintro e w6 ⟨x, hx0, hx1, rfl, hc⟩; have HC6 : Hid (Cux W w6 c a len cap) := hc; clear hc)
    | (go_at_call 30; (with_reducible refine (below_x (cux_fwor HC6.out .quo (floatOfInt .f64 (x - 5000)) 4619567317775286272) 60 (by decide) (by decide)).mono ?_); rintro e w7 ⟨y, hy0, hy1, rfl, hc⟩; have HC7 : Hid (Cux W w7 c a len cap) := hc; clear hc)
    | (go_at_call 30; (with_reducible refine (below_bigx HC1.out 1000 (by decide) (by decide)).mono ?_); rintro e w8 ⟨x, hx0, hx1, rfl, hc⟩; have HC8 : Hid (Cux W w8 c a len cap) := hc; clear hc))
  · go_ret
    exact ⟨_, HBD.out, rfl, HC3.out⟩
  · go_ret
    exact ⟨_, bd_fres _ _ _ _, rfl, cux_fwor HC4.out _ _ _⟩
  · go_ret
    exact ⟨_, bd_int _, rfl, HC5.out⟩
  · obtain ⟨j, rfl⟩ := Int.eq_ofNat_of_zero_le hy0
    go_loopw [3, 4] (fun x i wr => ∃ (q X : Nat), i = .int .i64 q ∧ x = .float .f64 X ∧ q ≤ 60 ∧ Hid (Bd X ∧ Cux W wr c a len cap)) (fun _ i _ => (intOf i).toNat)
    case atStart => exact ⟨j, _, rfl, rfl, by omega, by first | exact bd_fres _ _ _ _ | exact bd_int _, HC7.out⟩
    case round =>
      obtain ⟨q, X, rfl, rfl, hq, hcur⟩ := hrel
      by_cases h1 : 0 < q
      · go_wp2
        go_roundw
        case rel => exact ⟨q - 1, _, by congr 1; omega, rfl, by omega, bd_fres _ _ _ _, cux_fwor hcur.out.2 _ _ _⟩
        case measure => simp [intOf]; omega
      · obtain rfl : q = 0 := by omega
        go_wp2
        go_ret
        exact ⟨_, hcur.out.1, rfl, hcur.out.2⟩
  · go_ret
    exact ⟨_, bd_fres _ _ _ _, rfl, cux_fwor HC8.out _ _ _⟩
set_option maxHeartbeats 1000000 in
theorem l4_x {W w : World} {c : Nat} {a : Option Addr} {len cap : Nat} (h : Cux W w c a len cap) :
    Calls Tryz.prog 33 #[.pointer (some ⟨c, 0, none⟩)] w fun e w' => ∃ x y : Nat, Bd x ∧ Bd y ∧ e = .returned (Pv x y) ∧ Cux W w' c a len cap := by
  have hc1 : Cux W (w.alloc (.cells #[.float .f64 0, .float .f64 0] 39)) c a len cap := cux_call h (below_one _ _)
  have hx1 := cux_re hc1
  have f1 := Rb.new w 0 0 39 rfl
  have hlt := h.lt
  have hge := h.keep.size
  have HC1 : Hid (Cux W (w.alloc (.cells #[.float .f64 0, .float .f64 0] 39)) c a len cap) := hc1
  have HX : Hid (Cux (w.alloc (.cells #[.float .f64 0, .float .f64 0] 39)) (w.alloc (.cells #[.float .f64 0, .float .f64 0] 39)) c a len cap) := hx1
  have fin : ∀ w' x y, Cux (w.alloc (.cells #[.float .f64 0, .float .f64 0] 39)) w' c a len cap → Rb w' w.heap.size 0 0 ∧ Cux W ((w'.setCell ⟨w.heap.size, 0, none⟩ (.float .f64 x)).setCell ⟨w.heap.size, 1, none⟩ (.float .f64 y)) c a len cap := fun w' x y hx => by
    have hne : w.heap.size ≠ c := by omega
    have hl : w.heap.size < (w.alloc (.cells #[.float .f64 0, .float .f64 0] 39)).heap.size := by simp
    refine ⟨⟨(hx.keep.cell (p := ⟨w.heap.size, 0, none⟩) hne hl).trans f1.c0, (hx.keep.cell (p := ⟨w.heap.size, 1, none⟩) hne hl).trans f1.c1, (hx.keep.frozen (p := ⟨w.heap.size, 0, none⟩) hne hl).trans f1.z0, (hx.keep.frozen (p := ⟨w.heap.size, 1, none⟩) hne hl).trans f1.z1⟩, ?_⟩
    exact cux_set (cux_set (cux_tr HC1.out hx) (p := ⟨w.heap.size, 0, none⟩) hne hge _) (p := ⟨w.heap.size, 1, none⟩) hne hge _
  have FIN : Hid _ := fin
  clear h hc1 hx1 f1 fin hlt hge
  have hQ := rQuo
  have hST := rStore
  go_enter Tryz.func33, Tryz.ntmps33
  go_wp2_with (first
    | (go_at_call 32; refine (once_x HX.out 3 (by decide) (by decide)).mono ?_; rintro e w1 ⟨b, rfl, hc⟩; have HX1 : Hid (Cux _ w1 c a len cap) := hc; clear hc)
    | (go_at_call 54; (fail_if_success have := HX2); refine (l3_b HX1.out).mono ?_; rintro e w2 ⟨r1, hr1, rfl, hc⟩; have B1 : Hid (Bd r1) := hr1; clear hr1; have HX2 : Hid (Cux _ w2 c a len cap) := hc; clear hc)
    | (go_at_call 54; refine (l3_b HX2.out).mono ?_; rintro e w3 ⟨r2, hr2, rfl, hc⟩; have B2 : Hid (Bd r2) := hr2; clear hr2; obtain ⟨g0, g1, z0, z1⟩ := (FIN.out w3 r1 r2 hc).1; have HX3 : Hid _ := (FIN.out w3 r1 r2 hc).2; clear hc)
    | (go_at_call 30; (fail_if_success have := HX4); refine (below_x HX1.out 21 (by decide) (by decide)).mono ?_; rintro e w4 ⟨x4, h40, h41, rfl, hc⟩; have HX4 : Hid (Cux _ w4 c a len cap) := hc; clear hc)
    | (go_at_call 30; refine (below_x (cux_fwor HX4.out .quo (floatOfInt .f64 (x4 - 10)) 4616189618054758400) 21 (by decide) (by decide)).mono ?_; rintro e w5 ⟨x5, h50, h51, rfl, hc⟩; obtain ⟨g0, g1, z0, z1⟩ := (FIN.out _ (fres .quo w4 (floatOfInt .f64 (x4 - 10)) 4616189618054758400) (fres .quo w5 (floatOfInt .f64 (x5 - 10)) 4616189618054758400) (cux_fwor hc .quo (floatOfInt .f64 (x5 - 10)) 4616189618054758400)).1; have HX5 : Hid _ := (FIN.out _ (fres .quo w4 (floatOfInt .f64 (x4 - 10)) 4616189618054758400) (fres .quo w5 (floatOfInt .f64 (x5 - 10)) 4616189618054758400) (cux_fwor hc .quo (floatOfInt .f64 (x5 - 10)) 4616189618054758400)).2; clear hc))
  · exact bodyPost_ret (v := Pv r1 r2) (by simp [results, Tryz.results33, go_sem, g0, g1]) rfl ⟨_, _, B1.out, B2.out, rfl, HX3.out⟩
  · have hfin := HX5.out
    have b1 := bd_fres .quo w4 (floatOfInt .f64 (x4 - 10)) 4616189618054758400
    have b2 := bd_fres .quo w5 (floatOfInt .f64 (x5 - 10)) 4616189618054758400
    generalize hr1 : fres .quo w4 (floatOfInt .f64 (x4 - 10)) 4616189618054758400 = r1 at *
    generalize hr2 : fres .quo w5 (floatOfInt .f64 (x5 - 10)) 4616189618054758400 = r2 at *
    generalize fwor .quo w5 (floatOfInt .f64 (x5 - 10)) 4616189618054758400 = w6 at *
    exact bodyPost_ret (v := Pv r1 r2) (by simp [results, Tryz.results33, go_sem, g0, g1]) rfl ⟨r1, r2, b1, b2, rfl, hfin⟩

end Go.Proofs.YtddbekacdfohpaaGreatDoor

namespace Go.Proofs.YtddbekacdfohpaaGreatDoor
open Go.RowKit

set_option maxHeartbeats 1000000 in
theorem size_any (a : Option Addr) (n cap : Nat) (hn : n ≤ 1048576) (w : World) : Calls Tryz.prog 31 #[.slice a n cap, .int .i64 20] w fun e w' => (∃ x : Int, 2 ≤ x ∧ x ≤ 20 ∧ e = .returned (.int .i64 x)) ∧ w' = w := by
  have h0 : 0 ≤ (n : Int) / 20 ∧ (n : Int) / 20 ≤ 1048576 := by
    omega
  by_cases h : 20 < 2 + (n : Int) / 20
  · go_enter Tryz.func31, Tryz.ntmps31
    go_wp2
    go_ret
    exact ⟨⟨20, by omega, by omega, rfl⟩, rfl⟩
  · go_enter Tryz.func31, Tryz.ntmps31
    go_wp2
    go_ret
    exact ⟨⟨2 + (n : Int) / 20, by omega, by omega, rfl⟩, rfl⟩

/-- A list of pairs that was drawn so far, in memory made since w; the cursor lies in w. -/
structure St (w wr : World) (c : Nat) (a : Option Addr) (len cap : Nat) (u : Value) (k : Nat) (X Y : Nat → Nat) : Prop where
  ow : wr.ownsRow w.heap.size 39 2 u k (cl2 X Y k)
  bd : ∀ i, i < k → Bd (X i) ∧ Bd (Y i)
  cu : Cux w wr c a len cap
  lt : c < w.heap.size

theorem St.next {w wr w' : World} {c : Nat} {a : Option Addr} {len cap : Nat} {u : Value} {k : Nat} {X Y : Nat → Nat} (h : St w wr c a len cap u k X Y) (hc : Cux wr w' c a len cap) : St w w' c a len cap u k X Y :=
  ⟨own_at h.ow (fun g hg => by have := World.ownsRow.lt h.ow g hg; have hl := h.lt; exact hc.keep.block g (by omega) this.2), h.bd, cux_tr h.cu hc, h.lt⟩

theorem St.call {w wr w' : World} {c : Nat} {a : Option Addr} {len cap : Nat} {u : Value} {k : Nat} {X Y : Nat → Nat} (h : St w wr c a len cap u k X Y) (hb : Below wr.heap.size wr w') : St w w' c a len cap u k X Y :=
  ⟨own_below h.ow hb, h.bd, cux_call h.cu hb, h.lt⟩

theorem St.app {w wr w5 : World} {c : Nat} {a : Option Addr} {len cap : Nat} {u v' : Value} {k x y : Nat} {X Y : Nat → Nat} (h : St w wr c a len cap u k X Y) (hb : Bd x ∧ Bd y) (ho : w5.ownsRow w.heap.size 39 2 v' (k + 1) (cl2 X Y k ++ [.float .f64 x, .float .f64 y])) (hg : wr.grownBy w5 u.ownBlock) :
    St w w5 c a len cap v' (k + 1) (fun i => if i = k then x else X i) (fun i => if i = k then y else Y i) := by
  refine ⟨by rw [← cl2_snoc]; exact ho, fun i hi => ?_, cux_low h.cu h.lt (Nat.le_refl _) (grown_below (Below.refl _ _) h.cu.keep.size h.ow hg), h.lt⟩
  by_cases hk : i = k
  · subst hk; simpa using hb
  · have := h.bd i (by omega)
    simpa [hk] using this

/-- What l4DrawList answers. -/
def Lst (w : World) (c : Nat) (a : Option Addr) (len cap : Nat) (e : Ending) (w' : World) : Prop := ∃ (u : Value) (n : Nat) (X Y : Nat → Nat), e = .returned u ∧ n ≤ 129 ∧ w'.ownsRow w.heap.size 39 2 u n (cl2 X Y n) ∧ (∀ k, k < n → Bd (X k) ∧ Bd (Y k)) ∧ Cux w w' c a len cap

set_option maxRecDepth 100000 in
set_option maxHeartbeats 4000000 in
theorem list_x {w : World} {c : Nat} {a : Option Addr} {len cap : Nat} (h : Cux w w c a len cap) (hlen : len ≤ 1048576) :
    Calls Tryz.prog 14 #[.pointer (some ⟨c, 0, none⟩), .slice a len cap] w fun e w' => Lst w c a len cap e w' := by
  obtain ⟨i0, hi, hz0, hz1, hz2⟩ := info_parts Tryz.info39
  have INFO : Hid (Tryz.prog.info? 39 = some i0 ∧ i0.zero = some (.agg #[.float .f64 0, .float .f64 0]) ∧ i0.size = 2 ∧ i0.bytes = 16) := ⟨hi, hz0, hz1, hz2⟩
  have S0 : Hid (St w (w.alloc (.cells #[] 39)) c a len cap (.slice (some ⟨w.heap.size, 0, none⟩) 0 0) 0 (fun _ => 0) (fun _ => 0)) := ⟨own_empty w 39 2, fun i hi => by omega, cux_call h (below_one _ _), h.lt⟩
  have HS := size_any a len cap hlen
  clear h hi hz0 hz1 hz2
  go_enter Tryz.func14, Tryz.ntmps14
  go_wp2_with (first
    | (go_at_call 31; refine (HS _).mono ?_; rintro e w1 ⟨⟨x1, hx1, hy1, rfl⟩, hw⟩; obtain rfl := hw.symm)
    | (go_at_call 30; (with_reducible refine (below_x (cux_re S0.out.cu) 3 (by decide) (by decide)).mono ?_); rintro e w4 ⟨x3, h30, h31, rfl, hc⟩; have S1 := S0; clear S0; have S0 : Hid (St w w4 c a len cap _ _ _ _) := S1.out.next hc; clear hc S1)
    | (go_at_call 30; refine (below_x (cux_re S0.out.cu) (x1 + 1) (by omega) (by omega)).mono ?_; rintro e w2 ⟨x2, h20, h21, rfl, hc⟩; have S1 := S0; clear S0; have S0 : Hid (St w w2 c a len cap _ _ _ _) := S1.out.next hc; clear hc S1)
    | (go_at_call 32; refine (once_x (cux_re S0.out.cu) 60 (by decide) (by decide)).mono ?_; rintro e w3 ⟨b, rfl, hc⟩; have S1 := S0; clear S0; have S0 : Hid (St w w3 c a len cap _ _ _ _) := S1.out.next hc; clear hc S1; cases b))
  · have hN : 0 ≤ x2 ∧ x2 ≤ 129 := by omega
    generalize x2 = N at *
    go_loopw [5, 7] (fun o i wr => ∃ (k : Nat) (X Y : Nat → Nat), i = .int .i64 k ∧ (k : Int) ≤ N ∧ Hid (St w wr c a len cap o k X Y)) (fun _ i _ => (N - intOf i).toNat)
    case atStart => exact ⟨0, _, _, rfl, by omega, S0.out⟩
    case round =>
      obtain ⟨k, X, Y, rfl, hk, HS⟩ := hrel
      by_cases h1 : (k : Int) < N
      · go_wp2_with (first
          | (go_at_call 33; refine (l4_x (cux_re HS.out.cu)).mono ?_; rintro e w2 ⟨x, y, hbx, hby, rfl, hc⟩; have HS2 : Hid (St w (w2.alloc (.cells #[.float .f64 x, .float .f64 y] 39)) c a len cap u5 k X Y) := (HS.out.next hc).call (below_one _ _); have HXY : Hid (Bd x ∧ Bd y) := ⟨hbx, hby⟩; clear hbx hby hc)
          | (at_builtin; obtain ⟨hi, hz0, hz1, hz2⟩ := INFO.out; have HZ : w.heap.size ≤ (w2.alloc (.cells #[.float .f64 x, .float .f64 y] 39)).heap.size := HS2.out.cu.keep.size; refine wpList_append_own _ rfl _ _ 24 rfl w.heap.size 39 i0 (.agg #[.float .f64 0, .float .f64 0]) 2 16 Tryz.underlying24 hi hz0 hz1 hz2 rfl (by decide) _ _ _ rfl HS2.out.ow ⟨w2.heap.size, 0, none⟩ 1 1 [.float .f64 x, .float .f64 y] rfl rfl (two_new _ _ _ _) (by simp [Value.oneCell']) (by unfold maxLen; omega) (by omega) HZ ?_; intro v' w5 hown' hgrow _; have HS5 : Hid (St w w5 c a len cap v' (k + 1) (fun i => if i = k then x else X i) (fun i => if i = k then y else Y i)) := HS2.out.app HXY.out hown' hgrow; clear hown' hgrow hi hz0 hz1 hz2 HZ))
        go_roundw
        case rel => exact ⟨k + 1, _, _, by go_num, by omega, HS5.out⟩
        case measure => simp [intOf]; omega
      · obtain rfl : N = (k : Int) := by omega
        go_wp2
        go_ret
        exact ⟨_, k, X, Y, rfl, by omega, HS.out.ow, HS.out.bd, HS.out.cu⟩
  · have hN : 0 ≤ 127 + x3 ∧ 127 + x3 ≤ 129 := by omega
    generalize (127 + x3 : Int) = N at *
    go_loopw [5, 7] (fun o i wr => ∃ (k : Nat) (X Y : Nat → Nat), i = .int .i64 k ∧ (k : Int) ≤ N ∧ Hid (St w wr c a len cap o k X Y)) (fun _ i _ => (N - intOf i).toNat)
    case atStart => exact ⟨0, _, _, rfl, by omega, S0.out⟩
    case round =>
      obtain ⟨k, X, Y, rfl, hk, HS⟩ := hrel
      by_cases h1 : (k : Int) < N
      · go_wp2_with (first
          | (go_at_call 33; refine (l4_x (cux_re HS.out.cu)).mono ?_; rintro e w2 ⟨x, y, hbx, hby, rfl, hc⟩; have HS2 : Hid (St w (w2.alloc (.cells #[.float .f64 x, .float .f64 y] 39)) c a len cap u5 k X Y) := (HS.out.next hc).call (below_one _ _); have HXY : Hid (Bd x ∧ Bd y) := ⟨hbx, hby⟩; clear hbx hby hc)
          | (at_builtin; obtain ⟨hi, hz0, hz1, hz2⟩ := INFO.out; have HZ : w.heap.size ≤ (w2.alloc (.cells #[.float .f64 x, .float .f64 y] 39)).heap.size := HS2.out.cu.keep.size; refine wpList_append_own _ rfl _ _ 24 rfl w.heap.size 39 i0 (.agg #[.float .f64 0, .float .f64 0]) 2 16 Tryz.underlying24 hi hz0 hz1 hz2 rfl (by decide) _ _ _ rfl HS2.out.ow ⟨w2.heap.size, 0, none⟩ 1 1 [.float .f64 x, .float .f64 y] rfl rfl (two_new _ _ _ _) (by simp [Value.oneCell']) (by unfold maxLen; omega) (by omega) HZ ?_; intro v' w5 hown' hgrow _; have HS5 : Hid (St w w5 c a len cap v' (k + 1) (fun i => if i = k then x else X i) (fun i => if i = k then y else Y i)) := HS2.out.app HXY.out hown' hgrow; clear hown' hgrow hi hz0 hz1 hz2 HZ))
        go_roundw
        case rel => exact ⟨k + 1, _, _, by go_num, by omega, HS5.out⟩
        case measure => simp [intOf]; omega
      · obtain rfl : N = (k : Int) := by omega
        go_wp2
        go_ret
        exact ⟨_, k, X, Y, rfl, by omega, HS.out.ow, HS.out.bd, HS.out.cu⟩

set_option maxHeartbeats 1000000 in
theorem pick_x {W w : World} {c : Nat} {a : Option Addr} {len cap : Nat} (h : Cux W w c a len cap) (g : Nat) (hl : ∀ i : Nat, i < 8 → ∃ z : Int, w.cell? ⟨g, i, none⟩ = some (.int .i64 z)) (hg : g ≠ c) (hW : g < w.heap.size) :
    Calls Tryz.prog 15 #[.pointer (some ⟨c, 0, none⟩), .slice (some ⟨g, 0, none⟩) 8 8] w fun e w' => ∃ z : Int, e = .returned (.int .i64 z) ∧ Cux W w' c a len cap := by
  have HC : Hid (Cux W w c a len cap) := h
  have HL : Hid (∀ i : Nat, i < 8 → ∃ z : Int, w.cell? ⟨g, i, none⟩ = some (.int .i64 z)) := hl
  clear h hl
  go_enter Tryz.func15, Tryz.ntmps15
  go_wp2_with (go_at_call 30; refine (below_x (cux_re HC.out) 8 (by decide) (by decide)).mono ?_; rintro e w2 ⟨x2, h20, h21, rfl, hc⟩; obtain ⟨q, rfl⟩ := Int.eq_ofNat_of_zero_le h20; obtain ⟨z, hz⟩ := HL.out q (by omega); have hz' := (hc.keep.cell (p := ⟨g, q, none⟩) hg hW).trans hz; have HC2 : Hid (Cux W w2 c a len cap) := cux_tr HC.out hc; clear hc hz)
  go_ret
  exact ⟨z, rfl, HC2.out⟩

/-- What DrawPieces answers. -/
def Dpc (w : World) (e : Ending) (w' : World) : Prop := ∃ (u : Value) (n : Nat) (X Y : Nat → Nat) (p q : Int), e = .returned (.tuple #[u, .int .i64 p, .int .i64 q]) ∧ n ≤ 129 ∧ Fp w' u n X Y ∧ (∀ k, k < n → Bd (X k) ∧ Bd (Y k)) ∧ Below w.heap.size w w'

theorem lit8 (w : World) (z0 z1 z2 z3 z4 z5 z6 z7 : Int) (t : TypeId) : ∀ i : Nat, i < 8 → ∃ z : Int, (w.alloc (.cells #[.int .i64 z0, .int .i64 z1, .int .i64 z2, .int .i64 z3, .int .i64 z4, .int .i64 z5, .int .i64 z6, .int .i64 z7] t)).cell? ⟨w.heap.size, i, none⟩ = some (.int .i64 z) := by
  intro i hi
  obtain rfl | rfl | rfl | rfl | rfl | rfl | rfl | rfl : i = 0 ∨ i = 1 ∨ i = 2 ∨ i = 3 ∨ i = 4 ∨ i = 5 ∨ i = 6 ∨ i = 7 := by omega
  all_goals exact ⟨_, by simp [go_sem]; rfl⟩

set_option maxRecDepth 100000 in
set_option maxHeartbeats 4000000 in
theorem dpc_any {w : World} {a : Option Addr} {n cap : Nat} (hr : Q.Row w a n) (hn : n ≤ 1048576) :
    Calls Tryz.prog 5 #[.slice a n cap] w fun e w' => Dpc w e w' := by
  have hnw := Q.new_any (cap := cap) hr (by omega)
  clear hr
  go_enter Tryz.func5, Tryz.ntmps5
  go_wp2_with (first
    | (go_at_call 13; refine hnw.mono ?_; rintro e w1 ⟨rfl, hc⟩; have HC1 : Hid (Q.Cur w w1 w.heap.size a n cap) := hc; clear hc)
    | (go_at_call 14; refine (list_x (cux_of HC1.out) hn).mono ?_; rintro e w2 ⟨u, m, X, Y, rfl, hm, ho, hbd, hc⟩; have HF : Hid (w2.ownsRow w1.heap.size 39 2 u m (cl2 X Y m)) := ho; have HBD : Hid (∀ k, k < m → Bd (X k) ∧ Bd (Y k)) := hbd; have HC2 : Hid (Cux w1 w2 w.heap.size a n cap) := hc; have HL2 : Hid (w.heap.size < w2.heap.size) := hc.lt; clear ho hbd hc)
    | (go_at_call 15; (fail_if_success have := M3); refine (pick_x (cux_call (cux_re HC2.out) (below_one w2 (.cells #[.int .i64 1, .int .i64 2, .int .i64 4, .int .i64 8, .int .i64 3, .int .i64 0, .int .i64 256, .int .i64 16] 3))) w2.heap.size (lit8 _ _ _ _ _ _ _ _ _ _) (by have := HL2.out; omega) (by simp)).mono ?_; rintro e w3 ⟨z3, rfl, hc⟩; have M3 : Hid True := trivial; have HC3 : Hid (Cux w2 w3 w.heap.size a n cap) := hc; clear hc)
    | (go_at_call 15; have Z := M3; refine (pick_x (cux_call HC3.out (below_one w3 (.cells #[.int .i64 1, .int .i64 2, .int .i64 3, .int .i64 5, .int .i64 8, .int .i64 0, .int .i64 129, .int .i64 4] 3))) w3.heap.size (lit8 _ _ _ _ _ _ _ _ _ _) (by have := HC3.out.lt; omega) (by simp)).mono ?_; rintro e w4 ⟨z4, rfl, hc⟩; have HC4 : Hid (Cux w2 w4 w.heap.size a n cap) := hc; clear hc))
  refine bodyPost_ret (v := .tuple #[u, .int .i64 z3, .int .i64 z4]) (by simp [results, Tryz.results5, go_sem]) rfl ?_
  refine ⟨u, m, X, Y, z3, z4, rfl, hm, fp_of_own (own_at HF.out (fun g hg => ?_)), HBD.out, (cux_back HC1.out (cux_tr HC2.out HC4.out)).below⟩
  have h1 := World.ownsRow.lt HF.out g hg
  have h2 := HC1.out.lt
  exact HC4.out.keep.block g (by omega) h1.2
end Go.Proofs.YtddbekacdfohpaaGreatDoor

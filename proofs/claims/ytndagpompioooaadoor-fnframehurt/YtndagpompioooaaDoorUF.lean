/- UnRice: the program. -/
import Derived.Test.YtndagpompioooaaDoorUE
import Derived.Test.YtndagpompioooaaDoorRA
import Derived.Defers
import Derived.BigQuiet
namespace Go.Proofs.YtndagpompioooaaDoor
open Go.RowKit

theorem own_slice3 {w : World} {B n : Nat} {v : Value} {L : List Value} (h : w.ownsRow B 3 1 v n L) : ∃ a c, v = .slice a n c := by
  rcases h.2 with ⟨rfl, rfl⟩ | ⟨g, cap, cur, rfl, _⟩
  · exact ⟨none, 0, rfl⟩
  · exact ⟨_, _, rfl⟩

theorem Keep.cellk {c : Nat} {W w : World} (h : Keep c W w) {k off : Nat} {x : Value} (hk : k ≠ c) (hx : W.cell? ⟨k, off, none⟩ = some x) : w.cell? ⟨k, off, none⟩ = some x := (h.cell (p := ⟨k, off, none⟩) hk (World.block_lt_of_cell? W _ hx)).trans hx
theorem Keep.frozenk {c : Nat} {W w : World} (h : Keep c W w) {k off : Nat} (hk : k ≠ c) (hl : k < W.heap.size) : w.frozen? ⟨k, off, none⟩ = W.frozen? ⟨k, off, none⟩ := World.frozen?_of_block (w := W) (h.block k hk hl)

theorem frozen_new (w : World) (x : Value) (t : TypeId) : (w.alloc (.cells #[x] t)).frozen? ⟨w.heap.size, 0, none⟩ = false := by simp

/-- What the closure leaves where the numbers are read. -/
def Ur1 (W w1 : World) (G Bx p10 : Nat) (v : Value) (n a' : Nat) (b : Nat → Int) (R : List Int) : Prop :=
  ∃ u w2, w2.ownsRow W.heap.size 3 1 u R.length (ils (lf R) R.length) ∧ Rdr w2 G Bx v n a' b ∧ Keep G W w2 ∧ w1 = w2.setCell ⟨p10, 0, none⟩ u

set_option maxHeartbeats 2000000 in
theorem ur1_some {w : World} {G Bx n k m a' p3 p5 p9 p10 : Nat} {v old : Value} {b : Nat → Int} {R : List Int} (h : Rdr w G Bx v n 0 b) (hb : ∀ i, i < n → Bit (b i)) (hn : n ≤ 1048576) (hk : k ≤ 30) (hm : m ≤ 128)
    (h9 : w.cell? ⟨p9, 0, none⟩ = some (.pointer (some ⟨G, 0, none⟩))) (h3 : w.cell? ⟨p3, 0, none⟩ = some (.int .i64 (k : Int))) (h5 : w.cell? ⟨p5, 0, none⟩ = some (.int .i64 (m : Int))) (h10 : w.cell? ⟨p10, 0, none⟩ = some old) (hz : w.frozen? ⟨p10, 0, none⟩ = false) (hG : p10 ≠ G) (hr : rdn b n k m = some (R, a')) :
    Calls Tryd.prog 51 #[.pointer (some ⟨p9, 0, none⟩), .pointer (some ⟨p3, 0, none⟩), .pointer (some ⟨p5, 0, none⟩), .pointer (some ⟨p10, 0, none⟩)] w fun e w' => e = .returned (.tuple #[]) ∧ Ur1 w w' G Bx p10 v n a' b R := by
  have HN : Hid (Calls Tryd.prog 52 #[.pointer (some ⟨G, 0, none⟩), .int .i64 (k : Int), .int .i64 (m : Int)] w fun e w' => ∃ u, e = .returned u ∧ w'.ownsRow w.heap.size 3 1 u R.length (ils (lf R) R.length) ∧ Rdr w' G Bx v n a' b ∧ Keep G w w') := by
    refine (numbers_any h hb hn hk hm).mono ?_
    rintro e w' (⟨R2, a2, u, e1, rfl, e3, e4, e5⟩ | ⟨e1, _⟩)
    · rw [hr] at e1
      injection e1 with e1
      injection e1 with f1 f2
      subst f1 f2
      exact ⟨u, rfl, e3, e4, e5⟩
    · rw [hr] at e1; cases e1
  have h10l := World.block_lt_of_cell? w _ h10
  clear h hb hr
  go_enter Tryd.func51, Tryd.ntmps51
  go_wp2_with (first
    | (go_at_call 52; refine HN.out.mono ?_; rintro e w2 ⟨u, rfl, ho, hr, hk2⟩; obtain ⟨ua, uc, hu9⟩ := own_slice3 ho; subst hu9; have c10 := hk2.cellk hG h10; have z10 := (hk2.frozenk (off := 0) hG h10l).trans hz; have HP : Hid (w2.ownsRow w.heap.size 3 1 (.slice ua R.length uc) R.length (ils (lf R) R.length) ∧ Rdr w2 G Bx v n a' b ∧ Keep G w w2) := ⟨ho, hr, hk2⟩; clear ho hr hk2))
  go_end0
  exact ⟨rfl, _, w2, HP.out.1, HP.out.2.1, HP.out.2.2, rfl⟩

set_option maxHeartbeats 2000000 in
theorem ur1_none {w : World} {G Bx n k m p3 p5 p9 p10 : Nat} {v : Value} {b : Nat → Int} (h : Rdr w G Bx v n 0 b) (hb : ∀ i, i < n → Bit (b i)) (hn : n ≤ 1048576) (hk : k ≤ 30) (hm : m ≤ 128)
    (h9 : w.cell? ⟨p9, 0, none⟩ = some (.pointer (some ⟨G, 0, none⟩))) (h3 : w.cell? ⟨p3, 0, none⟩ = some (.int .i64 (k : Int))) (h5 : w.cell? ⟨p5, 0, none⟩ = some (.int .i64 (m : Int))) (hr : rdn b n k m = none) :
    Calls Tryd.prog 51 #[.pointer (some ⟨p9, 0, none⟩), .pointer (some ⟨p3, 0, none⟩), .pointer (some ⟨p5, 0, none⟩), .pointer (some ⟨p10, 0, none⟩)] w fun e w' => e = pan 3 ∧ Keep G w w' := by
  have HN : Hid (Calls Tryd.prog 52 #[.pointer (some ⟨G, 0, none⟩), .int .i64 (k : Int), .int .i64 (m : Int)] w fun e w' => e = pan 3 ∧ Keep G w w') := by
    refine (numbers_any h hb hn hk hm).mono ?_
    rintro e w' (⟨R2, a2, u, e1, _⟩ | ⟨_, rfl, e3⟩)
    · rw [hr] at e1; cases e1
    · exact ⟨rfl, e3⟩
  clear h hb hr
  go_enter Tryd.func51, Tryd.ntmps51
  go_wp2_with (first
    | (go_at_call 52; refine HN.out.mono ?_; rintro e w2 ⟨rfl, hk2⟩; have HP : Hid (Keep G w w2) := hk2; clear hk2))
  exact ⟨rfl, rfl, HP.out⟩

/-- What UnRice tells. -/
def Pur (w w' : World) (e : Ending) (N : Nat) (ys : Nat → Int) (c : Int) (ok : Bool) : Prop := ∃ u, e = .returned (.tuple #[u, .int .i64 c, .bool ok]) ∧ w'.ownsRow w.heap.size 3 1 u N (ils ys N) ∧ Below w.heap.size w w'

set_option maxRecDepth 20000 in
set_option maxHeartbeats 8000000 in
theorem iUnr_some {w : World} {v : Value} {n k m a' : Nat} {b : Nat → Int} {R : List Int} (hg : Eg w) (hv : Il w v n b) (hb : ∀ i, i < n → Bit (b i)) (hn : n ≤ 1048576) (hk : k ≤ 30) (hm : m ≤ 128) (hr : rdn b n k m = some (R, a')) :
    Calls Tryd.prog 15 #[.int .i64 (k : Int), v, .int .i64 (m : Int)] w fun e w' => Pur w w' e R.length (lf R) (a' : Int) true := by
  have hmf : ∀ (fn : Fn) (first cap : Array Value) (w : World), (Instr.makeFunc fn first cap).run Tryd.prog w = .ok (.func fn first cap) w := fun _ _ _ _ => rfl
  obtain ⟨W1, hW1⟩ : ∃ W1, W1 = (w.alloc (.cells #[.int .i64 (k : Int)] 3)).alloc (.cells #[.int .i64 (m : Int)] 3) := ⟨_, rfl⟩
  have B1 : Hid (Below w.heap.size w W1) := by rw [hW1]; exact bstep (below_one _ _) (below_one _ _)
  have s1 : W1.heap.size = w.heap.size + 2 := by rw [hW1]; simp
  have k3 : W1.cell? ⟨w.heap.size, 0, none⟩ = some (.int .i64 (k : Int)) := by rw [hW1]; simp
  have k5 : W1.cell? ⟨w.heap.size + 1, 0, none⟩ = some (.int .i64 (m : Int)) := by rw [hW1]; simp
  have i1 := low_any (k : Int) W1
  rw [decide_eq_true (by omega)] at i1
  have i2 := bits_any (hv.below B1.out) hn
  rw [decide_eq_true hb] at i2
  have HRD : Hid (Calls Tryd.prog 49 #[v] W1 fun e w' => e = .returned (.pointer (some ⟨w.heap.size + 3, 0, none⟩)) ∧ Rdr w' (w.heap.size + 3) (w.heap.size + 2) v n 0 b ∧ Below W1.heap.size W1 w' ∧ w'.heap.size = w.heap.size + 4) := by
    have := reader_any (hv.below B1.out) hn
    rw [s1] at this ⊢
    exact this
  have HG : Hid (Eg w) := hg
  have HB : Hid (∀ i, i < n → Bit (b i)) := hb
  have HRN : Hid (rdn b n k m = some (R, a')) := hr
  obtain ⟨ao, cap, rfl, hcap, hc⟩ := hv
  clear hc hb hr hg
  go_enter Tryd.func15, Tryd.ntmps15
  go_upto_region 1 with fail
  rw [← hW1]
  clear hW1
  go_upto_region 4 with (first | (go_at_call 44; (with_reducible refine (i1).mono ?_); rintro e w' ⟨rfl, hw⟩; obtain rfl := hw.symm) | (go_at_call 48; (with_reducible refine (i2).mono ?_); rintro e w' ⟨rfl, hw⟩; obtain rfl := hw.symm) | (go_at_call 49; refine HRD.out.mono ?_; rintro e W2 ⟨rfl, hr, hb, hs⟩; have HR2 : Hid (Rdr W2 (w.heap.size + 3) (w.heap.size + 2) (.slice ao n cap) n 0 b) := hr; have B2 : Hid (Below W1.heap.size W1 W2) := hb; have s2 : W2.heap.size = w.heap.size + 4 := hs; clear hr hb hs))
  obtain ⟨W3, hW3⟩ : ∃ W3, W3 = ((W2.alloc (.cells #[] 3)).alloc (.cells #[.pointer (some ⟨w.heap.size + 3, 0, none⟩)] 64)).alloc (.cells #[.slice (some ⟨w.heap.size + 4, 0, none⟩) 0 0] 24) := ⟨_, rfl⟩
  have B23 : Below W2.heap.size W2 W3 := by rw [hW3]; exact bstep (bstep (below_one _ _) (below_one _ _)) (below_one _ _)
  have s3 : W3.heap.size = w.heap.size + 7 := by rw [hW3]; simp; omega
  have HR3 : Hid (Rdr W3 (w.heap.size + 3) (w.heap.size + 2) (.slice ao n cap) n 0 b) := HR2.out.below B23
  have q9 : W3.cell? ⟨w.heap.size + 4 + 1, 0, none⟩ = some (.pointer (some ⟨w.heap.size + 3, 0, none⟩)) := by
    rw [hW3, World.cell?_alloc_lt _ _ _ (by simp; omega), World.cell?_alloc_at _ _ _ _ (by simp; omega)]; rfl
  have q10 : W3.cell? ⟨w.heap.size + 4 + 1 + 1, 0, none⟩ = some (.slice (some ⟨w.heap.size + 4, 0, none⟩) 0 0) := by
    rw [hW3, World.cell?_alloc_at _ _ _ _ (by simp; omega)]; rfl
  have f10 : W3.frozen? ⟨w.heap.size + 4 + 1 + 1, 0, none⟩ = false := by
    have e9 : ((W2.alloc (.cells #[] 3)).alloc (.cells #[.pointer (some ⟨w.heap.size + 3, 0, none⟩)] 64)).heap.size = w.heap.size + 4 + 1 + 1 := by simp; omega
    have h9 := frozen_new ((W2.alloc (.cells #[] 3)).alloc (.cells #[.pointer (some ⟨w.heap.size + 3, 0, none⟩)] 64)) (.slice (some ⟨w.heap.size + 4, 0, none⟩) 0 0) 24
    rw [e9] at h9
    rw [hW3]
    exact h9
  have q3 : W3.cell? ⟨w.heap.size, 0, none⟩ = some (.int .i64 (k : Int)) := keepc (bstep B2.out B23) k3
  have q5 : W3.cell? ⟨w.heap.size + 1, 0, none⟩ = some (.int .i64 (m : Int)) := keepc (bstep B2.out B23) k5
  have BW3 : Hid (Below w.heap.size w W3) := bstep (bstep B1.out B2.out) B23
  rw [← hW3]
  clear hW3 B23 B2 B1 HR2 HRD s1 s2 k3 k5
  obtain ⟨G, hG⟩ : ∃ G, G = w.heap.size + 3 := ⟨_, rfl⟩
  obtain ⟨Bx, hBx⟩ : ∃ Bx, Bx = w.heap.size + 2 := ⟨_, rfl⟩
  obtain ⟨p9, hp9⟩ : ∃ p9, p9 = w.heap.size + 4 + 1 := ⟨_, rfl⟩
  obtain ⟨p10, hp10⟩ : ∃ p10, p10 = w.heap.size + 4 + 1 + 1 := ⟨_, rfl⟩
  obtain ⟨p5, hp5⟩ : ∃ p5, p5 = w.heap.size + 1 := ⟨_, rfl⟩
  obtain ⟨p3, hp3⟩ : ∃ p3, p3 = w.heap.size := ⟨_, rfl⟩
  obtain ⟨T, hT⟩ : ∃ T, T = W3.heap.size := ⟨_, rfl⟩
  have HNE : Hid (p3 ≤ p3 ∧ G = p3 + 3 ∧ p9 = p3 + 5 ∧ p10 = p3 + 6 ∧ T = p3 + 7 ∧ p5 = p3 + 1) := by show _ ∧ _; omega
  rw [← hp10] at q10 f10
  rw [← hp9, ← hG] at q9
  rw [← hp5] at q5
  rw [← hp3] at q3
  rw [← hG, ← hBx] at HR3
  rw [← hp10, ← hp9, ← hG, ← hp5, ← hp3]
  have HSZ : Hid (w.heap.size = p3) := hp3.symm
  have HTT : Hid (W3.heap.size = T) := hT.symm
  have bc := below_one W3 (.cells #[.int .i64 0] 3)
  have tc : (W3.alloc (.cells #[.int .i64 0] 3)).cell? ⟨T, 0, none⟩ = some (.int .i64 0) := by rw [hT]; simp
  have tz : (W3.alloc (.cells #[.int .i64 0] 3)).frozen? ⟨T, 0, none⟩ = false := by rw [hT]; simp
  have hne := HNE.out
  have HCL : Hid (Calls Tryd.prog 50 #[.func (.func 51) #[] #[.pointer (some ⟨p9, 0, none⟩), .pointer (some ⟨p3, 0, none⟩), .pointer (some ⟨p5, 0, none⟩), .pointer (some ⟨p10, 0, none⟩)]] W3 fun e w' => e = .returned (.int .i64 0) ∧ ∃ w1, Ur1 (W3.alloc (.cells #[.int .i64 0] 3)) w1 G Bx p10 (.slice ao n cap) n a' b R ∧ w' = w1.setCell ⟨T, 0, none⟩ (.int .i64 0)) := by
    have hc9 := code_ok_ur #[.pointer (some ⟨p9, 0, none⟩), .pointer (some ⟨p3, 0, none⟩), .pointer (some ⟨p5, 0, none⟩), .pointer (some ⟨p10, 0, none⟩)] W3 (fun w1 => Ur1 (W3.alloc (.cells #[.int .i64 0] 3)) w1 G Bx p10 (.slice ao n cap) n a' b R) (ur1_some (HR3.out.below bc) HB.out hn hk hm (keepc bc q9) (keepc bc q3) (keepc bc q5) (keepc bc q10) ((bc.frozen (World.block_lt_of_cell? W3 _ q10)).trans f10) (by omega) HRN.out) (by
      rintro w1 ⟨u, w2, _, _, hk2, rfl⟩
      rw [HTT.out]
      have hon : Only p10 w2 (w2.setCell ⟨p10, 0, none⟩ u) := (Only.refl p10 w2).put 0 u
      have hl : T < (W3.alloc (.cells #[.int .i64 0] 3)).heap.size := World.block_lt_of_cell? _ _ tc
      exact ⟨(World.cell?_of_block (w := w2) (hon.block T (by omega))).trans (hk2.cellk (by omega) tc), (World.frozen?_of_block (w := w2) (hon.block T (by omega))).trans ((hk2.frozenk (off := 0) (by omega) hl).trans tz)⟩)
    rw [HTT.out] at hc9
    exact hc9
  have HKE : Hid (W3.cell? ⟨p9, 0, none⟩ = some (.pointer (some ⟨G, 0, none⟩))) := q9
  have HKQ : Hid (W3.cell? ⟨p10, 0, none⟩ = some (.slice (some ⟨w.heap.size + 4, 0, none⟩) 0 0)) := q10
  have hsc : (W3.alloc (.cells #[.int .i64 0] 3)).heap.size = T + 1 := by rw [hT]; exact Array.size_push _
  have HBC : Hid (Below W3.heap.size W3 (W3.alloc (.cells #[.int .i64 0] 3))) := bc
  clear hne tc tz q3 q5 q10 f10 hT bc hp3 q9 s3 hG hp9 hp10 hp5 hBx
  go_upto_region 6 with (first
    | (go_at_call 50; refine HCL.out.mono ?_; rintro e w4 ⟨rfl, w1, hq, hw4⟩; have HU : Hid (Ur1 (W3.alloc (.cells #[.int .i64 0] 3)) w1 G Bx p10 (.slice ao n cap) n a' b R) := hq; have HW4 : Hid (w4 = w1.setCell ⟨T, 0, none⟩ (.int .i64 0)) := hw4; clear hq hw4))
  obtain ⟨u, w2, ho, hr, hk2, hw1⟩ := HU.out
  have hne := HNE.out
  obtain ⟨ua, uc, rfl⟩ := own_slice3 ho
  have on1 : Only p10 w2 w1 := by rw [hw1]; exact (Only.refl p10 w2).put 0 _
  have on2 : Only T w1 w4 := by rw [HW4.out]; exact (Only.refl T w1).put 0 _
  have both : ∀ (x off : Nat), x ≠ p10 → x ≠ T → w4.cell? ⟨x, off, none⟩ = w2.cell? ⟨x, off, none⟩ := fun x off h1 h2 => (World.cell?_of_block (w := w1) (on2.block x h2)).trans (World.cell?_of_block (w := w2) (on1.block x h1))
  have d9 : w4.cell? ⟨p9, 0, none⟩ = some (.pointer (some ⟨G, 0, none⟩)) := (both p9 0 (by omega) (by omega)).trans (hk2.cellk (by omega) (keepc HBC.out HKE.out))
  have dG : w4.cell? ⟨G, 2, none⟩ = some (.int .i64 (a' : Int)) := (both G 2 (by omega) (by omega)).trans hr.c2
  have d10 : w4.cell? ⟨p10, 0, none⟩ = some (.slice ua R.length uc) := by
    rw [World.cell?_of_block (w := w1) (on2.block p10 (by omega)), hw1]
    exact World.cell?_setCell_same' _ _ _ (by rw [hk2.cellk (by omega) (keepc HBC.out HKQ.out)]; rfl)
  have O4 : Hid (w4.ownsRow w.heap.size 3 1 (.slice ua R.length uc) R.length (ils (lf R) R.length)) := own_base (own_only (own_only ho on1 (by omega)) on2 (by omega)) (by have := HSZ.out; omega)
  have B4 : Hid (Below w.heap.size w w4) := Below.only (Below.only (Below.keep (bstep BW3.out HBC.out) hk2 (by have := HSZ.out; omega)) on1 (by have := HSZ.out; omega)) on2 (by have := HSZ.out; omega)
  clear ho hr hk2 hw1 on1 on2 both HU HW4 HCL hne
  go_wp2_with (first | (go_quiet (fail)))
  go_ret3
  exact ⟨_, rfl, own_below O4.out (below_drewN (Below.refl _ _) _), below_drewN B4.out _⟩

set_option maxRecDepth 20000 in
set_option maxHeartbeats 8000000 in
theorem iUnr_none {w : World} {v : Value} {n k m : Nat} {b : Nat → Int} (hg : Eg w) (hv : Il w v n b) (hb : ∀ i, i < n → Bit (b i)) (hn : n ≤ 1048576) (hk : k ≤ 30) (hm : m ≤ 128) (hr : rdn b n k m = none) (ys : Nat → Int) :
    Calls Tryd.prog 15 #[.int .i64 (k : Int), v, .int .i64 (m : Int)] w fun e w' => Pur w w' e 0 ys 0 false := by
  have hmf : ∀ (fn : Fn) (first cap : Array Value) (w : World), (Instr.makeFunc fn first cap).run Tryd.prog w = .ok (.func fn first cap) w := fun _ _ _ _ => rfl
  obtain ⟨W1, hW1⟩ : ∃ W1, W1 = (w.alloc (.cells #[.int .i64 (k : Int)] 3)).alloc (.cells #[.int .i64 (m : Int)] 3) := ⟨_, rfl⟩
  have B1 : Hid (Below w.heap.size w W1) := by rw [hW1]; exact bstep (below_one _ _) (below_one _ _)
  have s1 : W1.heap.size = w.heap.size + 2 := by rw [hW1]; simp
  have k3 : W1.cell? ⟨w.heap.size, 0, none⟩ = some (.int .i64 (k : Int)) := by rw [hW1]; simp
  have k5 : W1.cell? ⟨w.heap.size + 1, 0, none⟩ = some (.int .i64 (m : Int)) := by rw [hW1]; simp
  have i1 := low_any (k : Int) W1
  rw [decide_eq_true (by omega)] at i1
  have i2 := bits_any (hv.below B1.out) hn
  rw [decide_eq_true hb] at i2
  have HRD : Hid (Calls Tryd.prog 49 #[v] W1 fun e w' => e = .returned (.pointer (some ⟨w.heap.size + 3, 0, none⟩)) ∧ Rdr w' (w.heap.size + 3) (w.heap.size + 2) v n 0 b ∧ Below W1.heap.size W1 w' ∧ w'.heap.size = w.heap.size + 4) := by
    have := reader_any (hv.below B1.out) hn
    rw [s1] at this ⊢
    exact this
  have HG : Hid (Eg w) := hg
  have HB : Hid (∀ i, i < n → Bit (b i)) := hb
  have HRN : Hid (rdn b n k m = none) := hr
  obtain ⟨ao, cap, rfl, hcap, hc⟩ := hv
  clear hc hb hr hg
  go_enter Tryd.func15, Tryd.ntmps15
  go_upto_region 1 with fail
  rw [← hW1]
  clear hW1
  go_upto_region 4 with (first | (go_at_call 44; (with_reducible refine (i1).mono ?_); rintro e w' ⟨rfl, hw⟩; obtain rfl := hw.symm) | (go_at_call 48; (with_reducible refine (i2).mono ?_); rintro e w' ⟨rfl, hw⟩; obtain rfl := hw.symm) | (go_at_call 49; refine HRD.out.mono ?_; rintro e W2 ⟨rfl, hr, hb, hs⟩; have HR2 : Hid (Rdr W2 (w.heap.size + 3) (w.heap.size + 2) (.slice ao n cap) n 0 b) := hr; have B2 : Hid (Below W1.heap.size W1 W2) := hb; have s2 : W2.heap.size = w.heap.size + 4 := hs; clear hr hb hs))
  obtain ⟨W3, hW3⟩ : ∃ W3, W3 = ((W2.alloc (.cells #[] 3)).alloc (.cells #[.pointer (some ⟨w.heap.size + 3, 0, none⟩)] 64)).alloc (.cells #[.slice (some ⟨w.heap.size + 4, 0, none⟩) 0 0] 24) := ⟨_, rfl⟩
  have B23 : Below W2.heap.size W2 W3 := by rw [hW3]; exact bstep (bstep (below_one _ _) (below_one _ _)) (below_one _ _)
  have s3 : W3.heap.size = w.heap.size + 7 := by rw [hW3]; simp; omega
  have HR3 : Hid (Rdr W3 (w.heap.size + 3) (w.heap.size + 2) (.slice ao n cap) n 0 b) := HR2.out.below B23
  have q9 : W3.cell? ⟨w.heap.size + 4 + 1, 0, none⟩ = some (.pointer (some ⟨w.heap.size + 3, 0, none⟩)) := by
    rw [hW3, World.cell?_alloc_lt _ _ _ (by simp; omega), World.cell?_alloc_at _ _ _ _ (by simp; omega)]; rfl
  have q10 : W3.cell? ⟨w.heap.size + 4 + 1 + 1, 0, none⟩ = some (.slice (some ⟨w.heap.size + 4, 0, none⟩) 0 0) := by
    rw [hW3, World.cell?_alloc_at _ _ _ _ (by simp; omega)]; rfl
  have f10 : W3.frozen? ⟨w.heap.size + 4 + 1 + 1, 0, none⟩ = false := by
    have e9 : ((W2.alloc (.cells #[] 3)).alloc (.cells #[.pointer (some ⟨w.heap.size + 3, 0, none⟩)] 64)).heap.size = w.heap.size + 4 + 1 + 1 := by simp; omega
    have h9 := frozen_new ((W2.alloc (.cells #[] 3)).alloc (.cells #[.pointer (some ⟨w.heap.size + 3, 0, none⟩)] 64)) (.slice (some ⟨w.heap.size + 4, 0, none⟩) 0 0) 24
    rw [e9] at h9
    rw [hW3]
    exact h9
  have q3 : W3.cell? ⟨w.heap.size, 0, none⟩ = some (.int .i64 (k : Int)) := keepc (bstep B2.out B23) k3
  have q5 : W3.cell? ⟨w.heap.size + 1, 0, none⟩ = some (.int .i64 (m : Int)) := keepc (bstep B2.out B23) k5
  have BW3 : Hid (Below w.heap.size w W3) := bstep (bstep B1.out B2.out) B23
  rw [← hW3]
  clear hW3 B23 B2 B1 HR2 HRD s1 s2 k3 k5
  obtain ⟨G, hG⟩ : ∃ G, G = w.heap.size + 3 := ⟨_, rfl⟩
  obtain ⟨Bx, hBx⟩ : ∃ Bx, Bx = w.heap.size + 2 := ⟨_, rfl⟩
  obtain ⟨p9, hp9⟩ : ∃ p9, p9 = w.heap.size + 4 + 1 := ⟨_, rfl⟩
  obtain ⟨p10, hp10⟩ : ∃ p10, p10 = w.heap.size + 4 + 1 + 1 := ⟨_, rfl⟩
  obtain ⟨p5, hp5⟩ : ∃ p5, p5 = w.heap.size + 1 := ⟨_, rfl⟩
  obtain ⟨p3, hp3⟩ : ∃ p3, p3 = w.heap.size := ⟨_, rfl⟩
  obtain ⟨T, hT⟩ : ∃ T, T = W3.heap.size := ⟨_, rfl⟩
  have HNE : Hid (p3 ≤ p3 ∧ G = p3 + 3 ∧ p9 = p3 + 5 ∧ p10 = p3 + 6 ∧ T = p3 + 7 ∧ p5 = p3 + 1) := by show _ ∧ _; omega
  rw [← hp10] at q10 f10
  rw [← hp9, ← hG] at q9
  rw [← hp5] at q5
  rw [← hp3] at q3
  rw [← hG, ← hBx] at HR3
  rw [← hp10, ← hp9, ← hG, ← hp5, ← hp3]
  have HSZ : Hid (w.heap.size = p3) := hp3.symm
  have HTT : Hid (W3.heap.size = T) := hT.symm
  have bc := below_one W3 (.cells #[.int .i64 0] 3)
  have tc : (W3.alloc (.cells #[.int .i64 0] 3)).cell? ⟨T, 0, none⟩ = some (.int .i64 0) := by rw [hT]; simp
  have tz : (W3.alloc (.cells #[.int .i64 0] 3)).frozen? ⟨T, 0, none⟩ = false := by rw [hT]; simp
  have hne := HNE.out
  have HEG : Hid (Eg (W3.alloc (.cells #[.int .i64 0] 3))) := keepc bc (keepc BW3.out HG.out)
  have HCL : Hid (Calls Tryd.prog 50 #[.func (.func 51) #[] #[.pointer (some ⟨p9, 0, none⟩), .pointer (some ⟨p3, 0, none⟩), .pointer (some ⟨p5, 0, none⟩), .pointer (some ⟨p10, 0, none⟩)]] W3 fun e w' => e = .returned (.int .i64 3) ∧ ∃ w1 w2, Keep G (W3.alloc (.cells #[.int .i64 0] 3)) w1 ∧ Below w1.heap.size w1 w2 ∧ w' = w2.setCell ⟨T, 0, none⟩ (.int .i64 3)) := by
    have hc9 := code_bad_ur #[.pointer (some ⟨p9, 0, none⟩), .pointer (some ⟨p3, 0, none⟩), .pointer (some ⟨p5, 0, none⟩), .pointer (some ⟨p10, 0, none⟩)] W3 3 (fun w1 => Keep G (W3.alloc (.cells #[.int .i64 0] 3)) w1) (ur1_none (HR3.out.below bc) HB.out hn hk hm (keepc bc q9) (keepc bc q3) (keepc bc q5) HRN.out) (by
      intro w1 hk2
      rw [HTT.out]
      have hl : T < (W3.alloc (.cells #[.int .i64 0] 3)).heap.size := World.block_lt_of_cell? _ _ tc
      have h0 : 0 ≠ G := by omega
      exact ⟨hk2.cellk h0 HEG.out, hk2.cellk (by omega) tc, (hk2.frozenk (off := 0) (by omega) hl).trans tz⟩)
    rw [HTT.out] at hc9
    exact hc9
  have hsc : (W3.alloc (.cells #[.int .i64 0] 3)).heap.size = T + 1 := by rw [hT]; exact Array.size_push _
  have HBC : Hid (Below W3.heap.size W3 (W3.alloc (.cells #[.int .i64 0] 3))) := bc
  clear hne tc tz q3 q5 q10 f10 hT bc hp3 q9 s3 hG hp9 hp10 hp5 hBx
  go_wp2_with (first
    | (go_at_call 50; refine HCL.out.mono ?_; rintro e w4 ⟨rfl, w1, w2, hq, hb, hw4⟩; have B4 : Hid (Below w.heap.size w w4) := (by have hne := HNE.out; have hz := HSZ.out; have h1 := Below.keep (bstep BW3.out HBC.out) hq (by omega); have h2 := bstep h1 hb; rw [hw4]; exact Below.setCell h2 (p := ⟨T, 0, none⟩) (by show _ ≤ T; omega) _); clear hq hb hw4))
  go_ret3
  exact ⟨_, rfl, own_base (own_empty w4 3 1) B4.out.size, bstep B4.out (below_one _ _)⟩

theorem iUnr_bad {w : World} {v : Value} {n : Nat} {b : Nat → Int} {k m : Int} (hv : Il w v n b) (hn : n ≤ 1048576) (h : ¬ ((0 ≤ k ∧ k ≤ 30) ∧ (0 ≤ m ∧ m ≤ 128) ∧ ∀ i, i < n → Bit (b i))) (ys : Nat → Int) :
    Calls Tryd.prog 15 #[.int .i64 k, v, .int .i64 m] w fun e w' => Pur w w' e 0 ys 0 false := by
  obtain ⟨W1, hW1⟩ : ∃ W1, W1 = (w.alloc (.cells #[.int .i64 k] 3)).alloc (.cells #[.int .i64 m] 3) := ⟨_, rfl⟩
  have B1 : Hid (Below w.heap.size w W1) := by rw [hW1]; exact bstep (below_one _ _) (below_one _ _)
  have k3 : W1.cell? ⟨w.heap.size, 0, none⟩ = some (.int .i64 k) := by rw [hW1]; simp
  have k5 : W1.cell? ⟨w.heap.size + 1, 0, none⟩ = some (.int .i64 m) := by rw [hW1]; simp
  have i1 := low_any k W1
  have i2 := bits_any (hv.below B1.out) hn
  obtain ⟨ao, cap, rfl, hcap, hc⟩ := hv
  clear hc
  by_cases c1 : 0 ≤ k ∧ k ≤ 30
  · rw [decide_eq_true c1] at i1
    by_cases c2 : 0 ≤ m
    · by_cases c3 : m ≤ 128
      · rw [decide_eq_false (fun c4 => h ⟨c1, ⟨c2, c3⟩, c4⟩)] at i2
        clear h
        go_enter Tryd.func15, Tryd.ntmps15
        go_upto_region 1 with fail
        rw [← hW1]
        clear hW1
        go_wp2_with (first | (go_at_call 44; (with_reducible refine (i1).mono ?_); rintro e w' ⟨rfl, hw⟩; obtain rfl := hw.symm) | (go_at_call 48; (with_reducible refine (i2).mono ?_); rintro e w' ⟨rfl, hw⟩; obtain rfl := hw.symm))
        go_ret3
        exact ⟨_, rfl, own_base (own_empty W1 3 1) B1.out.size, bstep B1.out (below_one _ _)⟩
      · clear h i2
        go_enter Tryd.func15, Tryd.ntmps15
        go_upto_region 1 with fail
        rw [← hW1]
        clear hW1
        go_wp2_with (first | (go_at_call 44; (with_reducible refine (i1).mono ?_); rintro e w' ⟨rfl, hw⟩; obtain rfl := hw.symm))
        go_ret3
        exact ⟨_, rfl, own_base (own_empty W1 3 1) B1.out.size, bstep B1.out (below_one _ _)⟩
    · clear h i2
      go_enter Tryd.func15, Tryd.ntmps15
      go_upto_region 1 with fail
      rw [← hW1]
      clear hW1
      go_wp2_with (first | (go_at_call 44; (with_reducible refine (i1).mono ?_); rintro e w' ⟨rfl, hw⟩; obtain rfl := hw.symm))
      go_ret3
      exact ⟨_, rfl, own_base (own_empty W1 3 1) B1.out.size, bstep B1.out (below_one _ _)⟩
  · rw [decide_eq_false c1] at i1
    clear h i2
    go_enter Tryd.func15, Tryd.ntmps15
    go_upto_region 1 with fail
    rw [← hW1]
    clear hW1
    go_wp2_with (first | (go_at_call 44; (with_reducible refine (i1).mono ?_); rintro e w' ⟨rfl, hw⟩; obtain rfl := hw.symm))
    go_ret3
    exact ⟨_, rfl, own_base (own_empty W1 3 1) B1.out.size, bstep B1.out (below_one _ _)⟩
end Go.Proofs.YtndagpompioooaaDoor

/- RootsTo: the program's. -/
import Derived.Test.YtbogkkkfbimacaaT1
namespace Go.Proofs.Ytbogkkkfbimacaa
open Go.RowKit

/-- The polynomial of the first roots. -/
def croot (xs ys : Nat → Nat) : Nat → Nat → Option Nat × Option Nat
  | 0, _ => (some 4607182418800017408, some 0)
  | i + 1, j => if j = i + 1 then (some 4607182418800017408, some 0) else cnext (cn (xs i)) (cn (ys i)) (croot xs ys i) j

theorem cnext_congr {a b : Option Nat} {P Q : Nat → Option Nat × Option Nat} {n k : Nat} (h : ∀ j, j < n → P j = Q j) (hk : k < n) : cnext a b P k = cnext a b Q k := by
  unfold cnext
  rw [h k hk]
  by_cases h0 : k = 0
  · simp [h0]
  · simp only [if_neg h0]
    rw [h (k - 1) (by omega)]


set_option maxHeartbeats 1000000 in
theorem step26 {w : World} {g b off n cap k x y : Nat} {v : Value} {X Y : Nat → Nat} {m : Nat} (hk : k < n) (hg : w.cell? ⟨g, 0, none⟩ = some (.slice (some ⟨b, off, none⟩) n cap)) (hx : w.cell? ⟨b, off + k * 2, none⟩ = some (.float .f64 x)) (hy : w.cell? ⟨b, off + k * 2 + 1, none⟩ = some (.float .f64 y)) (hv : Fz w v m X Y) (hm : m ≤ 128) :
    Calls Try.prog 30 #[v, .int .i64 k, .pointer (some ⟨g, 0, none⟩)] w fun e w' => ∃ v' X' Y', e = .returned v' ∧ Fz w' v' (m + 1) X' Y' ∧ (∀ j, j < m → cn (X' j) = (cnext (cn x) (cn y) (fun i => (cn (X i), cn (Y i))) j).1 ∧ cn (Y' j) = (cnext (cn x) (cn y) (fun i => (cn (X i), cn (Y i))) j).2) ∧ X' m = 4607182418800017408 ∧ Y' m = 0 ∧ Below w.heap.size w w' := by
  have FV : Hid (Fz w v m X Y) := hv
  obtain ⟨ao, cap2, rfl, hcap2, hc⟩ := hv
  clear hc
  have ht := fun W => toC_any x y W
  go_enter Try.func30, Try.ntmps30
  go_wp2_with (first
    | (go_at_call 26; refine (ht _).mono ?_; rintro e w1 ⟨rfl, hb1⟩)
    | (go_at_call 31; refine (withRoot_any x y (FV.out.below hb1) hm).mono ?_; rintro e w2 ⟨v', X', Y', rfl, hz, hx', hx1, hy1, hb2⟩; have HZ : Hid (Fz _ _ _ _ _) := hz; have HX : Hid _ := hx'; clear hz hx'))
  go_ret
  exact ⟨_, _, _, rfl, HZ.out, HX.out, hx1, hy1, bstep hb1 hb2⟩

set_option maxHeartbeats 1000000 in
theorem over25 {w : World} {n : Nat} (hn : n ≤ 127) (c0 : Value) (v0 : Value) (F : Nat → Nat → Option Nat × Option Nat) (h0 : ∃ X Y, Fz w v0 1 X Y ∧ cn (X 0) = (F 0 0).1 ∧ cn (Y 0) = (F 0 0).2)
    (hst : ∀ k, k < n → ∀ v X Y W, Below w.heap.size w W → Fz W v (k + 1) X Y → (∀ j, j < k + 1 → cn (X j) = (F k j).1 ∧ cn (Y j) = (F k j).2) → Calls Try.prog 30 #[v, .int .i64 k, c0] W fun e w' => ∃ v' X' Y', e = .returned v' ∧ Fz w' v' (k + 2) X' Y' ∧ (∀ j, j < k + 2 → cn (X' j) = (F (k + 1) j).1 ∧ cn (Y' j) = (F (k + 1) j).2) ∧ Below W.heap.size W w') :
    Calls Try.prog 29 #[.int .i64 n, v0, .func (.func 30) #[] #[c0]] w fun e w' => ∃ v' X' Y', e = .returned v' ∧ Fz w' v' (n + 1) X' Y' ∧ (∀ j, j < n + 1 → cn (X' j) = (F n j).1 ∧ cn (Y' j) = (F n j).2) ∧ Below w.heap.size w w' := by
  have HST : Hid _ := hst
  have H0 : Hid _ := h0
  clear hst h0
  go_enter Try.func29, Try.ntmps29
  go_wp2
  go_loopw [1, 7, 9] (fun s _ i wr => ∃ k : Nat, i = .int .i64 k ∧ k ≤ n ∧ Hid ((∃ X Y, Fz wr s (k + 1) X Y ∧ ∀ j, j < k + 1 → cn (X j) = (F k j).1 ∧ cn (Y j) = (F k j).2) ∧ Below w.heap.size w wr)) (fun _ _ i _ => n - (intOf i).toNat)
  case atStart =>
    obtain ⟨X, Y, hz, h1, h2⟩ := H0.out
    refine ⟨0, rfl, by omega, ⟨X, Y, hz, fun j hj => ?_⟩, Below.refl _ _⟩
    obtain rfl : j = 0 := by omega
    exact ⟨h1, h2⟩
  case round =>
    obtain ⟨k, rfl, hk, hrel⟩ := hrel
    by_cases h1 : k < n
    · obtain ⟨X, Y, hz, hx⟩ := hrel.out.1
      have hc := HST.out k h1 _ X Y wr hrel.out.2 hz hx
      clear hz hx
      go_wp2_with (go_at_call 30; refine hc.mono ?_; rintro e w1 ⟨v', X', Y', rfl, hz, hx, hb1⟩; have HZ : Hid _ := And.intro hz hx; clear hz hx)
      go_roundw
      case rel => exact ⟨k + 1, by go_num, by omega, ⟨X', Y', HZ.out.1, HZ.out.2⟩, bstep hrel.out.2 hb1⟩
      case measure => simp [intOf]; omega
    · obtain rfl : k = n := by omega
      obtain ⟨X, Y, hz, hx⟩ := hrel.out.1
      have HZ : Hid _ := And.intro hz hx
      clear hz hx
      go_wp2
      go_ret
      exact ⟨_, X, Y, rfl, HZ.out.1, HZ.out.2, hrel.out.2⟩

/-- The first k pairs, as cells. -/
def cl2 (X Y : Nat → Nat) : Nat → List Value
  | 0 => []
  | k + 1 => cl2 X Y k ++ [.float .f64 (X k), .float .f64 (Y k)]

theorem cl2_length (X Y : Nat → Nat) (k : Nat) : (cl2 X Y k).length = k * 2 := by
  induction k with
  | zero => rfl
  | succ k ih => simp [cl2, ih]; omega

theorem cl2_congr {X Y X' Y' : Nat → Nat} : ∀ {k : Nat}, (∀ i, i < k → X i = X' i ∧ Y i = Y' i) → cl2 X Y k = cl2 X' Y' k
  | 0, _ => rfl
  | k + 1, h => by
    unfold cl2
    rw [cl2_congr (k := k) (fun i hi => h i (by omega)), (h k (by omega)).1, (h k (by omega)).2]

theorem cl2_snoc (X Y : Nat → Nat) (k x y : Nat) : cl2 X Y k ++ [.float .f64 x, .float .f64 y] = cl2 (fun i => if i = k then x else X i) (fun i => if i = k then y else Y i) (k + 1) := by
  conv => rhs; unfold cl2
  rw [cl2_congr (X := X) (Y := Y) (X' := fun i => if i = k then x else X i) (Y' := fun i => if i = k then y else Y i) (fun i hi => ?_)]
  · simp
  · have : ¬ i = k := by omega
    simp [this]

theorem cl2_get (X Y : Nat → Nat) : ∀ {n k : Nat}, k < n → (cl2 X Y n)[k * 2]? = some (.float .f64 (X k)) ∧ (cl2 X Y n)[k * 2 + 1]? = some (.float .f64 (Y k))
  | 0, k, h => by omega
  | n + 1, k, h => by
    unfold cl2
    by_cases hk : k < n
    · obtain ⟨h1, h2⟩ := cl2_get X Y (n := n) hk
      rw [List.getElem?_append_left (by rw [cl2_length]; omega), List.getElem?_append_left (by rw [cl2_length]; omega)]
      exact ⟨h1, h2⟩
    · obtain rfl : k = n := by omega
      rw [List.getElem?_append_right (by rw [cl2_length]; omega), List.getElem?_append_right (by rw [cl2_length]; omega), cl2_length]
      simp

theorem fp_of_own {w : World} {B n : Nat} {v : Value} {X Y : Nat → Nat} (h : w.ownsRow B 26 2 v n (cl2 X Y n)) : Fp w v n X Y := by
  rcases h.2 with ⟨rfl, rfl⟩ | ⟨g, cap, cur, rfl, hb, hg, hc, _⟩
  · exact ⟨none, 0, rfl, Nat.le_refl _, fun h => absurd h (by omega)⟩
  · refine ⟨_, _, rfl, hc, fun h0 => ⟨g, 0, rfl, (Array.getElem?_eq_some_iff.1 hg).1, fun k hk => ?_⟩⟩
    rw [Nat.zero_add, World.ownsRow.cellAt h (k * 2) (by omega), World.ownsRow.cellAt h (k * 2 + 1) (by omega)]
    exact cl2_get X Y hk

theorem two_new (w : World) (v u : Value) (t : TypeId) : ∀ j z, [v, u][j]? = some z → (w.alloc (.cells #[v, u] t)).cell? ((⟨w.heap.size, 0, none⟩ : Addr).add j) = some z := by
  intro j z h
  match j, h with
  | 0, h => simp at h; subst h; simp [Addr.add]
  | 1, h => simp at h; subst h; simp [Addr.add]
  | n + 2, h => simp at h

theorem fz_one (w : World) (x y : Nat) : Fz (w.alloc (.cells #[.complex .f64 x y] 40)) (.slice (some ⟨w.heap.size, 0, none⟩) 1 1) 1 (fun _ => x) (fun _ => y) :=
  ⟨_, 1, rfl, Nat.le_refl _, fun _ => ⟨w.heap.size, 0, rfl, by simp, fun k hk => (by
    obtain rfl : k = 0 := by omega
    simp)⟩⟩

theorem own_base {w : World} {B B' s n : Nat} {e : TypeId} {v : Value} {xs : List Value} (h : w.ownsRow B e s v n xs) (hB : B' ≤ B) : w.ownsRow B' e s v n xs := by
  refine ⟨h.1, ?_⟩
  rcases h.2 with h' | ⟨g', cap', cur, h', hb', rest⟩
  · exact .inl h'
  · exact .inr ⟨g', cap', cur, h', Nat.le_trans hB hb', rest⟩

set_option maxHeartbeats 4000000 in
theorem iRoots_any {w : World} {v : Value} {n : Nat} {xs ys : Nat → Nat} (hv : Fp w v n xs ys) (hn : n ≤ 127) :
    Calls Try.prog 20 #[v] w fun e w' => ∃ v' X Y, e = .returned v' ∧ w'.ownsRow w.heap.size 26 2 v' (n + 1) (cl2 X Y (n + 1)) ∧ (∀ j, j < n + 1 → cn (X j) = (croot xs ys n j).1 ∧ cn (Y j) = (croot xs ys n j).2) ∧ Below w.heap.size w w' := by
  obtain ⟨i0, hi, hz0, hz1, hz2⟩ := info_parts Try.info26
  obtain ⟨ao, cap, rfl, hcap, hc⟩ := hv
  have HC : Hid _ := hc
  clear hc
  have hmf : ∀ (fn : Fn) (first cap : Array Value) (w : World), (Instr.makeFunc fn first cap).run Try.prog w = .ok (.func fn first cap) w := fun _ _ _ _ => rfl
  have hB1 : Below w.heap.size w ((w.alloc (.cells #[.slice ao n cap] 36)).alloc (.cells #[.complex .f64 4607182418800017408 0] 40)) := by
    repeat first | exact Below.refl _ _ | refine Below.alloc ?_ (by simp; try omega) _
  have hg : ((w.alloc (.cells #[.slice ao n cap] 36)).alloc (.cells #[.complex .f64 4607182418800017408 0] 40)).cell? ⟨w.heap.size, 0, none⟩ = some (.slice ao n cap) := keepc (below_one _ _) (cell_new w _ _ rfl)
  have ho := over25 (w := ((w.alloc (.cells #[.slice ao n cap] 36)).alloc (.cells #[.complex .f64 4607182418800017408 0] 40))) hn (.pointer (some ⟨w.heap.size, 0, none⟩)) (.slice (some ⟨w.heap.size + 1, 0, none⟩) 1 1) (croot xs ys) ⟨fun _ => 4607182418800017408, fun _ => 0, by simpa using fz_one (w.alloc (.cells #[.slice ao n cap] 36)) 4607182418800017408 0, cn_one, cn_zero⟩ (fun k hk v X Y W hb hz hx => by
    obtain ⟨b, off, rfl, hlt, hcell⟩ := HC.out (by omega)
    have hbw := hB1.trans (hb.mono hB1.size)
    have c0 := (hbw.cell (p := ⟨b, off + k * 2, none⟩) hlt).trans (hcell k hk).1
    have c1 := (hbw.cell (p := ⟨b, off + k * 2 + 1, none⟩) hlt).trans (hcell k hk).2
    refine (step26 hk (keepc hb hg) c0 c1 hz (by omega)).mono ?_
    rintro e w' ⟨v', X', Y', rfl, hz', hx', hx1, hy1, hb'⟩
    refine ⟨v', X', Y', rfl, hz', fun j hj => ?_, hb'⟩
    by_cases hjk : j = k + 1
    · subst hjk
      rw [hx1, hy1]
      simp [croot, cn_one, cn_zero]
    · obtain ⟨h1, h2⟩ := hx' j (by omega)
      have hc := cnext_congr (a := cn (xs k)) (b := cn (ys k)) (P := fun i => (cn (X i), cn (Y i))) (Q := croot xs ys k) (n := k + 1) (k := j) (fun i hi => by rw [(hx i hi).1, (hx i hi).2]) (by omega)
      rw [h1, h2, hc]
      simp [croot, hjk])
  clear hg
  go_enter Try.func20, Try.ntmps20
  go_wp2_with (go_at_call 29; refine ho.mono ?_; rintro e w1 ⟨v1, X, Y, he, hz, hx, hb1⟩; obtain ⟨ao1, cap1, hv1, hcap1, hc1⟩ := hz; subst hv1; subst he; have HC1 : Hid _ := hc1; have HX : Hid _ := hx; have HB1 := bstep hB1 hb1; clear hc1 hx)
  go_loopw [4, 6, 19] (fun ps _ i wr => ∃ k : Nat, i = .int .i64 k ∧ k ≤ n + 1 ∧ Hid (wr.ownsRow w1.heap.size 26 2 ps k (cl2 X Y k) ∧ Below w1.heap.size w1 wr)) (fun _ _ i _ => n + 1 - (intOf i).toNat)
  case atStart => exact ⟨0, rfl, by omega, own_empty w1 26 2, below_one _ _⟩
  case round =>
    obtain ⟨k, rfl, hk, hrel⟩ := hrel
    by_cases h1 : k < n + 1
    · obtain ⟨b, off, rfl, hlt, hcell⟩ := HC1.out (by omega)
      have c : wr.cell? ⟨b, off + k, none⟩ = some (.complex .f64 (X k) (Y k)) := (hrel.out.2.cell (p := ⟨b, off + k, none⟩) hlt).trans (hcell k h1)
      have ht := fun W => toP_any (X k) (Y k) W
      have HO : Hid _ := hrel.out.1
      have HB : Hid _ := hrel.out.2
      clear hcell hrel ho HC
      go_wp2_with (first | (go_at_call 24; refine (ht _).mono ?_; rintro e w2 ⟨rfl, hb2⟩; have hb3 := bstep hb2 (below_one w2 (.cells #[.float .f64 (X k), .float .f64 (Y k)] 26)); have HO3 := own_below HO.out hb3; have HB3 := bstep HB.out hb3) | (at_builtin; refine wpList_append_own _ rfl _ _ 36 rfl w1.heap.size 26 i0 (.agg #[.float .f64 0, .float .f64 0]) 2 16 Try.underlying36 hi hz0 hz1 hz2 rfl (by decide) _ _ _ rfl HO3 ⟨w2.heap.size, 0, none⟩ 1 1 [.float .f64 (X k), .float .f64 (Y k)] rfl rfl (two_new _ _ _ _) (by simp [Value.oneCell']) (by unfold maxLen; omega) (by omega) HB3.size ?_))
      intro v' w4 hown' hgrow _
      have HB4 : Hid _ := grown_below HB3 (Nat.le_refl _) HO3 hgrow
      have HO4 : Hid (w4.ownsRow w1.heap.size 26 2 v' (k + 1) (cl2 X Y (k + 1))) := hown'
      clear hown' hgrow HB3 HO3 hb3 hb2
      go_wp2
      go_roundw
      case rel => exact ⟨k + 1, by go_num, by omega, HO4.out, HB4.out⟩
      case measure => simp [intOf]; omega
    · obtain rfl : k = n + 1 := by omega
      have HO : Hid _ := hrel.out.1
      have HB : Hid _ := hrel.out.2
      clear hrel ho HC HC1
      go_wp2
      go_ret
      exact ⟨_, X, Y, rfl, own_base HO.out HB1.size, HX.out, bstep HB1 HB.out⟩
end Go.Proofs.Ytbogkkkfbimacaa

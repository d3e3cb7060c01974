/- The model's whole numbers: sums, differences, and what is shifted down. -/
import Derived.Test.YtghblaphkbcgpaaDoorHS2
namespace Go.Proofs.YtghblaphkbcgpaaDoor
open Go.RowKit

theorem Tryd.info50 : (Tryd.prog.info? 50).map (fun i => (i.zero, i.size, i.bytes)) = some (some (.int .u32 0), 1, 4) := by kernel_rfl

theorem hol_empty (w : World) : Hol w.heap.size (w.alloc (.cells #[] 50)) (.slice (some ⟨w.heap.size, 0, none⟩) 0 0) 0 0 :=
  ⟨by decide, rfl, Or.inr ⟨w.heap.size, 0, #[], rfl, Nat.le_refl _, heap_alloc_new w _, Nat.le_refl _, by decide, rfl, rfl⟩⟩

theorem app_step {B : Nat} {w wr w1 : World} {v v' : Value} {i S : Nat} {x : Int} {o : Obj} (hH : Hol B wr v i S) (x' : Nat) (hx : x = (x' : Int)) (hx1 : x' < 4294967296) (hbl : Below B w wr) (hB : B ≤ wr.heap.size)
    (hown : w1.ownsRow B 50 1 v' (i + 1) (wds i S ++ [.int .u32 x])) (hgrow : (wr.alloc o).grownBy w1 v.ownBlock) : Hol B w1 v' (i + 1) (S + x' * 4294967296 ^ i) ∧ Below B w w1 := by
  subst hx
  rw [wds_snoc hH.1 hx1] at hown
  exact ⟨⟨snoc_lt hH.1 hx1, hown⟩, (hbl.alloc hB o).grown hgrow (by simp; omega) fun k hk => (hH.2.lt k hk).1⟩

theorem mod_succ (A k : Nat) : A % 4294967296 ^ (k + 1) = A % 4294967296 ^ k + wd A k * 4294967296 ^ k := by
  unfold wd
  rw [Nat.pow_succ, Nat.mod_mul, Nat.mul_comm (4294967296 ^ k)]

theorem wd_past {A n k : Nat} (h : A < 4294967296 ^ n) (hk : n ≤ k) : wd A k = 0 := by
  unfold wd
  rw [Nat.div_eq_of_lt (Nat.lt_of_lt_of_le h (Nat.pow_le_pow_right (by decide) hk))]

theorem mod_past {A n k : Nat} (h : A < 4294967296 ^ n) (hk : n ≤ k) : A % 4294967296 ^ k = A :=
  Nat.mod_eq_of_lt (Nat.lt_of_lt_of_le h (Nat.pow_le_pow_right (by decide) hk))

theorem add_step {A B S C k x : Nat} (h : A % 4294967296 ^ k + B % 4294967296 ^ k = S + C * 4294967296 ^ k) (hx : x = C + wd A k + wd B k) :
    A % 4294967296 ^ (k + 1) + B % 4294967296 ^ (k + 1) = (S + x % 4294967296 * 4294967296 ^ k) + x / 4294967296 * 4294967296 ^ (k + 1) := by
  rw [mod_succ, mod_succ, pow_succ']
  generalize 4294967296 ^ k = P at *
  have e : x % 4294967296 * P + x / 4294967296 * (P * 4294967296) = x * P := by
    rw [show x / 4294967296 * (P * 4294967296) = (4294967296 * (x / 4294967296)) * P by ac_rfl, ← Nat.add_mul, Nat.mod_add_div]
  have e2 : x * P = C * P + wd A k * P + wd B k * P := by rw [hx, Nat.add_mul, Nat.add_mul]
  omega

theorem one_new (w : World) (x : Int) (j : Nat) (u : Value) (hj : [Value.int .u32 x][j]? = some u) : (w.alloc (.cells #[.int .u32 x] 50)).cell? ((⟨w.heap.size, 0, none⟩ : Addr).add j) = some u := by
  match j, hj with
  | 0, hj =>
    simp at hj
    subst hj
    simp [Addr.add]

theorem one_cell (x : Int) (u : Value) (hu : u ∈ [Value.int .u32 x]) : u.oneCell' = true := by
  simp at hu
  subst hu
  rfl

/-- What the loop of l1Add holds on to. -/
def AddRel (A B b : Nat) (w wr : World) (v : Value) (k C : Nat) : Prop := ∃ S, A % 4294967296 ^ k + B % 4294967296 ^ k = S + C * 4294967296 ^ k ∧ Hol b wr v k S ∧ Below b w wr

theorem addRel_next {A B b : Nat} {w wr w1 : World} {v v' : Value} {k C : Nat} {x : Int} {o : Obj} {S : Nat} (he : A % 4294967296 ^ k + B % 4294967296 ^ k = S + C * 4294967296 ^ k) (hH : Hol b wr v k S) (hbl : Below b w wr) (hB : b ≤ wr.heap.size)
    (X : Nat) (hX : X = C + wd A k + wd B k) (hx : x = ((X % 4294967296 : Nat) : Int)) (hown : w1.ownsRow b 50 1 v' (k + 1) (wds k S ++ [.int .u32 x])) (hgrow : (wr.alloc o).grownBy w1 v.ownBlock) :
    AddRel A B b w w1 v' (k + 1) (X / 4294967296) := by
  obtain ⟨h1, h2⟩ := app_step hH (X % 4294967296) hx (Nat.mod_lt _ (by decide)) hbl hB hown hgrow
  exact ⟨_, add_step he hX, h1, h2⟩

theorem cells_of {w wr : World} {ao : Option Addr} {n N b k : Nat} (HC : ∀ k, k < n → ∃ g, ao = some ⟨g, 0, none⟩ ∧ 0 ≤ g ∧ g < w.heap.size ∧ w.cell? ⟨g, k, none⟩ = some (.int .u32 ((wd N k : Nat) : Int))) (hbl : Below b w wr) (hb : w.heap.size ≤ b) (hk : k < n) :
    ∃ g, ao = some ⟨g, 0, none⟩ ∧ wr.cell? ⟨g, k, none⟩ = some (.int .u32 ((wd N k : Nat) : Int)) := by
  obtain ⟨g, e, _, hg, hc⟩ := HC k hk
  exact ⟨g, e, (hbl.cell (show g < b by omega)).trans hc⟩

set_option maxHeartbeats 2000000 in
theorem add_any {w : World} {v u : Value} {m A B : Nat} (ha : Nt w v m A) (hb : Nt w u m B) (hm : m ≤ 900000) :
    Calls Tryd.prog 23 #[v, u] w fun e w' => Below w.heap.size w w' ∧ ∃ v', e = .returned v' ∧ Nt w' v' (m + 1) (A + B) := by
  obtain ⟨i0, hi, hz0, hz1, hz2⟩ := info_parts Tryd.info50
  obtain ⟨n, hn, hh, ht⟩ := ha
  obtain ⟨p, hp, hh2, ht2⟩ := hb
  obtain ⟨ao, cap, rfl, hcap, hcell⟩ := hh.shape
  obtain ⟨bo, cap2, rfl, hcap2, hcell2⟩ := hh2.shape
  have HLA : Hid (A < 4294967296 ^ n) := hh.1
  have HLB : Hid (B < 4294967296 ^ p) := hh2.1
  have HC : Hid (∀ k, k < n → ∃ g, ao = some ⟨g, 0, none⟩ ∧ 0 ≤ g ∧ g < w.heap.size ∧ w.cell? ⟨g, k, none⟩ = some (.int .u32 ((wd A k : Nat) : Int))) := hcell
  have HC2 : Hid (∀ k, k < p → ∃ g, bo = some ⟨g, 0, none⟩ ∧ 0 ≤ g ∧ g < w.heap.size ∧ w.cell? ⟨g, k, none⟩ = some (.int .u32 ((wd B k : Nat) : Int))) := hcell2
  clear hh hh2 hcell hcell2 ht ht2
  go_enter Tryd.func23, Tryd.ntmps23
  go_wp2
  go_loopw [5, 6, 7] (fun v c i wr => ∃ k C : Nat, i = .int .i64 k ∧ c = .int .u64 C ∧ C ≤ 1 ∧ k ≤ m + 1 ∧ Hid (AddRel A B w.heap.size w wr v k C)) (fun _ _ i _ => (m + 2) - (intOf i).toNat)
  case atStart => exact ⟨0, 0, rfl, rfl, by decide, by omega, 0, by rw [Nat.pow_zero, Nat.mod_one, Nat.mod_one], hol_empty w, below_one _⟩
  case round =>
    obtain ⟨k, C, rfl, rfl, hC, hk, hrel⟩ := hrel
    obtain ⟨S, he, hH, hbl⟩ := hrel.out
    have hsz := hbl.size
    have wa := wd_lt A k
    have wb := wd_lt B k
    have hkm : (k < n ∨ k < p ∨ 0 < C) → Hid (k ≤ m) := fun hor => by
      show k ≤ m
      rcases Nat.lt_or_ge m k with h | h
      · exfalso
        have e1 := mod_past HLA.out (show n ≤ k by omega)
        have e2 := mod_past HLB.out (show p ≤ k by omega)
        rw [e1, e2] at he
        have e3 : 4294967296 ^ m * 4294967296 ≤ 4294967296 ^ k := by rw [← pow_succ']; exact Nat.pow_le_pow_right (by decide) (by omega)
        have e4 := Nat.lt_of_lt_of_le HLA.out (Nat.pow_le_pow_right (n := 4294967296) (by decide) hn)
        have e5 := Nat.lt_of_lt_of_le HLB.out (Nat.pow_le_pow_right (n := 4294967296) (by decide) hp)
        obtain rfl : C = 1 := by omega
        omega
      · exact h
    by_cases h1 : k < n <;> by_cases h2 : k < p
    · obtain ⟨g, rfl, hc⟩ := cells_of HC.out hbl (Nat.le_refl _) h1
      obtain ⟨g2, rfl, hc2⟩ := cells_of HC2.out hbl (Nat.le_refl _) h2
      have hkm2 := (hkm (Or.inl h1)).out
      clear hkm
      have HS : Hid (A % 4294967296 ^ k + B % 4294967296 ^ k = S + C * 4294967296 ^ k) := he
      clear he hrel HC HC2
      go_wp2_with (at_builtin; refine wpList_append_own _ rfl _ _ 34 rfl w.heap.size 50 i0 (.int .u32 0) 1 4 Tryd.underlying34 hi hz0 hz1 hz2 rfl (by decide) _ _ _ rfl (hH.2.alloc _) ⟨wr.heap.size, 0, none⟩ 1 1 [.int .u32 (((C : Int) + wd A k + wd B k) % 4294967296)] rfl rfl (one_new _ _) (one_cell _) (by unfold maxLen; omega) (by omega) (by simp; omega) ?_)
      intro v' w1 hown' hgrow _
      have R : Hid (AddRel A B w.heap.size w w1 v' (k + 1) ((C + wd A k + wd B k) / 4294967296)) := addRel_next HS.out hH hbl hsz (C + wd A k + wd B k) rfl (by omega) hown' hgrow
      clear hown' hgrow hH hbl
      go_wp2
      go_roundw
      case rel => exact ⟨k + 1, (C + wd A k + wd B k) / 4294967296, by go_num, by go_num, by omega, by omega, R⟩
      case measure => simp [intOf]; omega
    · obtain ⟨g, rfl, hc⟩ := cells_of HC.out hbl (Nat.le_refl _) h1
      have z2 : Hid (wd B k = 0) := wd_past HLB.out (by omega)
      have hkm2 := (hkm (Or.inl h1)).out
      clear hkm
      have HS : Hid (A % 4294967296 ^ k + B % 4294967296 ^ k = S + C * 4294967296 ^ k) := he
      clear he hrel HC HC2
      go_wp2_with (at_builtin; refine wpList_append_own _ rfl _ _ 34 rfl w.heap.size 50 i0 (.int .u32 0) 1 4 Tryd.underlying34 hi hz0 hz1 hz2 rfl (by decide) _ _ _ rfl (hH.2.alloc _) ⟨wr.heap.size, 0, none⟩ 1 1 [.int .u32 (((C : Int) + wd A k) % 4294967296)] rfl rfl (one_new _ _) (one_cell _) (by unfold maxLen; omega) (by omega) (by simp; omega) ?_)
      intro v' w1 hown' hgrow _
      have R : Hid (AddRel A B w.heap.size w w1 v' (k + 1) ((C + wd A k) / 4294967296)) := addRel_next HS.out hH hbl hsz (C + wd A k) (by rw [z2.out]; rfl) (by omega) hown' hgrow
      clear hown' hgrow hH hbl
      go_wp2
      go_roundw
      case rel => exact ⟨k + 1, (C + wd A k) / 4294967296, by go_num, by go_num, by omega, by omega, R⟩
      case measure => simp [intOf]; omega
    · obtain ⟨g2, rfl, hc2⟩ := cells_of HC2.out hbl (Nat.le_refl _) h2
      have z1 : Hid (wd A k = 0) := wd_past HLA.out (by omega)
      have hkm2 := (hkm (Or.inr (Or.inl h2))).out
      clear hkm
      have HS : Hid (A % 4294967296 ^ k + B % 4294967296 ^ k = S + C * 4294967296 ^ k) := he
      clear he hrel HC HC2
      go_wp2_with (at_builtin; refine wpList_append_own _ rfl _ _ 34 rfl w.heap.size 50 i0 (.int .u32 0) 1 4 Tryd.underlying34 hi hz0 hz1 hz2 rfl (by decide) _ _ _ rfl (hH.2.alloc _) ⟨wr.heap.size, 0, none⟩ 1 1 [.int .u32 (((C : Int) + wd B k) % 4294967296)] rfl rfl (one_new _ _) (one_cell _) (by unfold maxLen; omega) (by omega) (by simp; omega) ?_)
      intro v' w1 hown' hgrow _
      have R : Hid (AddRel A B w.heap.size w w1 v' (k + 1) ((C + wd B k) / 4294967296)) := addRel_next HS.out hH hbl hsz (C + wd B k) (by rw [z1.out]; rfl) (by omega) hown' hgrow
      clear hown' hgrow hH hbl
      go_wp2
      go_roundw
      case rel => exact ⟨k + 1, (C + wd B k) / 4294967296, by go_num, by go_num, by omega, by omega, R⟩
      case measure => simp [intOf]; omega
    · have z1 : Hid (wd A k = 0) := wd_past HLA.out (by omega)
      have z2 : Hid (wd B k = 0) := wd_past HLB.out (by omega)
      by_cases h3 : C = 0
      · subst h3
        have e1 := mod_past HLA.out (show n ≤ k by omega)
        have e2 := mod_past HLB.out (show p ≤ k by omega)
        rw [e1, e2] at he
        have HE : Hid (A + B = S) := by show A + B = S; omega
        have HH : Hid (Hol 0 wr u5 k S) := hH.zero
        clear he hrel HC HC2 hkm e1 e2 z1 z2
        go_wp2_with (go_at_call 26; refine (trim_any HH.out (by omega)).mono ?_; rintro e w' ⟨rfl, v', rfl, hv⟩)
        go_ret
        refine ⟨hbl, _, rfl, ?_⟩
        rw [HE.out]
        obtain ⟨n', hn', r⟩ := hv
        exact ⟨n', by omega, r⟩
      · have hkm2 := (hkm (Or.inr (Or.inr (by omega)))).out
        clear hkm
        obtain rfl : C = 1 := by omega
        have HS : Hid (A % 4294967296 ^ k + B % 4294967296 ^ k = S + 1 * 4294967296 ^ k) := he
        clear he hrel HC HC2
        go_wp2_with (at_builtin; refine wpList_append_own _ rfl _ _ 34 rfl w.heap.size 50 i0 (.int .u32 0) 1 4 Tryd.underlying34 hi hz0 hz1 hz2 rfl (by decide) _ _ _ rfl (hH.2.alloc _) ⟨wr.heap.size, 0, none⟩ 1 1 [.int .u32 1] rfl rfl (one_new _ _) (one_cell _) (by unfold maxLen; omega) (by omega) (by simp; omega) ?_)
        intro v' w1 hown' hgrow _
        have R : Hid (AddRel A B w.heap.size w w1 v' (k + 1) (1 / 4294967296)) := addRel_next HS.out hH hbl hsz 1 (by rw [z1.out, z2.out]) (by decide) hown' hgrow
        clear hown' hgrow hH hbl
        go_wp2
        go_roundw
        case rel => exact ⟨k + 1, 0, by go_num, by go_num, by omega, by omega, R⟩
        case measure => simp [intOf]; omega
end Go.Proofs.YtghblaphkbcgpaaDoor

/- The model's whole numbers: differences, and what is shifted down. -/
namespace Go.Proofs.YtghblaphkbcgpaaDoor
open Go.RowKit

theorem sub_step {A B S C C' k x : Nat} (h : A % 4294967296 ^ k + C * 4294967296 ^ k = S + B % 4294967296 ^ k) (hx : x + C + wd B k = wd A k + C' * 4294967296) :
    A % 4294967296 ^ (k + 1) + C' * 4294967296 ^ (k + 1) = (S + x * 4294967296 ^ k) + B % 4294967296 ^ (k + 1) := by
  rw [mod_succ, mod_succ, pow_succ']
  generalize 4294967296 ^ k = P at *
  have e := congrArg (· * P) hx
  simp only [Nat.add_mul] at e
  have e2 : C' * (P * 4294967296) = C' * 4294967296 * P := by ac_rfl
  omega

/-- What the loop of l1Sub holds on to. -/
def SubRel (A B b : Nat) (w wr : World) (v : Value) (k C : Nat) : Prop := ∃ S, A % 4294967296 ^ k + C * 4294967296 ^ k = S + B % 4294967296 ^ k ∧ Hol b wr v k S ∧ Below b w wr

theorem subRel_next {A B b : Nat} {w wr w1 : World} {v v' : Value} {k C : Nat} {x : Int} {o : Obj} {S : Nat} (he : A % 4294967296 ^ k + C * 4294967296 ^ k = S + B % 4294967296 ^ k) (hH : Hol b wr v k S) (hbl : Below b w wr) (hB : b ≤ wr.heap.size)
    (X C' : Nat) (hX : X + C + wd B k = wd A k + C' * 4294967296) (hx1 : X < 4294967296) (hx : x = (X : Int)) (hown : w1.ownsRow b 50 1 v' (k + 1) (wds k S ++ [.int .u32 x])) (hgrow : (wr.alloc o).grownBy w1 v.ownBlock) :
    SubRel A B b w w1 v' (k + 1) C' := by
  obtain ⟨h1, h2⟩ := app_step hH X hx hx1 hbl hB hown hgrow
  exact ⟨_, sub_step he hX, h1, h2⟩

set_option maxHeartbeats 2000000 in
theorem sub_any {w : World} {v u : Value} {m A B : Nat} (ha : Nt w v m A) (hb : Nt w u m B) (hm : m ≤ 900000) (hAB : B ≤ A) :
    Calls Tryd.prog 28 #[v, u] w fun e w' => Below w.heap.size w w' ∧ ∃ v', e = .returned v' ∧ Nt w' v' m (A - B) := by
  obtain ⟨i0, hi, hz0, hz1, hz2⟩ := info_parts Tryd.info50
  obtain ⟨n, hn, hh, ht⟩ := ha
  obtain ⟨p, hp, hh2, ht2⟩ := hb
  obtain ⟨ao, cap, rfl, hcap, hcell⟩ := hh.shape
  obtain ⟨bo, cap2, rfl, hcap2, hcell2⟩ := hh2.shape
  have HLA : Hid (A < 4294967296 ^ n) := hh.1
  have HLB : Hid (B < 4294967296 ^ p) := hh2.1
  have HLB2 : Hid (B < 4294967296 ^ n) := Nat.lt_of_le_of_lt hAB hh.1
  have HAB : Hid (B ≤ A) := hAB
  have HC : Hid (∀ k, k < n → ∃ g, ao = some ⟨g, 0, none⟩ ∧ 0 ≤ g ∧ g < w.heap.size ∧ w.cell? ⟨g, k, none⟩ = some (.int .u32 ((wd A k : Nat) : Int))) := hcell
  have HC2 : Hid (∀ k, k < p → ∃ g, bo = some ⟨g, 0, none⟩ ∧ 0 ≤ g ∧ g < w.heap.size ∧ w.cell? ⟨g, k, none⟩ = some (.int .u32 ((wd B k : Nat) : Int))) := hcell2
  clear hh hh2 hcell hcell2 ht ht2 hAB
  go_enter Tryd.func28, Tryd.ntmps28
  go_wp2
  go_loopw [5, 6, 7] (fun v c i wr => ∃ k C : Nat, i = .int .i64 k ∧ c = .int .i64 C ∧ C ≤ 1 ∧ k ≤ n ∧ Hid (SubRel A B w.heap.size w wr v k C)) (fun _ _ i _ => (n + 1) - (intOf i).toNat)
  case atStart => exact ⟨0, 0, rfl, rfl, by decide, by omega, 0, by rw [Nat.pow_zero, Nat.mod_one, Nat.mod_one], hol_empty w, below_one _⟩
  case round =>
    obtain ⟨k, C, rfl, rfl, hC, hk, hrel⟩ := hrel
    obtain ⟨S, he, hH, hbl⟩ := hrel.out
    have hsz := hbl.size
    have wa := wd_lt A k
    have wb := wd_lt B k
    by_cases h1 : k < n
    · obtain ⟨g, rfl, hc⟩ := cells_of HC.out hbl (Nat.le_refl _) h1
      have HS : Hid (A % 4294967296 ^ k + C * 4294967296 ^ k = S + B % 4294967296 ^ k) := he
      by_cases h2 : k < p
      · obtain ⟨g2, rfl, hc2⟩ := cells_of HC2.out hbl (Nat.le_refl _) h2
        clear he hrel HC HC2
        by_cases h3 : wd A k < C + wd B k
        · have h4 : ((wd A k : Nat) : Int) - C - wd B k < 0 := by omega
          go_wp2_with (at_builtin; refine wpList_append_own _ rfl _ _ 34 rfl w.heap.size 50 i0 (.int .u32 0) 1 4 Tryd.underlying34 hi hz0 hz1 hz2 rfl (by decide) _ _ _ rfl (hH.2.alloc _) ⟨wr.heap.size, 0, none⟩ 1 1 [.int .u32 _] rfl rfl (one_new _ _) (one_cell _) (by unfold maxLen; omega) (by omega) (by simp; omega) ?_)
          intro v' w1 hown' hgrow _
          have R : Hid (SubRel A B w.heap.size w w1 v' (k + 1) 1) := subRel_next HS.out hH hbl hsz (wd A k + 4294967296 - C - wd B k) 1 (by omega) (by omega) (by omega) hown' hgrow
          clear hown' hgrow hH hbl
          go_wp2
          go_roundw
          case rel => exact ⟨k + 1, 1, by go_num, by go_num, by omega, by omega, R⟩
          case measure => simp [intOf]; omega
        · have h4 : ¬ ((wd A k : Nat) : Int) - C - wd B k < 0 := by omega
          go_wp2_with (at_builtin; refine wpList_append_own _ rfl _ _ 34 rfl w.heap.size 50 i0 (.int .u32 0) 1 4 Tryd.underlying34 hi hz0 hz1 hz2 rfl (by decide) _ _ _ rfl (hH.2.alloc _) ⟨wr.heap.size, 0, none⟩ 1 1 [.int .u32 _] rfl rfl (one_new _ _) (one_cell _) (by unfold maxLen; omega) (by omega) (by simp; omega) ?_)
          intro v' w1 hown' hgrow _
          have R : Hid (SubRel A B w.heap.size w w1 v' (k + 1) 0) := subRel_next HS.out hH hbl hsz (wd A k - C - wd B k) 0 (by omega) (by omega) (by omega) hown' hgrow
          clear hown' hgrow hH hbl
          go_wp2
          go_roundw
          case rel => exact ⟨k + 1, 0, by go_num, by go_num, by omega, by omega, R⟩
          case measure => simp [intOf]; omega
      · have z2 : Hid (wd B k = 0) := wd_past HLB.out (by omega)
        clear he hrel HC HC2
        by_cases h3 : wd A k < C
        · have h4 : ((wd A k : Nat) : Int) - C < 0 := by omega
          go_wp2_with (at_builtin; refine wpList_append_own _ rfl _ _ 34 rfl w.heap.size 50 i0 (.int .u32 0) 1 4 Tryd.underlying34 hi hz0 hz1 hz2 rfl (by decide) _ _ _ rfl (hH.2.alloc _) ⟨wr.heap.size, 0, none⟩ 1 1 [.int .u32 _] rfl rfl (one_new _ _) (one_cell _) (by unfold maxLen; omega) (by omega) (by simp; omega) ?_)
          intro v' w1 hown' hgrow _
          have R : Hid (SubRel A B w.heap.size w w1 v' (k + 1) 1) := subRel_next HS.out hH hbl hsz (wd A k + 4294967296 - C) 1 (by have := z2.out; omega) (by omega) (by omega) hown' hgrow
          clear hown' hgrow hH hbl
          go_wp2
          go_roundw
          case rel => exact ⟨k + 1, 1, by go_num, by go_num, by omega, by omega, R⟩
          case measure => simp [intOf]; omega
        · have h4 : ¬ ((wd A k : Nat) : Int) - C < 0 := by omega
          go_wp2_with (at_builtin; refine wpList_append_own _ rfl _ _ 34 rfl w.heap.size 50 i0 (.int .u32 0) 1 4 Tryd.underlying34 hi hz0 hz1 hz2 rfl (by decide) _ _ _ rfl (hH.2.alloc _) ⟨wr.heap.size, 0, none⟩ 1 1 [.int .u32 _] rfl rfl (one_new _ _) (one_cell _) (by unfold maxLen; omega) (by omega) (by simp; omega) ?_)
          intro v' w1 hown' hgrow _
          have R : Hid (SubRel A B w.heap.size w w1 v' (k + 1) 0) := subRel_next HS.out hH hbl hsz (wd A k - C) 0 (by have := z2.out; omega) (by omega) (by omega) hown' hgrow
          clear hown' hgrow hH hbl
          go_wp2
          go_roundw
          case rel => exact ⟨k + 1, 0, by go_num, by go_num, by omega, by omega, R⟩
          case measure => simp [intOf]; omega
    · obtain rfl : k = n := by omega
      rw [mod_past HLA.out (Nat.le_refl _), mod_past HLB2.out (Nat.le_refl _)] at he
      have HE : Hid (A - B = S) := by
        show A - B = S
        have := HAB.out
        have h3 := hH.1
        rcases (show C = 0 ∨ C = 1 by omega) with rfl | rfl <;> omega
      have HH : Hid (Hol 0 wr u5 k S) := hH.zero
      clear he hrel HC HC2
      go_wp2_with (go_at_call 26; refine (trim_any HH.out (by omega)).mono ?_; rintro e w' ⟨rfl, v', rfl, hv⟩)
      go_ret
      refine ⟨hbl, _, rfl, ?_⟩
      rw [HE.out]
      obtain ⟨n', hn', r⟩ := hv
      exact ⟨n', by omega, r⟩
end Go.Proofs.YtghblaphkbcgpaaDoor

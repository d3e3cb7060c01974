/- QS3 QS4 QS5. -/
import Derived.Test.YtddbekacdfohpaaGreatDoorM25
namespace Go.Proofs.YtddbekacdfohpaaGreatDoor.Q
open Go.RowKit

theorem Tryz.info70 : (Tryz.prog.info? 70).map (fun i => (i.zero, i.size, i.bytes)) = some (some (.int .u32 0), 1, 4) := by kernel_rfl

theorem hol_empty (w : World) : Hol w.heap.size (w.alloc (.cells #[] 70)) (.slice (some ⟨w.heap.size, 0, none⟩) 0 0) 0 0 :=
  ⟨by decide, rfl, Or.inr ⟨w.heap.size, 0, #[], rfl, Nat.le_refl _, heap_alloc_new w _, Nat.le_refl _, by decide, rfl, rfl⟩⟩

theorem app_step {B : Nat} {w wr w1 : World} {v v' : Value} {i S : Nat} {x : Int} {o : Obj} (hH : Hol B wr v i S) (x' : Nat) (hx : x = (x' : Int)) (hx1 : x' < 4294967296) (hbl : Below B w wr) (hB : B ≤ wr.heap.size)
    (hown : w1.ownsRow B 70 1 v' (i + 1) (wds i S ++ [.int .u32 x])) (hgrow : (wr.alloc o).grownBy w1 v.ownBlock) : Hol B w1 v' (i + 1) (S + x' * 4294967296 ^ i) ∧ Below B w w1 := by
  subst hx
  rw [wds_snoc hH.1 hx1] at hown
  exact ⟨⟨snoc_lt hH.1 hx1, hown⟩, (hbl.alloc hB o).grown hgrow (by simp; omega) fun k hk => (hH.2.lt k hk).1⟩

theorem mod_succ (A k : Nat) : A % 4294967296 ^ (k + 1) = A % 4294967296 ^ k + wd A k * 4294967296 ^ k := by
  unfold wd
  rw [Nat.pow_succ, Nat.mod_mul, Nat.mul_comm (4294967296 ^ k)]

theorem wd_past {A n k : Nat} (h : A < 4294967296 ^ n) (hk : n ≤ k) : wd A k = 0 := by
  unfold wd
  rw [Nat.div_eq_of_lt (Nat.lt_of_lt_of_le h (Nat.pow_le_pow_right (by decide) hk))]

theorem mod_past {A n k : Nat} (h : A < 4294967296 ^ n) (hk : n ≤ k) : A % 4294967296 ^ k = A :=
  Nat.mod_eq_of_lt (Nat.lt_of_lt_of_le h (Nat.pow_le_pow_right (by decide) hk))

theorem add_step {A B S C k x : Nat} (h : A % 4294967296 ^ k + B % 4294967296 ^ k = S + C * 4294967296 ^ k) (hx : x = C + wd A k + wd B k) :
    A % 4294967296 ^ (k + 1) + B % 4294967296 ^ (k + 1) = (S + x % 4294967296 * 4294967296 ^ k) + x / 4294967296 * 4294967296 ^ (k + 1) := by
  rw [mod_succ, mod_succ, pow_succ']
  generalize 4294967296 ^ k = P at *
  have e : x % 4294967296 * P + x / 4294967296 * (P * 4294967296) = x * P := by
    rw [show x / 4294967296 * (P * 4294967296) = (4294967296 * (x / 4294967296)) * P by ac_rfl, ← Nat.add_mul, Nat.mod_add_div]
  have e2 : x * P = C * P + wd A k * P + wd B k * P := by rw [hx, Nat.add_mul, Nat.add_mul]
  omega

theorem one_new (w : World) (x : Int) (j : Nat) (u : Value) (hj : [Value.int .u32 x][j]? = some u) : (w.alloc (.cells #[.int .u32 x] 70)).cell? ((⟨w.heap.size, 0, none⟩ : Addr).add j) = some u := by
  match j, hj with
  | 0, hj =>
    simp at hj
    subst hj
    simp [Addr.add]

theorem one_cell (x : Int) (u : Value) (hu : u ∈ [Value.int .u32 x]) : u.oneCell' = true := by
  simp at hu
  subst hu
  rfl

/-- What the loop of l1Add holds on to. -/
def AddRel (A B b : Nat) (w wr : World) (v : Value) (k C : Nat) : Prop := ∃ S, A % 4294967296 ^ k + B % 4294967296 ^ k = S + C * 4294967296 ^ k ∧ Hol b wr v k S ∧ Below b w wr

theorem addRel_next {A B b : Nat} {w wr w1 : World} {v v' : Value} {k C : Nat} {x : Int} {o : Obj} {S : Nat} (he : A % 4294967296 ^ k + B % 4294967296 ^ k = S + C * 4294967296 ^ k) (hH : Hol b wr v k S) (hbl : Below b w wr) (hB : b ≤ wr.heap.size)
    (X : Nat) (hX : X = C + wd A k + wd B k) (hx : x = ((X % 4294967296 : Nat) : Int)) (hown : w1.ownsRow b 70 1 v' (k + 1) (wds k S ++ [.int .u32 x])) (hgrow : (wr.alloc o).grownBy w1 v.ownBlock) :
    AddRel A B b w w1 v' (k + 1) (X / 4294967296) := by
  obtain ⟨h1, h2⟩ := app_step hH (X % 4294967296) hx (Nat.mod_lt _ (by decide)) hbl hB hown hgrow
  exact ⟨_, add_step he hX, h1, h2⟩

theorem cells_of {w wr : World} {ao : Option Addr} {n N b k : Nat} (HC : ∀ k, k < n → ∃ g, ao = some ⟨g, 0, none⟩ ∧ 0 ≤ g ∧ g < w.heap.size ∧ w.cell? ⟨g, k, none⟩ = some (.int .u32 ((wd N k : Nat) : Int))) (hbl : Below b w wr) (hb : w.heap.size ≤ b) (hk : k < n) :
    ∃ g, ao = some ⟨g, 0, none⟩ ∧ wr.cell? ⟨g, k, none⟩ = some (.int .u32 ((wd N k : Nat) : Int)) := by
  obtain ⟨g, e, _, hg, hc⟩ := HC k hk
  exact ⟨g, e, (hbl.cell (show g < b by omega)).trans hc⟩

set_option maxHeartbeats 2000000 in
theorem add_any {w : World} {v u : Value} {m A B : Nat} (ha : Nt w v m A) (hb : Nt w u m B) (hm : m ≤ 900000) :
    Calls Tryz.prog 85 #[v, u] w fun e w' => Below w.heap.size w w' ∧ ∃ v', e = .returned v' ∧ Nt w' v' (m + 1) (A + B) := by
  obtain ⟨i0, hi, hz0, hz1, hz2⟩ := info_parts Tryz.info70
  obtain ⟨n, hn, hh, ht⟩ := ha
  obtain ⟨p, hp, hh2, ht2⟩ := hb
  obtain ⟨ao, cap, rfl, hcap, hcell⟩ := hh.shape
  obtain ⟨bo, cap2, rfl, hcap2, hcell2⟩ := hh2.shape
  have HLA : Hid (A < 4294967296 ^ n) := hh.1
  have HLB : Hid (B < 4294967296 ^ p) := hh2.1
  have HC : Hid (∀ k, k < n → ∃ g, ao = some ⟨g, 0, none⟩ ∧ 0 ≤ g ∧ g < w.heap.size ∧ w.cell? ⟨g, k, none⟩ = some (.int .u32 ((wd A k : Nat) : Int))) := hcell
  have HC2 : Hid (∀ k, k < p → ∃ g, bo = some ⟨g, 0, none⟩ ∧ 0 ≤ g ∧ g < w.heap.size ∧ w.cell? ⟨g, k, none⟩ = some (.int .u32 ((wd B k : Nat) : Int))) := hcell2
  clear hh hh2 hcell hcell2 ht ht2
  go_enter Tryz.func85, Tryz.ntmps85
  go_wp2
  go_loopw [5, 6, 7] (fun v c i wr => ∃ k C : Nat, i = .int .i64 k ∧ c = .int .u64 C ∧ C ≤ 1 ∧ k ≤ m + 1 ∧ Hid (AddRel A B w.heap.size w wr v k C)) (fun _ _ i _ => (m + 2) - (intOf i).toNat)
  case atStart => exact ⟨0, 0, rfl, rfl, by decide, by omega, 0, by rw [Nat.pow_zero, Nat.mod_one, Nat.mod_one], hol_empty w, below_one _⟩
  case round =>
    obtain ⟨k, C, rfl, rfl, hC, hk, hrel⟩ := hrel
    obtain ⟨S, he, hH, hbl⟩ := hrel.out
    have hsz := hbl.size
    have wa := wd_lt A k
    have wb := wd_lt B k
    have hkm : (k < n ∨ k < p ∨ 0 < C) → Hid (k ≤ m) := fun hor => by
      show k ≤ m
      rcases Nat.lt_or_ge m k with h | h
      · exfalso
        have e1 := mod_past HLA.out (show n ≤ k by omega)
        have e2 := mod_past HLB.out (show p ≤ k by omega)
        rw [e1, e2] at he
        have e3 : 4294967296 ^ m * 4294967296 ≤ 4294967296 ^ k := by rw [← pow_succ']; exact Nat.pow_le_pow_right (by decide) (by omega)
        have e4 := Nat.lt_of_lt_of_le HLA.out (Nat.pow_le_pow_right (n := 4294967296) (by decide) hn)
        have e5 := Nat.lt_of_lt_of_le HLB.out (Nat.pow_le_pow_right (n := 4294967296) (by decide) hp)
        obtain rfl : C = 1 := by omega
        omega
      · exact h
    by_cases h1 : k < n <;> by_cases h2 : k < p
    · obtain ⟨g, rfl, hc⟩ := cells_of HC.out hbl (Nat.le_refl _) h1
      obtain ⟨g2, rfl, hc2⟩ := cells_of HC2.out hbl (Nat.le_refl _) h2
      have hkm2 := (hkm (Or.inl h1)).out
      clear hkm
      have HS : Hid (A % 4294967296 ^ k + B % 4294967296 ^ k = S + C * 4294967296 ^ k) := he
      clear he hrel HC HC2
      go_wp2_with (at_builtin; refine wpList_append_own _ rfl _ _ 114 rfl w.heap.size 70 i0 (.int .u32 0) 1 4 Tryz.underlying114 hi hz0 hz1 hz2 rfl (by decide) _ _ _ rfl (hH.2.alloc _) ⟨wr.heap.size, 0, none⟩ 1 1 [.int .u32 (((C : Int) + wd A k + wd B k) % 4294967296)] rfl rfl (one_new _ _) (one_cell _) (by unfold maxLen; omega) (by omega) (by simp; omega) ?_)
      intro v' w1 hown' hgrow _
      have R : Hid (AddRel A B w.heap.size w w1 v' (k + 1) ((C + wd A k + wd B k) / 4294967296)) := addRel_next HS.out hH hbl hsz (C + wd A k + wd B k) rfl (by omega) hown' hgrow
      clear hown' hgrow hH hbl
      go_wp2
      go_roundw
      case rel => exact ⟨k + 1, (C + wd A k + wd B k) / 4294967296, by go_num, by go_num, by omega, by omega, R⟩
      case measure => simp [intOf]; omega
    · obtain ⟨g, rfl, hc⟩ := cells_of HC.out hbl (Nat.le_refl _) h1
      have z2 : Hid (wd B k = 0) := wd_past HLB.out (by omega)
      have hkm2 := (hkm (Or.inl h1)).out
      clear hkm
      have HS : Hid (A % 4294967296 ^ k + B % 4294967296 ^ k = S + C * 4294967296 ^ k) := he
      clear he hrel HC HC2
      go_wp2_with (at_builtin; refine wpList_append_own _ rfl _ _ 114 rfl w.heap.size 70 i0 (.int .u32 0) 1 4 Tryz.underlying114 hi hz0 hz1 hz2 rfl (by decide) _ _ _ rfl (hH.2.alloc _) ⟨wr.heap.size, 0, none⟩ 1 1 [.int .u32 (((C : Int) + wd A k) % 4294967296)] rfl rfl (one_new _ _) (one_cell _) (by unfold maxLen; omega) (by omega) (by simp; omega) ?_)
      intro v' w1 hown' hgrow _
      have R : Hid (AddRel A B w.heap.size w w1 v' (k + 1) ((C + wd A k) / 4294967296)) := addRel_next HS.out hH hbl hsz (C + wd A k) (by rw [z2.out]; rfl) (by omega) hown' hgrow
      clear hown' hgrow hH hbl
      go_wp2
      go_roundw
      case rel => exact ⟨k + 1, (C + wd A k) / 4294967296, by go_num, by go_num, by omega, by omega, R⟩
      case measure => simp [intOf]; omega
    · obtain ⟨g2, rfl, hc2⟩ := cells_of HC2.out hbl (Nat.le_refl _) h2
      have z1 : Hid (wd A k = 0) := wd_past HLA.out (by omega)
      have hkm2 := (hkm (Or.inr (Or.inl h2))).out
      clear hkm
      have HS : Hid (A % 4294967296 ^ k + B % 4294967296 ^ k = S + C * 4294967296 ^ k) := he
      clear he hrel HC HC2
      go_wp2_with (at_builtin; refine wpList_append_own _ rfl _ _ 114 rfl w.heap.size 70 i0 (.int .u32 0) 1 4 Tryz.underlying114 hi hz0 hz1 hz2 rfl (by decide) _ _ _ rfl (hH.2.alloc _) ⟨wr.heap.size, 0, none⟩ 1 1 [.int .u32 (((C : Int) + wd B k) % 4294967296)] rfl rfl (one_new _ _) (one_cell _) (by unfold maxLen; omega) (by omega) (by simp; omega) ?_)
      intro v' w1 hown' hgrow _
      have R : Hid (AddRel A B w.heap.size w w1 v' (k + 1) ((C + wd B k) / 4294967296)) := addRel_next HS.out hH hbl hsz (C + wd B k) (by rw [z1.out]; rfl) (by omega) hown' hgrow
      clear hown' hgrow hH hbl
      go_wp2
      go_roundw
      case rel => exact ⟨k + 1, (C + wd B k) / 4294967296, by go_num, by go_num, by omega, by omega, R⟩
      case measure => simp [intOf]; omega
    · have z1 : Hid (wd A k = 0) := wd_past HLA.out (by omega)
      have z2 : Hid (wd B k = 0) := wd_past HLB.out (by omega)
      by_cases h3 : C = 0
      · subst h3
        have e1 := mod_past HLA.out (show n ≤ k by omega)
        have e2 := mod_past HLB.out (show p ≤ k by omega)
        rw [e1, e2] at he
        have HE : Hid (A + B = S) := by show A + B = S; omega
        have HH : Hid (Hol 0 wr u5 k S) := hH.zero
        clear he hrel HC HC2 hkm e1 e2 z1 z2
        go_wp2_with (go_at_call 87; refine (trim_any HH.out (by omega)).mono ?_; rintro e w' ⟨rfl, v', rfl, hv⟩)
        go_ret
        refine ⟨hbl, _, rfl, ?_⟩
        rw [HE.out]
        obtain ⟨n', hn', r⟩ := hv
        exact ⟨n', by omega, r⟩
      · have hkm2 := (hkm (Or.inr (Or.inr (by omega)))).out
        clear hkm
        obtain rfl : C = 1 := by omega
        have HS : Hid (A % 4294967296 ^ k + B % 4294967296 ^ k = S + 1 * 4294967296 ^ k) := he
        clear he hrel HC HC2
        go_wp2_with (at_builtin; refine wpList_append_own _ rfl _ _ 114 rfl w.heap.size 70 i0 (.int .u32 0) 1 4 Tryz.underlying114 hi hz0 hz1 hz2 rfl (by decide) _ _ _ rfl (hH.2.alloc _) ⟨wr.heap.size, 0, none⟩ 1 1 [.int .u32 1] rfl rfl (one_new _ _) (one_cell _) (by unfold maxLen; omega) (by omega) (by simp; omega) ?_)
        intro v' w1 hown' hgrow _
        have R : Hid (AddRel A B w.heap.size w w1 v' (k + 1) (1 / 4294967296)) := addRel_next HS.out hH hbl hsz 1 (by rw [z1.out, z2.out]) (by decide) hown' hgrow
        clear hown' hgrow hH hbl
        go_wp2
        go_roundw
        case rel => exact ⟨k + 1, 0, by go_num, by go_num, by omega, by omega, R⟩
        case measure => simp [intOf]; omega
end Go.Proofs.YtddbekacdfohpaaGreatDoor.Q

namespace Go.Proofs.YtddbekacdfohpaaGreatDoor.Q
open Go.RowKit

theorem sub_step {A B S C C' k x : Nat} (h : A % 4294967296 ^ k + C * 4294967296 ^ k = S + B % 4294967296 ^ k) (hx : x + C + wd B k = wd A k + C' * 4294967296) :
    A % 4294967296 ^ (k + 1) + C' * 4294967296 ^ (k + 1) = (S + x * 4294967296 ^ k) + B % 4294967296 ^ (k + 1) := by
  rw [mod_succ, mod_succ, pow_succ']
  generalize 4294967296 ^ k = P at *
  have e := congrArg (· * P) hx
  simp only [Nat.add_mul] at e
  have e2 : C' * (P * 4294967296) = C' * 4294967296 * P := by ac_rfl
  omega

/-- What the loop of l1Sub holds on to. -/
def SubRel (A B b : Nat) (w wr : World) (v : Value) (k C : Nat) : Prop := ∃ S, A % 4294967296 ^ k + C * 4294967296 ^ k = S + B % 4294967296 ^ k ∧ Hol b wr v k S ∧ Below b w wr

theorem subRel_next {A B b : Nat} {w wr w1 : World} {v v' : Value} {k C : Nat} {x : Int} {o : Obj} {S : Nat} (he : A % 4294967296 ^ k + C * 4294967296 ^ k = S + B % 4294967296 ^ k) (hH : Hol b wr v k S) (hbl : Below b w wr) (hB : b ≤ wr.heap.size)
    (X C' : Nat) (hX : X + C + wd B k = wd A k + C' * 4294967296) (hx1 : X < 4294967296) (hx : x = (X : Int)) (hown : w1.ownsRow b 70 1 v' (k + 1) (wds k S ++ [.int .u32 x])) (hgrow : (wr.alloc o).grownBy w1 v.ownBlock) :
    SubRel A B b w w1 v' (k + 1) C' := by
  obtain ⟨h1, h2⟩ := app_step hH X hx hx1 hbl hB hown hgrow
  exact ⟨_, sub_step he hX, h1, h2⟩

set_option maxHeartbeats 2000000 in
theorem sub_any {w : World} {v u : Value} {m A B : Nat} (ha : Nt w v m A) (hb : Nt w u m B) (hm : m ≤ 900000) (hAB : B ≤ A) :
    Calls Tryz.prog 81 #[v, u] w fun e w' => Below w.heap.size w w' ∧ ∃ v', e = .returned v' ∧ Nt w' v' m (A - B) := by
  obtain ⟨i0, hi, hz0, hz1, hz2⟩ := info_parts Tryz.info70
  obtain ⟨n, hn, hh, ht⟩ := ha
  obtain ⟨p, hp, hh2, ht2⟩ := hb
  obtain ⟨ao, cap, rfl, hcap, hcell⟩ := hh.shape
  obtain ⟨bo, cap2, rfl, hcap2, hcell2⟩ := hh2.shape
  have HLA : Hid (A < 4294967296 ^ n) := hh.1
  have HLB : Hid (B < 4294967296 ^ p) := hh2.1
  have HLB2 : Hid (B < 4294967296 ^ n) := Nat.lt_of_le_of_lt hAB hh.1
  have HAB : Hid (B ≤ A) := hAB
  have HC : Hid (∀ k, k < n → ∃ g, ao = some ⟨g, 0, none⟩ ∧ 0 ≤ g ∧ g < w.heap.size ∧ w.cell? ⟨g, k, none⟩ = some (.int .u32 ((wd A k : Nat) : Int))) := hcell
  have HC2 : Hid (∀ k, k < p → ∃ g, bo = some ⟨g, 0, none⟩ ∧ 0 ≤ g ∧ g < w.heap.size ∧ w.cell? ⟨g, k, none⟩ = some (.int .u32 ((wd B k : Nat) : Int))) := hcell2
  clear hh hh2 hcell hcell2 ht ht2 hAB
  go_enter Tryz.func81, Tryz.ntmps81
  go_wp2
  go_loopw [5, 6, 7] (fun v c i wr => ∃ k C : Nat, i = .int .i64 k ∧ c = .int .i64 C ∧ C ≤ 1 ∧ k ≤ n ∧ Hid (SubRel A B w.heap.size w wr v k C)) (fun _ _ i _ => (n + 1) - (intOf i).toNat)
  case atStart => exact ⟨0, 0, rfl, rfl, by decide, by omega, 0, by rw [Nat.pow_zero, Nat.mod_one, Nat.mod_one], hol_empty w, below_one _⟩
  case round =>
    obtain ⟨k, C, rfl, rfl, hC, hk, hrel⟩ := hrel
    obtain ⟨S, he, hH, hbl⟩ := hrel.out
    have hsz := hbl.size
    have wa := wd_lt A k
    have wb := wd_lt B k
    by_cases h1 : k < n
    · obtain ⟨g, rfl, hc⟩ := cells_of HC.out hbl (Nat.le_refl _) h1
      have HS : Hid (A % 4294967296 ^ k + C * 4294967296 ^ k = S + B % 4294967296 ^ k) := he
      by_cases h2 : k < p
      · obtain ⟨g2, rfl, hc2⟩ := cells_of HC2.out hbl (Nat.le_refl _) h2
        clear he hrel HC HC2
        by_cases h3 : wd A k < C + wd B k
        · have h4 : ((wd A k : Nat) : Int) - C - wd B k < 0 := by omega
          go_wp2_with (at_builtin; refine wpList_append_own _ rfl _ _ 114 rfl w.heap.size 70 i0 (.int .u32 0) 1 4 Tryz.underlying114 hi hz0 hz1 hz2 rfl (by decide) _ _ _ rfl (hH.2.alloc _) ⟨wr.heap.size, 0, none⟩ 1 1 [.int .u32 _] rfl rfl (one_new _ _) (one_cell _) (by unfold maxLen; omega) (by omega) (by simp; omega) ?_)
          intro v' w1 hown' hgrow _
          have R : Hid (SubRel A B w.heap.size w w1 v' (k + 1) 1) := subRel_next HS.out hH hbl hsz (wd A k + 4294967296 - C - wd B k) 1 (by omega) (by omega) (by omega) hown' hgrow
          clear hown' hgrow hH hbl
          go_wp2
          go_roundw
          case rel => exact ⟨k + 1, 1, by go_num, by go_num, by omega, by omega, R⟩
          case measure => simp [intOf]; omega
        · have h4 : ¬ ((wd A k : Nat) : Int) - C - wd B k < 0 := by omega
          go_wp2_with (at_builtin; refine wpList_append_own _ rfl _ _ 114 rfl w.heap.size 70 i0 (.int .u32 0) 1 4 Tryz.underlying114 hi hz0 hz1 hz2 rfl (by decide) _ _ _ rfl (hH.2.alloc _) ⟨wr.heap.size, 0, none⟩ 1 1 [.int .u32 _] rfl rfl (one_new _ _) (one_cell _) (by unfold maxLen; omega) (by omega) (by simp; omega) ?_)
          intro v' w1 hown' hgrow _
          have R : Hid (SubRel A B w.heap.size w w1 v' (k + 1) 0) := subRel_next HS.out hH hbl hsz (wd A k - C - wd B k) 0 (by omega) (by omega) (by omega) hown' hgrow
          clear hown' hgrow hH hbl
          go_wp2
          go_roundw
          case rel => exact ⟨k + 1, 0, by go_num, by go_num, by omega, by omega, R⟩
          case measure => simp [intOf]; omega
      · have z2 : Hid (wd B k = 0) := wd_past HLB.out (by omega)
        clear he hrel HC HC2
        by_cases h3 : wd A k < C
        · have h4 : ((wd A k : Nat) : Int) - C < 0 := by omega
          go_wp2_with (at_builtin; refine wpList_append_own _ rfl _ _ 114 rfl w.heap.size 70 i0 (.int .u32 0) 1 4 Tryz.underlying114 hi hz0 hz1 hz2 rfl (by decide) _ _ _ rfl (hH.2.alloc _) ⟨wr.heap.size, 0, none⟩ 1 1 [.int .u32 _] rfl rfl (one_new _ _) (one_cell _) (by unfold maxLen; omega) (by omega) (by simp; omega) ?_)
          intro v' w1 hown' hgrow _
          have R : Hid (SubRel A B w.heap.size w w1 v' (k + 1) 1) := subRel_next HS.out hH hbl hsz (wd A k + 4294967296 - C) 1 (by have := z2.out; omega) (by omega) (by omega) hown' hgrow
          clear hown' hgrow hH hbl
          go_wp2
          go_roundw
          case rel => exact ⟨k + 1, 1, by go_num, by go_num, by omega, by omega, R⟩
          case measure => simp [intOf]; omega
        · have h4 : ¬ ((wd A k : Nat) : Int) - C < 0 := by omega
          go_wp2_with (at_builtin; refine wpList_append_own _ rfl _ _ 114 rfl w.heap.size 70 i0 (.int .u32 0) 1 4 Tryz.underlying114 hi hz0 hz1 hz2 rfl (by decide) _ _ _ rfl (hH.2.alloc _) ⟨wr.heap.size, 0, none⟩ 1 1 [.int .u32 _] rfl rfl (one_new _ _) (one_cell _) (by unfold maxLen; omega) (by omega) (by simp; omega) ?_)
          intro v' w1 hown' hgrow _
          have R : Hid (SubRel A B w.heap.size w w1 v' (k + 1) 0) := subRel_next HS.out hH hbl hsz (wd A k - C) 0 (by have := z2.out; omega) (by omega) (by omega) hown' hgrow
          clear hown' hgrow hH hbl
          go_wp2
          go_roundw
          case rel => exact ⟨k + 1, 0, by go_num, by go_num, by omega, by omega, R⟩
          case measure => simp [intOf]; omega
    · obtain rfl : k = n := by omega
      rw [mod_past HLA.out (Nat.le_refl _), mod_past HLB2.out (Nat.le_refl _)] at he
      have HE : Hid (A - B = S) := by
        show A - B = S
        have := HAB.out
        have h3 := hH.1
        rcases (show C = 0 ∨ C = 1 by omega) with rfl | rfl <;> omega
      have HH : Hid (Hol 0 wr u5 k S) := hH.zero
      clear he hrel HC HC2
      go_wp2_with (go_at_call 87; refine (trim_any HH.out (by omega)).mono ?_; rintro e w' ⟨rfl, v', rfl, hv⟩)
      go_ret
      refine ⟨hbl, _, rfl, ?_⟩
      rw [HE.out]
      obtain ⟨n', hn', r⟩ := hv
      exact ⟨n', by omega, r⟩
end Go.Proofs.YtddbekacdfohpaaGreatDoor.Q

namespace Go.Proofs.YtddbekacdfohpaaGreatDoor.Q
open Go.RowKit

theorem two_wd (A i : Nat) : wd A i + wd A (i + 1) * 4294967296 = A / 4294967296 ^ i % 18446744073709551616 := by
  unfold wd
  rw [Nat.pow_succ, ← Nat.div_div_eq_div_mul]
  omega

theorem shr_word (A q j r : Nat) (hr : r < 32) : (wd A (q + j) + wd A (q + j + 1) * 4294967296) / 2 ^ r % 4294967296 = wd (A / 2 ^ (32 * q + r)) j := by
  rw [two_wd]
  unfold wd
  have e1 : A / 2 ^ (32 * q + r) / 4294967296 ^ j = A / 4294967296 ^ (q + j) / 2 ^ r := by
    rw [Nat.div_div_eq_div_mul, Nat.div_div_eq_div_mul]
    congr 1
    rw [Nat.pow_add 2, Nat.pow_mul, Nat.pow_add 4294967296, show (2 : Nat) ^ 32 = 4294967296 by decide]
    ac_rfl
  rw [e1]
  generalize A / 4294967296 ^ (q + j) = Q
  have e2 : (18446744073709551616 : Nat) = 2 ^ r * 2 ^ (64 - r) := by rw [← Nat.pow_add, show r + (64 - r) = 64 by omega]
  rw [e2, Nat.mod_mul_right_div_self]
  have e3 : 2 ^ (64 - r) = 4294967296 * 2 ^ (32 - r) := by rw [show (4294967296 : Nat) = 2 ^ 32 by decide, ← Nat.pow_add]; congr 1; omega
  rw [e3, Nat.mod_mul_right_mod]

theorem shr_wordI (A q j r : Nat) (hr : r < 32) : (((wd A (q + j) : Nat) : Int) + ((wd A (q + j + 1) : Nat) : Int) * 4294967296) / 2 ^ r % 4294967296 = ((wd (A / 2 ^ (32 * q + r)) j : Nat) : Int) := by
  rw [← shr_word A q j r hr, Int.natCast_emod, Int.natCast_ediv, Int.natCast_add, Int.natCast_mul, Int.natCast_pow]
  rfl

theorem shr_end {A n q r j : Nat} (hA : A < 4294967296 ^ n) (hj : n ≤ q + j) : A / 2 ^ (32 * q + r) % 4294967296 ^ j = A / 2 ^ (32 * q + r) := by
  apply Nat.mod_eq_of_lt
  rw [Nat.div_lt_iff_lt_mul (Nat.pow_pos (by decide))]
  refine Nat.lt_of_lt_of_le hA ?_
  have e : 4294967296 ^ j * 2 ^ (32 * q + r) = 4294967296 ^ (q + j) * 2 ^ r := by
    rw [Nat.pow_add 2, Nat.pow_mul, Nat.pow_add 4294967296, show (2 : Nat) ^ 32 = 4294967296 by decide]
    ac_rfl
  rw [e]
  exact Nat.le_trans (Nat.pow_le_pow_right (by decide) hj) (Nat.le_mul_of_pos_right _ (Nat.pow_pos (by decide)))

/-- What the loop of l1Shr holds on to. -/
def ShrRel (N b : Nat) (w wr : World) (v : Value) (j : Nat) : Prop := Hol b wr v j (N % 4294967296 ^ j) ∧ Below b w wr

theorem shrRel_next {N b : Nat} {w wr w1 : World} {v v' : Value} {j : Nat} {x : Int} {o : Obj} (h : ShrRel N b w wr v j) (hB : b ≤ wr.heap.size) (hx : x = ((wd N j : Nat) : Int))
    (hown : w1.ownsRow b 70 1 v' (j + 1) (wds j (N % 4294967296 ^ j) ++ [.int .u32 x])) (hgrow : (wr.alloc o).grownBy w1 v.ownBlock) : ShrRel N b w w1 v' (j + 1) := by
  obtain ⟨h1, h2⟩ := app_step h.1 _ hx (wd_lt _ _) h.2 hB hown hgrow
  refine ⟨?_, h2⟩
  rw [mod_succ]
  exact h1

set_option maxRecDepth 20000 in
set_option maxHeartbeats 2000000 in
theorem shr_any {w : World} {v : Value} {m A : Nat} (ha : Nt w v m A) (hm : m ≤ 900000) (q r : Nat) (hr : r < 32) (hq : q ≤ 1000000) :
    Calls Tryz.prog 80 #[v, .int .i64 (32 * (q : Int) + r)] w fun e w' => Below w.heap.size w w' ∧ ∃ v', e = .returned v' ∧ Nt w' v' m (A / 2 ^ (32 * q + r)) := by
  obtain ⟨i0, hi, hz0, hz1, hz2⟩ := info_parts Tryz.info70
  obtain ⟨n, hn, hh, ht⟩ := ha
  obtain ⟨ao, cap, rfl, hcap, hcell⟩ := hh.shape
  have HLA : Hid (A < 4294967296 ^ n) := hh.1
  have HC : Hid (∀ k, k < n → ∃ g, ao = some ⟨g, 0, none⟩ ∧ 0 ≤ g ∧ g < w.heap.size ∧ w.cell? ⟨g, k, none⟩ = some (.int .u32 ((wd A k : Nat) : Int))) := hcell
  clear hh hcell ht
  have e1 : (32 * (q : Int) + r).tdiv 32 = q := by rw [Int.tdiv_eq_ediv_of_nonneg (by omega)]; omega
  have e2 : (32 * (q : Int) + r).tmod 32 = r := by rw [Int.tmod_eq_emod_of_nonneg (by omega)]; omega
  go_enter Tryz.func80, Tryz.ntmps80
  go_wp2
  go_loopw [5, 6] (fun v i wr => ∃ j : Nat, i = .int .i64 ((q : Int) + j) ∧ (q + j ≤ n ∨ j = 0) ∧ Hid (ShrRel (A / 2 ^ (32 * q + r)) w.heap.size w wr v j)) (fun _ i _ => (n + 1) - (intOf i).toNat)
  case atStart => exact ⟨0, by go_num, Or.inr rfl, by rw [Nat.pow_zero, Nat.mod_one]; exact hol_empty w, below_one _⟩
  case round =>
    obtain ⟨j, rfl, hj, hrel⟩ := hrel
    obtain ⟨hH, hbl⟩ := hrel.out
    have hsz := hbl.size
    by_cases h1 : q + j < n
    · obtain ⟨g, rfl, hc⟩ := cells_of HC.out hbl (Nat.le_refl _) h1
      have wa := wd_lt A (q + j)
      have wb := wd_lt A (q + j + 1)
      by_cases h2 : q + j + 1 < n
      · obtain ⟨g2, hg2, hc2⟩ := cells_of HC.out hbl (Nat.le_refl _) h2
        cases hg2
        clear HC
        go_wp2_with (at_builtin; refine wpList_append_own _ rfl _ _ 114 rfl w.heap.size 70 i0 (.int .u32 0) 1 4 Tryz.underlying114 hi hz0 hz1 hz2 rfl (by decide) _ _ _ rfl (hH.2.alloc _) ⟨wr.heap.size, 0, none⟩ 1 1 [.int .u32 _] rfl rfl (one_new _ _) (one_cell _) (by unfold maxLen; omega) (by omega) (by simp; omega) ?_)
        intro v' w1 hown' hgrow _
        have R : Hid (ShrRel (A / 2 ^ (32 * q + r)) w.heap.size w w1 v' (j + 1)) := shrRel_next hrel.out hsz (shr_wordI A q j r hr) hown' hgrow
        clear hown' hgrow hH hbl hrel
        go_wp2
        go_roundw
        case rel => exact ⟨j + 1, by go_num, Or.inl (by omega), R⟩
        case measure => simp [intOf]; omega
      · have z : wd A (q + j + 1) = 0 := wd_past HLA.out (by omega)
        clear HC
        go_wp2_with (at_builtin; refine wpList_append_own _ rfl _ _ 114 rfl w.heap.size 70 i0 (.int .u32 0) 1 4 Tryz.underlying114 hi hz0 hz1 hz2 rfl (by decide) _ _ _ rfl (hH.2.alloc _) ⟨wr.heap.size, 0, none⟩ 1 1 [.int .u32 _] rfl rfl (one_new _ _) (one_cell _) (by unfold maxLen; omega) (by omega) (by simp; omega) ?_)
        intro v' w1 hown' hgrow _
        have R : Hid (ShrRel (A / 2 ^ (32 * q + r)) w.heap.size w w1 v' (j + 1)) := shrRel_next hrel.out hsz (by have := shr_wordI A q j r hr; rw [z] at this; simpa using this) hown' hgrow
        clear hown' hgrow hH hbl hrel
        go_wp2
        go_roundw
        case rel => exact ⟨j + 1, by go_num, Or.inl (by omega), R⟩
        case measure => simp [intOf]; omega
    · have HE : Hid (A / 2 ^ (32 * q + r) % 4294967296 ^ j = A / 2 ^ (32 * q + r)) := shr_end HLA.out (by omega)
      have HH : Hid (Hol 0 wr u5 j (A / 2 ^ (32 * q + r))) := by
        have := hH.zero
        rwa [HE.out] at this
      have hjm : j ≤ m := by omega
      clear hH hrel HC
      go_wp2_with (go_at_call 87; refine (trim_any HH.out (by omega)).mono ?_; rintro e w' ⟨rfl, v', rfl, hv⟩)
      go_ret
      refine ⟨hbl, _, rfl, ?_⟩
      obtain ⟨n', hn', r⟩ := hv
      exact ⟨n', by omega, r⟩
end Go.Proofs.YtddbekacdfohpaaGreatDoor.Q

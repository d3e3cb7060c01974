/- Rows of lists of ints: marked, held, measured. -/
import Derived.Test.YtnfhnchomiejcaaRS
namespace Go.Proofs.Ytnfhnchomiejcaa
open Go.RowKit

/-- How many numbers the first k rows have. -/
def tot (ms : Nat → Nat) : Nat → Nat
  | 0 => 0
  | k + 1 => tot ms k + ms k

theorem tot_le {ms : Nat → Nat} {n : Nat} (h : ∀ k, k < n → ms k ≤ 1048576) : ∀ k, k ≤ n → tot ms k ≤ k * 1048576
  | 0, _ => Nat.le_refl _
  | k + 1, hk => by
    have h1 := tot_le h k (by omega)
    have h2 := h k (by omega)
    unfold tot
    omega

theorem own_ap {w w' : World} {B s n g : Nat} {e : TypeId} {v : Value} {xs : List Value} (h : w.ownsRow B e s v n xs) (ho : Only g w w') (ha : ∀ b, v.ownBlock = some b → b ≠ g) : w'.ownsRow B e s v n xs := by
  refine ⟨h.1, ?_⟩
  rcases h.2 with h' | ⟨g', cap', cur, rfl, hb', hg', rest⟩
  · exact .inl h'
  · exact .inr ⟨g', cap', cur, rfl, hb', (ho.block g' (ha g' rfl)).trans hg', rest⟩

/-- Marked up to row q. -/
def mkq (ms : Nat → Nat) (X : Nat → Nat → Int) (K : Int) (q k : Nat) : Nat → Int := if k < q then mkF (K + (tot ms k : Int)) else X k

set_option maxRecDepth 20000 in
set_option maxHeartbeats 4000000 in
theorem markSS {w : World} {B H : Nat} {v : Value} {n : Nat} {ms : Nat → Nat} {X : Nat → Nat → Int} (ho : OPI w B H v n ms X) (hn : n ≤ 1048576) (hms : ∀ k, k < n → ms k ≤ 1048576) :
    Calls Try.prog 23 #[v, .int .i64 1] w fun e w' => e = .returned (.int .i64 (1 + (tot ms n : Int))) ∧ OPI w' B H v n ms (fun k => mkF (1 + (tot ms k : Int))) ∧ Rng B H w w' := by
  obtain ⟨g, cap, R, Bs, rfl, hcap, h1, h2, h3, h4, hlt, hr⟩ := ho
  have hBs : ∀ i, i ≤ n → g < Bs i := fun i => by
    induction i with
    | zero => intro _; exact h2
    | succ i ih => intro hi; exact Nat.lt_of_lt_of_le (ih (by omega)) (h3 i (by omega))
  have hBm : ∀ j i, i ≤ j → j ≤ n → Bs i ≤ Bs j := fun j => by
    induction j with
    | zero => intro i hi _; obtain rfl : i = 0 := by omega
              exact Nat.le_refl _
    | succ j ih =>
      intro i hi hj
      by_cases he : i = j + 1
      · subst he; exact Nat.le_refl _
      · exact Nat.le_trans (ih i (by omega) (by omega)) (h3 j (by omega))
  have HBS : Hid (∀ i, i ≤ n → g < Bs i) := hBs
  have HBM : Hid (∀ j i, i ≤ j → j ≤ n → Bs i ≤ Bs j) := hBm
  have H1 : Hid (B ≤ g ∧ g < Bs 0 ∧ (∀ k, k < n → Bs k ≤ Bs (k + 1))) := ⟨h1, h2, h3⟩
  have H4 : Hid (Bs n ≤ H) := h4
  have HRR : Hid (∀ k, k < n → w.cell? ⟨g, k, none⟩ = some (R k) ∧ w.ownsRow (Bs k) 3 1 (R k) (ms k) (ils (X k) (ms k)) ∧ ∀ b, (R k).ownBlock = some b → b < Bs (k + 1)) := hr
  have HMS : Hid (∀ k, k < n → ms k ≤ 1048576) := hms
  have HT : Hid (∀ k, k ≤ n → tot ms k ≤ k * 1048576) := tot_le hms
  clear hBs hBm h1 h2 h3 h4 hr hms
  go_enter Try.func23, Try.ntmps23
  go_wp2
  go_loopw [1, 5] (fun kk i wr => ∃ q : Nat, i = .int .i64 q ∧ kk = .int .i64 (1 + (tot ms q : Int)) ∧ q ≤ n ∧ Hid ((∀ k, k < n → wr.cell? ⟨g, k, none⟩ = some (R k) ∧ wr.ownsRow (Bs k) 3 1 (R k) (ms k) (ils (mkq ms X 1 q k) (ms k))) ∧ Rng B H w wr)) (fun _ i _ => n - (intOf i).toNat)
  case atStart => exact ⟨0, rfl, rfl, by omega, fun k hk => ⟨(HRR.out k hk).1, (HRR.out k hk).2.1⟩, Rng.refl _ _ _⟩
  case round =>
    obtain ⟨q, rfl, rfl, hq, hrel⟩ := hrel
    by_cases h1 : q < n
    · obtain ⟨c, hown⟩ := hrel.out.1 q h1
      have r3 := (HRR.out q h1).2.2
      have hm := HMS.out q h1
      have ht := HT.out q (by omega)
      have hsz : Bs q ≤ wr.heap.size ∨ (R q).ownBlock = none := by
        rcases hown.2 with ⟨hv, _⟩ | ⟨g', cap', cur, hv, hb', hg', _⟩
        · right; rw [hv]; rfl
        · left; exact Nat.le_trans hb' (Nat.le_of_lt (Array.getElem?_eq_some_iff.1 hg').1)
      have key : Calls Try.prog 24 #[R q, .int .i64 (1 + (tot ms q : Int))] wr fun e w' => e = .returned (.int .i64 (1 + (tot ms q : Int) + (ms q : Int))) ∧ w'.ownsRow (Bs q) 3 1 (R q) (ms q) (ils (mkF (1 + (tot ms q : Int))) (ms q)) ∧ ((∃ g', Bs q ≤ g' ∧ g' < Bs (q + 1) ∧ Only g' wr w') ∨ w' = wr) := by
        rcases hown.2 with ⟨hv, h0⟩ | ⟨g', cap', cur, hv, hb', hg', _⟩
        · rw [hv, h0]
          refine (mark_nilF wr _).mono ?_
          rintro e w' ⟨rfl, rfl⟩
          exact ⟨by simp, ⟨rfl, .inl ⟨rfl, rfl⟩⟩, .inr rfl⟩
        · have hb := r3 g' (by rw [hv]; rfl)
          rw [hv] at hown ⊢
          refine (mark_F hown hm (by omega)).mono ?_
          rintro e w' ⟨rfl, ho, hon⟩
          exact ⟨rfl, ho, .inl ⟨g', hb', hb, hon⟩⟩
      have KEEP : Hid (∀ w' : World, w'.ownsRow (Bs q) 3 1 (R q) (ms q) (ils (mkF (1 + (tot ms q : Int))) (ms q)) → ((∃ g', Bs q ≤ g' ∧ g' < Bs (q + 1) ∧ Only g' wr w') ∨ w' = wr) → (∀ k, k < n → w'.cell? ⟨g, k, none⟩ = some (R k) ∧ w'.ownsRow (Bs k) 3 1 (R k) (ms k) (ils (mkq ms X 1 (q + 1) k) (ms k))) ∧ Rng B H w w') := fun w' hq1 h => by
        have hnew : ∀ k, k < n → k ≠ q → mkq ms X 1 (q + 1) k = mkq ms X 1 q k := fun k hk hkq => by
          unfold mkq
          by_cases h5 : k < q
          · rw [if_pos h5, if_pos (by omega)]
          · rw [if_neg h5, if_neg (by omega)]
        have hqq : mkq ms X 1 (q + 1) q = mkF (1 + (tot ms q : Int)) := by unfold mkq; rw [if_pos (by omega)]
        rcases h with ⟨g', ha, hb, hon⟩ | rfl
        · have hg0 := HBS.out q (by omega)
          refine ⟨fun k hk => ⟨(World.cell?_of_block (w := wr) (a := ⟨g, k, none⟩) (hon.block g (by omega))).trans (hrel.out.1 k hk).1, ?_⟩, hrel.out.2.only hon ⟨by have := H1.out.1; omega, by have := H4.out; have := HBM.out n (q + 1) (by omega) (Nat.le_refl _); omega⟩⟩
          by_cases hkq : k = q
          · subst hkq; rw [hqq]; exact hq1
          · rw [hnew k hk hkq]
            refine own_ap (hrel.out.1 k hk).2 hon (fun b hbk => ?_)
            have hb1 := (HRR.out k hk).2.2 b hbk
            have hb2 := (World.ownsRow.lt (hrel.out.1 k hk).2 b hbk).1
            by_cases h5 : k < q
            · have := HBM.out q (k + 1) (by omega) (by omega)
              omega
            · have := HBM.out k (q + 1) (by omega) (by omega)
              omega
        · refine ⟨fun k hk => ⟨(hrel.out.1 k hk).1, ?_⟩, hrel.out.2⟩
          by_cases hkq : k = q
          · subst hkq; rw [hqq]; exact hq1
          · rw [hnew k hk hkq]; exact (hrel.out.1 k hk).2
      have et : Hid ((tot ms (q + 1) : Int) = (tot ms q : Int) + (ms q : Int)) := by show ((tot ms q + ms q : Nat) : Int) = _; omega
      generalize R q = r at c key KEEP
      clear hown hrel hsz r3
      go_wp2_with (go_at_call 24; refine key.mono ?_; rintro e w2 ⟨rfl, hq1, he⟩; have K2 : Hid _ := KEEP.out w2 hq1 he; clear he hq1)
      go_roundw
      case rel => exact ⟨q + 1, by go_num, congrArg (Value.int .i64) (by have := et.out; omega), by omega, K2.out⟩
      case measure => simp [intOf]; omega
    · obtain rfl : n = q := by omega
      have hsz := hrel.out.2.size
      go_wp2
      go_ret
      refine ⟨rfl, ⟨g, cap, R, Bs, rfl, hcap, H1.out.1, H1.out.2.1, H1.out.2.2, H4.out, by omega, fun k hk => ⟨(hrel.out.1 k hk).1, ?_, (HRR.out k hk).2.2⟩⟩, hrel.out.2⟩
      have h := (hrel.out.1 k hk).2
      have e : mkq ms X 1 n k = mkF (1 + (tot ms k : Int)) := by unfold mkq; rw [if_pos hk]
      rw [e] at h
      exact h

set_option maxRecDepth 20000 in
set_option maxHeartbeats 4000000 in
theorem heldSS {w : World} {B H : Nat} {v : Value} {n : Nat} {ms : Nat → Nat} (ho : OPI w B H v n ms (fun k => mkF (1 + (tot ms k : Int)))) (hn : n ≤ 1048576) (hms : ∀ k, k < n → ms k ≤ 1048576) :
    Calls Try.prog 28 #[v, .int .i64 1] w fun e w' => e = .returned (.int .i64 (1 + (tot ms n : Int))) ∧ w' = w := by
  obtain ⟨g, cap, R, Bs, rfl, hcap, h1, h2, h3, h4, hlt, hr⟩ := ho
  have HRR : Hid (∀ k, k < n → w.cell? ⟨g, k, none⟩ = some (R k) ∧ w.ownsRow (Bs k) 3 1 (R k) (ms k) (ils (mkF (1 + (tot ms k : Int))) (ms k)) ∧ ∀ b, (R k).ownBlock = some b → b < Bs (k + 1)) := hr
  have HMS : Hid (∀ k, k < n → ms k ≤ 1048576) := hms
  have HT : Hid (∀ k, k ≤ n → tot ms k ≤ k * 1048576) := tot_le hms
  clear h1 h2 h3 h4 hr hms
  go_enter Try.func28, Try.ntmps28
  go_wp2
  go_loopw [1, 5] (fun kk i wr => ∃ q : Nat, i = .int .i64 q ∧ kk = .int .i64 (1 + (tot ms q : Int)) ∧ q ≤ n ∧ wr = w) (fun _ i _ => n - (intOf i).toNat)
  case atStart => exact ⟨0, rfl, rfl, by omega, rfl⟩
  case round =>
    obtain ⟨q, rfl, rfl, hq, rfl⟩ := hrel
    by_cases h1 : q < n
    · obtain ⟨c, hown, _⟩ := HRR.out q h1
      have hm := HMS.out q h1
      have ht := HT.out q (by omega)
      have key := heldF hown hm (by omega)
      have et : Hid ((tot ms (q + 1) : Int) = (tot ms q : Int) + (ms q : Int)) := by show ((tot ms q + ms q : Nat) : Int) = _; omega
      generalize R q = r at c key
      clear hown
      go_wp2_with (go_at_call 25; refine key.mono ?_; rintro e w' ⟨rfl, hw⟩; obtain rfl := hw.symm)
      go_roundw
      case rel => exact ⟨q + 1, by go_num, congrArg (Value.int .i64) (by have := et.out; omega), by omega, by trivial⟩
      case measure => simp [intOf]; omega
    · obtain rfl : n = q := by omega
      go_wp2
      go_ret
      exact ⟨rfl, rfl⟩

theorem sz5_any (m : Nat) (ao : Option Addr) (cap : Nat) (hm : m ≤ 9223372036854775807) (l : Int) (hl : 0 ≤ l ∧ l ≤ 1048576) (w : World) : Calls Try.prog 37 #[.slice ao m cap, .int .i64 l] w fun e w' => (∃ x : Int, e = .returned (.int .i64 x) ∧ x ≤ 1048576 ∧ (0 ≤ x → m ≤ 1048576)) ∧ w' = w := by
  by_cases h : l - (m : Int) < 0
  · go_enter Try.func37, Try.ntmps37
    go_wp2
    go_ret
    exact ⟨⟨_, rfl, by omega, by omega⟩, rfl⟩
  · go_enter Try.func37, Try.ntmps37
    go_wp2
    go_ret
    exact ⟨⟨_, rfl, by omega, by omega⟩, rfl⟩

set_option maxHeartbeats 1000000 in
theorem szS_any {w : World} {v : Value} {n : Nat} {ms : Nat → Nat} {X : Nat → Nat → Int} (hv : Ipp w v n ms X) (hn : n ≤ 9223372036854775807) (hms : ∀ k, k < n → ms k ≤ 9223372036854775807) :
    Calls Try.prog 15 #[v, .int .i64 1048576] w fun e w' => (∃ x : Int, e = .returned (.int .i64 x) ∧ (0 ≤ x → n ≤ 1048576 ∧ ∀ k, k < n → ms k ≤ 1048576)) ∧ w' = w := by
  obtain ⟨ao, cap, rfl, hcap, hc⟩ := hv
  have HC : Hid (0 < n → ∃ b off, ∃ R : Nat → Value, ao = some ⟨b, off, none⟩ ∧ b < w.heap.size ∧ ∀ k, k < n → w.cell? ⟨b, off + k, none⟩ = some (R k) ∧ Il w (R k) (ms k) (X k)) := hc
  have HMS : Hid (∀ k, k < n → ms k ≤ 9223372036854775807) := hms
  clear hc hms
  by_cases h : n ≤ 1048576
  · go_enter Try.func15, Try.ntmps15
    go_wp2
    go_loopw [1, 5] (fun l i wr => ∃ (k : Nat) (x : Int), i = .int .i64 k ∧ l = .int .i64 x ∧ k ≤ n ∧ 0 ≤ x ∧ x ≤ 1048576 ∧ wr = w ∧ Hid (∀ j, j < k → ms j ≤ 1048576)) (fun _ i _ => n - (intOf i).toNat)
    case atStart => exact ⟨0, _, rfl, rfl, by omega, by omega, by omega, rfl, fun j hj => by omega⟩
    case round =>
      obtain ⟨k, x, rfl, rfl, hk, hx0, hx1, rfl, hal⟩ := hrel
      by_cases h1 : k < n
      · obtain ⟨b, off, R, rfl, hlt, hcell⟩ := HC.out (by omega)
        obtain ⟨c, hfp⟩ := hcell k h1
        obtain ⟨qa, qc, hq, _, _⟩ := hfp
        rw [hq] at c
        have i1 := sz5_any (ms k) qa qc (HMS.out k h1) x ⟨hx0, hx1⟩
        clear hcell hq
        by_cases hs : True
        · go_upto_region 8 with (go_at_call 37; refine (i1 _).mono ?_; rintro e w' ⟨⟨y, rfl, hy1, hy2⟩, hw⟩; obtain rfl := hw.symm)
          by_cases hy : y < 0
          · go_wp2
            go_ret
            exact ⟨⟨_, rfl, fun h => by omega⟩, rfl⟩
          · have HY : Hid (ms k ≤ 1048576) := hy2 (by omega)
            clear hy2
            go_wp2
            go_roundw
            case rel =>
              refine ⟨k + 1, y, by go_num, rfl, by omega, by omega, by omega, by trivial, fun j hj => ?_⟩
              by_cases hjk : j = k
              · subst hjk; exact HY.out
              · exact hal.out j (by omega)
            case measure => simp [intOf]; omega
        · exact absurd trivial hs
      · obtain rfl : n = k := by omega
        go_wp2
        go_ret
        exact ⟨⟨_, rfl, fun _ => ⟨h, hal.out⟩⟩, rfl⟩
  · go_enter Try.func15, Try.ntmps15
    go_wp2
    go_ret
    exact ⟨⟨_, rfl, fun h => by omega⟩, rfl⟩
end Go.Proofs.Ytnfhnchomiejcaa

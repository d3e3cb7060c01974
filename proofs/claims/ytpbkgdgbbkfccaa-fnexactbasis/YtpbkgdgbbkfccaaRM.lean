/- Rows in blocks of their own: marked, held. -/
import Derived.Test.YtpbkgdgbbkfccaaRG
namespace Go.Proofs.Ytpbkgdgbbkfccaa
open Go.RowKit

set_option maxRecDepth 20000 in
set_option maxHeartbeats 4000000 in
theorem markR {w : World} {B n c : Nat} {o : Value} {gs cs : Nat → Nat} {M : Nat → Nat → Int} (h : Rgr w B o n c gs cs M) (hn : n ≤ 1048576) (hc : c ≤ 1048576) :
    Calls Try.prog 23 #[o, .int .i64 1] w fun e w' => e = .returned (.int .i64 (1 + (tot (fun _ => c) n : Int))) ∧ Rgr w' B o n c gs cs (fun k => mkF (1 + (tot (fun _ => c) k : Int))) ∧ Below B w w' := by
  obtain ⟨ao, cap, rfl, hcap, ha⟩ := h.open
  have HT : Hid (∀ k, k ≤ n → tot (fun _ => c) k ≤ k * 1048576) := tot_le (fun _ _ => hc)
  have HR : Hid (Rgr w B (.slice ao n cap) n c gs cs M) := h
  clear h
  go_enter Try.func23, Try.ntmps23
  go_wp2
  go_loopw [1, 5] (fun kk i wr => ∃ q : Nat, i = .int .i64 q ∧ kk = .int .i64 (1 + (tot (fun _ => c) q : Int)) ∧ q ≤ n ∧ Hid (Rgr wr B (.slice ao n cap) n c gs cs (mkq (fun _ => c) M 1 q) ∧ Below B w wr)) (fun _ i _ => n - (intOf i).toNat)
  case atStart => exact ⟨0, rfl, rfl, by omega, HR.out, Below.refl _ _⟩
  case round =>
    obtain ⟨q, rfl, rfl, hq, hrel⟩ := hrel
    by_cases h1 : q < n
    · obtain ⟨g, rfl⟩ := ha (by omega)
      have hR := hrel.out.1
      have hB := hrel.out.2
      have c1 := hR.at h1
      have ht := HT.out q (by omega)
      have key := mark_F (K := 1 + (tot (fun _ => c) q : Int)) (hR.rows q h1) hc (by omega)
      have KEEP : Hid (∀ w' : World, w'.ownsRow B 3 1 (rv gs cs c q) c (ils (mkF (1 + (tot (fun _ => c) q : Int))) c) → Only (gs q) wr w' → Rgr w' B (.slice (some ⟨g, 0, none⟩) n cap) n c gs cs (mkq (fun _ => c) M 1 (q + 1)) ∧ Below B w w') := fun w' hq1 hon => by
        refine ⟨⟨own_at hR.row (fun b hb => hon.block b (fun e => ?_)), fun k hk => ?_, hR.inj⟩, Below.only hB hon (World.ownsRow.lt (hR.rows q h1) (gs q) rfl).1⟩
        · injection hb with hb
          exact ty_ne hR.row (hR.rows q h1) (by rw [← e, ← hb]; rfl)
        · by_cases hkq : k = q
          · subst hkq
            have e : mkq (fun _ => c) M 1 (k + 1) k = mkF (1 + (tot (fun _ => c) k : Int)) := by unfold mkq; rw [if_pos (by omega)]
            rw [e]; exact hq1
          · have e : mkq (fun _ => c) M 1 (q + 1) k = mkq (fun _ => c) M 1 q k := by
              unfold mkq
              by_cases h5 : k < q
              · rw [if_pos h5, if_pos (by omega)]
              · rw [if_neg h5, if_neg (by omega)]
            rw [e]
            exact own_at (hR.rows k hk) (fun b hb => hon.block b (fun e2 => hkq (hR.inj k q hk h1 (by injection hb with hb; exact hb.trans e2))))
      have et : Hid ((tot (fun _ => c) (q + 1) : Int) = (tot (fun _ => c) q : Int) + (c : Int)) := by show ((tot (fun _ => c) q + c : Nat) : Int) = _; omega
      clear hR hB hrel
      go_wp2_with (go_at_call 24; refine key.mono ?_; rintro e w2 ⟨rfl, hq1, he⟩; have K2 : Hid _ := KEEP.out w2 hq1 he; clear he hq1)
      go_roundw
      case rel => exact ⟨q + 1, by go_num, congrArg (Value.int .i64) (by have := et.out; omega), by omega, K2.out⟩
      case measure => simp [intOf]; omega
    · obtain rfl : n = q := by omega
      go_wp2
      go_ret
      refine ⟨rfl, hrel.out.1.congr (fun k hk => ?_), hrel.out.2⟩
      unfold mkq
      rw [if_pos hk]

set_option maxRecDepth 20000 in
set_option maxHeartbeats 4000000 in
theorem heldR {w : World} {B n c : Nat} {o : Value} {gs cs : Nat → Nat} (h : Rgr w B o n c gs cs (fun k => mkF (1 + (tot (fun _ => c) k : Int)))) (hn : n ≤ 1048576) (hc : c ≤ 1048576) :
    Calls Try.prog 28 #[o, .int .i64 1] w fun e w' => e = .returned (.int .i64 (1 + (tot (fun _ => c) n : Int))) ∧ w' = w := by
  obtain ⟨ao, cap, rfl, hcap, ha⟩ := h.open
  have HT : Hid (∀ k, k ≤ n → tot (fun _ => c) k ≤ k * 1048576) := tot_le (fun _ _ => hc)
  have HR : Hid _ := h
  clear h
  go_enter Try.func28, Try.ntmps28
  go_wp2
  go_loopw [1, 5] (fun kk i wr => ∃ q : Nat, i = .int .i64 q ∧ kk = .int .i64 (1 + (tot (fun _ => c) q : Int)) ∧ q ≤ n ∧ wr = w) (fun _ i _ => n - (intOf i).toNat)
  case atStart => exact ⟨0, rfl, rfl, by omega, rfl⟩
  case round =>
    obtain ⟨q, rfl, rfl, hq, rfl⟩ := hrel
    by_cases h1 : q < n
    · obtain ⟨g, rfl⟩ := ha (by omega)
      have c1 := HR.out.at h1
      have ht := HT.out q (by omega)
      have key := held_F (HR.out.rows q h1) hc (by omega)
      have et : Hid ((tot (fun _ => c) (q + 1) : Int) = (tot (fun _ => c) q : Int) + (c : Int)) := by show ((tot (fun _ => c) q + c : Nat) : Int) = _; omega
      go_wp2_with (go_at_call 25; refine key.mono ?_; rintro e w' ⟨rfl, hw⟩; obtain rfl := hw.symm)
      go_roundw
      case rel => exact ⟨q + 1, by go_num, congrArg (Value.int .i64) (by have := et.out; omega), by omega, by trivial⟩
      case measure => simp [intOf]; omega
    · obtain rfl : n = q := by omega
      go_wp2
      go_ret
      exact ⟨rfl, rfl⟩


theorem markRG {w : World} {B n m : Nat} {v : Value} {X : Nat → Nat → Int} (h : RG w B v n m X) (hn : n ≤ 1048576) (hc : m ≤ 1048576) :
    Calls Try.prog 23 #[v, .int .i64 1] w fun e w' => e = .returned (.int .i64 (1 + (tot (fun _ => m) n : Int))) ∧ RG w' B v n m (fun k => mkF (1 + (tot (fun _ => m) k : Int))) ∧ Below B w w' := by
  obtain ⟨gs, cs, h⟩ := h
  refine (markR h hn hc).mono ?_
  rintro e w' ⟨h1, h2, h3⟩
  exact ⟨h1, ⟨gs, cs, h2⟩, h3⟩
theorem heldRG {w : World} {B n m : Nat} {v : Value} (h : RG w B v n m (fun k => mkF (1 + (tot (fun _ => m) k : Int)))) (hn : n ≤ 1048576) (hc : m ≤ 1048576) :
    Calls Try.prog 28 #[v, .int .i64 1] w fun e w' => e = .returned (.int .i64 (1 + (tot (fun _ => m) n : Int))) ∧ w' = w := by
  obtain ⟨gs, cs, h⟩ := h
  exact heldR h hn hc
end Go.Proofs.Ytpbkgdgbbkfccaa

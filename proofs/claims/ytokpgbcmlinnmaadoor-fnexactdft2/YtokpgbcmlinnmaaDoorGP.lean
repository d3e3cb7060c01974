/- Rows in blocks apart: marked, held. -/
import Derived.Test.YtokpgbcmlinnmaaDoorGO
namespace Go.Proofs.YtokpgbcmlinnmaaDoor
open Go.RowKit

theorem OPI.rng {w w' : World} {B H C D : Nat} {v : Value} {n : Nat} {ms : Nat → Nat} {X : Nat → Nat → Int} (h : OPI w C D v n ms X) (hr : Rng B H w w') (hH : H ≤ C) : OPI w' C D v n ms X := by
  obtain ⟨g, cap, R, Bs, hv, hcap, h1, h2, h3, h4, hlt, hrr⟩ := h
  have hBs : ∀ i, i ≤ n → g < Bs i := fun i => by
    induction i with
    | zero => intro _; exact h2
    | succ i ih => intro hi; exact Nat.lt_of_lt_of_le (ih (by omega)) (h3 i (by omega))
  refine ⟨g, cap, R, Bs, hv, hcap, h1, h2, h3, h4, Nat.lt_of_lt_of_le hlt hr.size, fun k hk => ⟨?_, hr.own (hrr k hk).2.1 (by have := hBs k (by omega); omega), (hrr k hk).2.2⟩⟩
  exact (World.cell?_of_block (w := w) (a := ⟨g, k, none⟩) (hr.block g (.inr (by omega)))).trans (hrr k hk).1

theorem Rgr.open {X : World} {B n c : Nat} {o : Value} {gs cs : Nat → Nat} {M : Nat → Nat → Int} (h : Rgr X B o n c gs cs M) : ∃ ao cap, o = .slice ao n cap ∧ n ≤ cap ∧ (0 < n → ∃ g, ao = some ⟨g, 0, none⟩) := by
  rcases h.row.2 with ⟨rfl, rfl⟩ | ⟨g, cap, cur, rfl, _, _, hc, _⟩
  · exact ⟨none, 0, rfl, Nat.le_refl _, fun h => by omega⟩
  · exact ⟨_, cap, rfl, hc, fun _ => ⟨g, rfl⟩⟩

theorem Rgr.at {X : World} {B n c g cap : Nat} {gs cs : Nat → Nat} {M : Nat → Nat → Int} (h : Rgr X B (.slice (some ⟨g, 0, none⟩) n cap) n c gs cs M) {i : Nat} (hi : i < n) : X.cell? ⟨g, i, none⟩ = some (rv gs cs c i) := by
  rw [World.ownsRow.cellAt h.row i (by omega), vls_get hi]

theorem Rgr.ipp {X : World} {B n c : Nat} {o : Value} {gs cs : Nat → Nat} {M : Nat → Nat → Int} (h : Rgr X B o n c gs cs M) : Ipp X o n (fun _ => c) M := by
  obtain ⟨ao, cap, rfl, hcap, ha⟩ := h.open
  refine ⟨ao, cap, rfl, hcap, fun h0 => ?_⟩
  obtain ⟨g, rfl⟩ := ha h0
  exact ⟨g, 0, rv gs cs c, rfl, (World.ownsRow.lt h.row g rfl).2, fun k hk => ⟨by rw [Nat.zero_add]; exact h.at hk, il_of_own (h.rows k hk)⟩⟩

theorem Rgr.rng {w w' : World} {B H C n c : Nat} {o : Value} {gs cs : Nat → Nat} {M : Nat → Nat → Int} (h : Rgr w C o n c gs cs M) (hr : Rng B H w w') (hH : H ≤ C) : Rgr w' C o n c gs cs M :=
  ⟨hr.own h.row hH, fun i hi => hr.own (h.rows i hi) hH, h.inj⟩

theorem Rgr.none {w : World} {B c : Nat} {o : Value} (gs cs : Nat → Nat) (M : Nat → Nat → Int) (h : w.ownsRow B 26 1 o 0 []) : Rgr w B o 0 c gs cs M := ⟨h, fun i hi => by omega, fun i k hi => by omega⟩

set_option maxRecDepth 20000 in
set_option maxHeartbeats 4000000 in
theorem markR {w : World} {B n c : Nat} {o : Value} {gs cs : Nat → Nat} {M : Nat → Nat → Int} (h : Rgr w B o n c gs cs M) (hn : n ≤ 1048576) (hc : c ≤ 1048576) :
    Calls Tryd.prog 25 #[o, .int .i64 1] w fun e w' => e = .returned (.int .i64 (1 + (tot (fun _ => c) n : Int))) ∧ Rgr w' B o n c gs cs (fun k => mkF (1 + (tot (fun _ => c) k : Int))) ∧ Below B w w' := by
  obtain ⟨ao, cap, rfl, hcap, ha⟩ := h.open
  have HT : Hid (∀ k, k ≤ n → tot (fun _ => c) k ≤ k * 1048576) := tot_le (fun _ _ => hc)
  have HR : Hid (Rgr w B (.slice ao n cap) n c gs cs M) := h
  clear h
  go_enter Tryd.func25, Tryd.ntmps25
  go_wp2
  go_loopw [1, 5] (fun kk i wr => ∃ q : Nat, i = .int .i64 q ∧ kk = .int .i64 (1 + (tot (fun _ => c) q : Int)) ∧ q ≤ n ∧ Hid (Rgr wr B (.slice ao n cap) n c gs cs (mkq (fun _ => c) M 1 q) ∧ Below B w wr)) (fun _ i _ => n - (intOf i).toNat)
  case atStart => exact ⟨0, rfl, rfl, by omega, HR.out, Below.refl _ _⟩
  case round =>
    obtain ⟨q, rfl, rfl, hq, hrel⟩ := hrel
    by_cases h1 : q < n
    · obtain ⟨g, rfl⟩ := ha (by omega)
      have hR := hrel.out.1
      have hB := hrel.out.2
      have c1 := hR.at h1
      have ht := HT.out q (by omega)
      have key := mark_F (K := 1 + (tot (fun _ => c) q : Int)) (hR.rows q h1) hc (by omega)
      have KEEP : Hid (∀ w' : World, w'.ownsRow B 3 1 (rv gs cs c q) c (ils (mkF (1 + (tot (fun _ => c) q : Int))) c) → Only (gs q) wr w' → Rgr w' B (.slice (some ⟨g, 0, none⟩) n cap) n c gs cs (mkq (fun _ => c) M 1 (q + 1)) ∧ Below B w w') := fun w' hq1 hon => by
        refine ⟨⟨own_at hR.row (fun b hb => hon.block b (fun e => ?_)), fun k hk => ?_, hR.inj⟩, Below.only hB hon (World.ownsRow.lt (hR.rows q h1) (gs q) rfl).1⟩
        · injection hb with hb
          exact ty_ne hR.row (hR.rows q h1) (by rw [← e, ← hb]; rfl)
        · by_cases hkq : k = q
          · subst hkq
            have e : mkq (fun _ => c) M 1 (k + 1) k = mkF (1 + (tot (fun _ => c) k : Int)) := by unfold mkq; rw [if_pos (by omega)]
            rw [e]; exact hq1
          · have e : mkq (fun _ => c) M 1 (q + 1) k = mkq (fun _ => c) M 1 q k := by
              unfold mkq
              by_cases h5 : k < q
              · rw [if_pos h5, if_pos (by omega)]
              · rw [if_neg h5, if_neg (by omega)]
            rw [e]
            exact own_at (hR.rows k hk) (fun b hb => hon.block b (fun e2 => hkq (hR.inj k q hk h1 (by injection hb with hb; exact hb.trans e2))))
      have et : Hid ((tot (fun _ => c) (q + 1) : Int) = (tot (fun _ => c) q : Int) + (c : Int)) := by show ((tot (fun _ => c) q + c : Nat) : Int) = _; omega
      clear hR hB hrel
      go_wp2_with (go_at_call 18; refine key.mono ?_; rintro e w2 ⟨rfl, hq1, he⟩; have K2 : Hid _ := KEEP.out w2 hq1 he; clear he hq1)
      go_roundw
      case rel => exact ⟨q + 1, by go_num, congrArg (Value.int .i64) (by have := et.out; omega), by omega, K2.out⟩
      case measure => simp [intOf]; omega
    · obtain rfl : n = q := by omega
      go_wp2
      go_ret
      refine ⟨rfl, hrel.out.1.congr (fun k hk => ?_), hrel.out.2⟩
      unfold mkq
      rw [if_pos hk]

set_option maxRecDepth 20000 in
set_option maxHeartbeats 4000000 in
theorem heldR {w : World} {B n c : Nat} {o : Value} {gs cs : Nat → Nat} (h : Rgr w B o n c gs cs (fun k => mkF (1 + (tot (fun _ => c) k : Int)))) (hn : n ≤ 1048576) (hc : c ≤ 1048576) :
    Calls Tryd.prog 26 #[o, .int .i64 1] w fun e w' => e = .returned (.int .i64 (1 + (tot (fun _ => c) n : Int))) ∧ w' = w := by
  obtain ⟨ao, cap, rfl, hcap, ha⟩ := h.open
  have HT : Hid (∀ k, k ≤ n → tot (fun _ => c) k ≤ k * 1048576) := tot_le (fun _ _ => hc)
  have HR : Hid _ := h
  clear h
  go_enter Tryd.func26, Tryd.ntmps26
  go_wp2
  go_loopw [1, 5] (fun kk i wr => ∃ q : Nat, i = .int .i64 q ∧ kk = .int .i64 (1 + (tot (fun _ => c) q : Int)) ∧ q ≤ n ∧ wr = w) (fun _ i _ => n - (intOf i).toNat)
  case atStart => exact ⟨0, rfl, rfl, by omega, rfl⟩
  case round =>
    obtain ⟨q, rfl, rfl, hq, rfl⟩ := hrel
    by_cases h1 : q < n
    · obtain ⟨g, rfl⟩ := ha (by omega)
      have c1 := HR.out.at h1
      have ht := HT.out q (by omega)
      have key := held_F (HR.out.rows q h1) hc (by omega)
      have et : Hid ((tot (fun _ => c) (q + 1) : Int) = (tot (fun _ => c) q : Int) + (c : Int)) := by show ((tot (fun _ => c) q + c : Nat) : Int) = _; omega
      go_wp2_with (go_at_call 19; refine key.mono ?_; rintro e w' ⟨rfl, hw⟩; obtain rfl := hw.symm)
      go_roundw
      case rel => exact ⟨q + 1, by go_num, congrArg (Value.int .i64) (by have := et.out; omega), by omega, by trivial⟩
      case measure => simp [intOf]; omega
    · obtain rfl : n = q := by omega
      go_wp2
      go_ret
      exact ⟨rfl, rfl⟩
end Go.Proofs.YtokpgbcmlinnmaaDoor

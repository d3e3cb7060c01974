/- Rows of checks; searches. -/
import Derived.Test.YtnfhnchomiejcaaRG
import Derived.Test.YtnfhnchomiejcaaCK
import Derived.Test.YtnfhnchomiejcaaTP
namespace Go.Proofs.Ytnfhnchomiejcaa
open Go.RowKit

theorem own_some {w : World} {B e s n : Nat} {v : Value} {xs : List Value} (h : w.ownsRow B e s v n xs) (hn : 1 ≤ n) : ∃ g c, v = .slice (some ⟨g, 0, none⟩) n c ∧ B ≤ g := by
  rcases h.2 with ⟨_, h0⟩ | ⟨g, cap, cur, rfl, hb, _⟩
  · omega
  · exact ⟨g, cap, rfl, hb⟩

theorem r0_put {Y : Nat → Int} {j p n : Nat} (hp : p = (Y j).toNat) : ils (fun i => if i = p then 1 else r0 Y j i) n = ils (r0 Y (j + 1)) n := by
  refine ils_congr fun i _ => ?_
  show _ = if i = (Y j).toNat then 1 else r0 Y j i
  rw [← hp]

set_option maxRecDepth 20000 in
set_option maxHeartbeats 4000000 in
/-- Rows of checks. -/
theorem rowsOf_any {w : World} {v : Value} {M n : Nat} {ms : Nat → Nat} {X : Nat → Nat → Int} (hv : Ipp w v M ms X) (hk : Cks M ms X (n : Int)) :
    Calls Try.prog 31 #[v, .int .i64 (n : Int)] w fun e w' => ∃ u, e = .returned u ∧ RG w' w.heap.size u M n (fun i => r0 (X i) (ms i)) ∧ Below w.heap.size w w' := by
  have hn := hk.1.1
  have hM := hk.1.2
  have HCK : Hid (∀ k, k < M → Chk (ms k) (X k) (n : Int)) := hk.2
  obtain ⟨ao, cap, rfl, hcap, hc⟩ := hv
  have HC : Hid (0 < M → ∃ b off, ∃ R : Nat → Value, ao = some ⟨b, off, none⟩ ∧ b < w.heap.size ∧ ∀ k, k < M → w.cell? ⟨b, off + k, none⟩ = some (R k) ∧ Il w (R k) (ms k) (X k)) := hc
  clear hc hk
  go_enter Try.func31, Try.ntmps31
  go_wp2
  go_loopw [5, 7, 8, 10, 14, 22] (fun o _ _ _ i _ wr => ∃ k : Nat, i = .int .i64 k ∧ k ≤ M ∧ Hid ((∃ gs cs, Rgr wr w.heap.size o k n gs cs (fun i => r0 (X i) (ms i))) ∧ Below w.heap.size w wr)) (fun _ _ _ _ i _ _ => M - (intOf i).toNat)
  case atStart => exact ⟨0, rfl, by omega, ⟨fun _ => 0, fun _ => 0, Rgr.start w n _ _ _⟩, below_one _ _⟩
  case round =>
    obtain ⟨k, rfl, hk, HRL⟩ := hrel
    by_cases h1 : k < M
    · obtain ⟨b, off, R, rfl, hlt, hcell⟩ := HC.out (by omega)
      obtain ⟨c0, hil⟩ := hcell k h1
      have hck := HCK.out k h1
      obtain ⟨m, em⟩ : ∃ m, m = ms k := ⟨_, rfl⟩
      rw [← em] at hil hck
      have hm2 := hck.1
      have HPL : Hid (Plc m (X k) (n : Int)) := hck.2
      have EM : Hid (m = ms k) := em
      obtain ⟨qa, qc, hq, hqc, hqq⟩ := hil
      rw [hq] at c0
      have c := (HRL.out.2.cell (p := ⟨b, off + k, none⟩) hlt).trans c0
      have HQ : Hid (0 < m → ∃ b off, qa = some ⟨b, off, none⟩ ∧ b < w.heap.size ∧ ∀ j, j < m → w.cell? ⟨b, off + j, none⟩ = some (.int .i64 (X k j))) := hqq
      obtain ⟨gs, cs, hR⟩ := HRL.out.1
      have HR : Hid (Rgr wr w.heap.size u5 k n gs cs (fun i => r0 (X i) (ms i))) := hR
      have HB : Hid (Below w.heap.size w wr) := HRL.out.2
      have hr := mkd_run wr (k := n) (by omega)
      have OW : Hid ((mkd wr n).ownsRow wr.heap.size 3 1 (.slice (some ⟨wr.heap.size, 0, none⟩) n n) n (ils (r0 (X k) 0) n)) := mkd_own wr (by omega) (Nat.le_refl _)
      have BL : Hid (Below wr.heap.size wr (mkd wr n)) := mkd_below _ _
      obtain ⟨oa, ocap, ho, hoc, _⟩ := hR.open
      clear hcell hqq hq c0 em hck hR HRL
      subst ho
      obtain ⟨W1, rfl⟩ : ∃ W1, W1 = wr := ⟨_, rfl⟩
      go_wp2
      clear hr
      generalize mkd W1 n = W0 at *
      go_loopw [10, 22] (fun _ j wi => ∃ q : Nat, j = .int .i64 q ∧ q ≤ m ∧ Hid (wi.ownsRow W1.heap.size 3 1 (.slice (some ⟨W1.heap.size, 0, none⟩) n n) n (ils (r0 (X k) q) n) ∧ Below W1.heap.size W1 wi)) (fun _ j _ => m - (intOf j).toNat)
      case atStart => exact ⟨0, rfl, by omega, OW.out, BL.out⟩
      case round =>
        obtain ⟨q, rfl, hq, HIN⟩ := hrel
        by_cases h2 : q < m
        · obtain ⟨b2, off2, rfl, hlt2, hcell2⟩ := HQ.out (by omega)
          have hpl := HPL.out.lim q h2
          obtain ⟨p, hp⟩ : ∃ p : Nat, X k q = (p : Int) := ⟨(X k q).toNat, by omega⟩
          have hpn : p < n := by omega
          have c2 := ((bstep HB.out HIN.out.2).cell (p := ⟨b2, off2 + q, none⟩) hlt2).trans (hcell2 q h2)
          rw [hp] at c2
          have hrow := HIN.out.1
          have HB2 : Hid (Below W1.heap.size W1 wr) := HIN.out.2
          have c4 := hrow.cellAt p (by omega)
          rw [ils_get hpn] at c4
          have fz := hrow.frozenAt p
          have hst := (hrow.stored p (.int .i64 1)).1
          rw [ils_put, r0_put (by omega)] at hst
          have HST : Hid _ := hst
          generalize r0 (X k) q p = z at c4
          clear hcell2 hpl hp hst hrow HIN
          go_wp2
          go_roundw
          case rel => exact ⟨q + 1, by go_num, by omega, HST.out, HB2.out.setCell (Nat.le_refl _) _⟩
          case measure => simp [intOf]; omega
        · obtain rfl : q = m := by omega
          have hB3 := HIN.out.2
          obtain ⟨v', w3, hap, hG, hgw⟩ := app_row (HR.out.call hB3) (own_base HIN.out.1 HB.out.size) (fun i hi => by have := HR.out.gs_lt hi; omega) (by omega) (Nat.le_trans HB.out.size hB3.size)
          have HAP : Hid _ := hap
          have HG3 : Hid (∃ gs cs, Rgr w3 w.heap.size v' (k + 1) n gs cs (fun i => r0 (X i) (ms i))) := ⟨_, _, hG.congr (fun i hi => by
            by_cases e : i = k
            · rw [if_pos e, e, EM.out]
            · rw [if_neg e])⟩
          have B3 : Hid (Below w.heap.size w w3) := grown_below (bstep (bstep HB.out hB3) (below_one _ _)) (Nat.le_refl _) (own_below (HR.out.call hB3).row (below_one _ _)) hgw
          clear hap hG hgw hB3 HIN
          go_wp2_with (at_builtin; refine wpList_appr rfl _ _ rfl rfl rfl rfl HAP.out ?_)
          go_roundw
          case rel => exact ⟨k + 1, by go_num, by omega, HG3.out, B3.out⟩
          case measure => simp [intOf]; omega
    · obtain rfl : k = M := by omega
      go_wp2
      go_ret
      exact ⟨_, rfl, HRL.out.1, HRL.out.2⟩

set_option maxHeartbeats 1000000 in
/-- Which row has a one in a column. -/
theorem red1_any {w : World} {v : Value} {c1 : Addr} {n c : Nat} {f : Nat → Int} (hv : Il w v n f) (hc : w.cell? c1 = some (.int .i64 (c : Int))) (hcn : c < n) : Calls Try.prog 48 #[v, .pointer (some c1)] w fun e w' => e = .returned (.bool (f c == 1)) ∧ w' = w := by
  obtain ⟨ao, cap, rfl, hcap, hx⟩ := hv
  obtain ⟨b, off, rfl, hlt, hcell⟩ := hx (by omega)
  have c0 := hcell c hcn
  generalize f c = y at *
  clear hcell hx
  go_enter Try.func48, Try.ntmps48
  go_wp2
  go_ret
  exact ⟨rfl, rfl⟩

set_option maxHeartbeats 1000000 in
theorem idx_any {w : World} {v : Value} {c1 : Addr} {m n c : Nat} {Y : Nat → Nat → Int} (hv : Ipp w v m (fun _ => n) Y) (hm : m ≤ 64) (hc : w.cell? c1 = some (.int .i64 (c : Int))) (hcn : c < n) (hb : ∀ i, i < m → Bit (Y i c)) :
    Calls Try.prog 47 #[v, .func (.func 48) #[] #[.pointer (some c1)]] w fun e w' => e = .returned (.int .i64 (if fp (fun i => Y i c) m 0 < m then (fp (fun i => Y i c) m 0 : Int) else -1)) ∧ w' = w := by
  obtain ⟨ao, cap, rfl, hcap, hx⟩ := hv
  have HC : Hid (0 < m → ∃ b off, ∃ R : Nat → Value, ao = some ⟨b, off, none⟩ ∧ b < w.heap.size ∧ ∀ k, k < m → w.cell? ⟨b, off + k, none⟩ = some (R k) ∧ Il w (R k) n (Y k)) := hx
  have HBT : Hid (∀ i, i < m → Bit (Y i c)) := hb
  obtain ⟨z, hz⟩ : ∃ z, z = if fp (fun i => Y i c) m 0 < m then (fp (fun i => Y i c) m 0 : Int) else -1 := ⟨_, rfl⟩
  rw [← hz]
  have HZ : Hid (z = if fp (fun i => Y i c) m 0 < m then (fp (fun i => Y i c) m 0 : Int) else -1) := hz
  clear hx hb hz
  go_enter Try.func47, Try.ntmps47
  go_wp2
  go_loopw [5, 8] (fun _ i wr => ∃ k : Nat, i = .int .i64 k ∧ k ≤ m ∧ wr = w ∧ Hid (∀ j, j < k → Y j c = 0)) (fun _ i _ => m - (intOf i).toNat)
  case atStart => exact ⟨0, rfl, by omega, rfl, fun j hj => by omega⟩
  case round =>
    obtain ⟨k, rfl, hk, rfl, hal⟩ := hrel
    by_cases h1 : k < m
    · obtain ⟨b, off, R, rfl, hlt, hcell⟩ := HC.out (by omega)
      obtain ⟨c0, hil⟩ := hcell k h1
      have i1 := red1_any hil hc hcn
      clear hcell hil
      rcases HBT.out k h1 with h0 | h0
      · have HS : Hid (Y k c = 0) := h0
        rw [h0] at i1
        have i2 : Calls Try.prog 48 #[R k, .pointer (some c1)] wr fun e w' => e = .returned (.bool false) ∧ w' = wr := i1
        generalize R k = r at *
        clear h0 i1
        go_wp2_with (go_at_call 48; refine i2.mono ?_; rintro e w' ⟨rfl, hw⟩; obtain rfl := hw.symm)
        go_roundw
        case rel =>
          refine ⟨k + 1, by go_num, by omega, by trivial, fun j hj => ?_⟩
          by_cases hjk : j = k
          · subst hjk; exact HS.out
          · exact hal.out j (by omega)
        case measure => simp [intOf]; omega
      · have HF : Hid (fp (fun i => Y i c) m 0 = k) := fp_eq (Nat.zero_le _) (by omega) (fun j _ hj => hal.out j hj) (.inr (by show Y k c ≠ 0; omega))
        rw [h0] at i1
        have i2 : Calls Try.prog 48 #[R k, .pointer (some c1)] wr fun e w' => e = .returned (.bool true) ∧ w' = wr := i1
        generalize R k = r at *
        clear h0 i1
        go_wp2_with (go_at_call 48; refine i2.mono ?_; rintro e w' ⟨rfl, hw⟩; obtain rfl := hw.symm)
        go_ret
        exact ret1 (by rw [HZ.out, HF.out, if_pos h1]) rfl
    · obtain rfl : k = m := by omega
      have HF : Hid (fp (fun i => Y i c) k 0 = k) := fp_eq (Nat.zero_le _) (by omega) (fun j _ hj => hal.out j hj) (.inl (by omega))
      go_wp2
      go_ret
      exact ret1 (by rw [HZ.out, HF.out, if_neg (Nat.lt_irrefl k)]) rfl

set_option maxHeartbeats 1000000 in
theorem index_any {w : World} {v : Value} {n : Nat} {x : Int} {f : Nat → Int} (hv : Il w v n f) (hn : n ≤ 1048576) : Calls Try.prog 50 #[v, .int .i64 x] w fun e w' => (∃ r : Int, e = .returned (.int .i64 r) ∧ ((0 ≤ r ∧ ∃ k, k < n ∧ f k = x) ∨ (r < 0 ∧ ∀ k, k < n → f k ≠ x))) ∧ w' = w := by
  obtain ⟨ao, cap, rfl, hcap, hc⟩ := hv
  have HC : Hid (0 < n → ∃ b off, ao = some ⟨b, off, none⟩ ∧ b < w.heap.size ∧ ∀ k, k < n → w.cell? ⟨b, off + k, none⟩ = some (.int .i64 (f k))) := hc
  clear hc
  go_enter Try.func50, Try.ntmps50
  go_wp2
  go_loopw [5, 8] (fun _ i wr => ∃ k : Nat, i = .int .i64 k ∧ k ≤ n ∧ wr = w ∧ Hid (∀ j, j < k → f j ≠ x)) (fun _ i _ => n - (intOf i).toNat)
  case atStart => exact ⟨0, rfl, by omega, rfl, fun j hj => by omega⟩
  case round =>
    obtain ⟨k, rfl, hk, rfl, hal⟩ := hrel
    by_cases h1 : k < n
    · obtain ⟨b, off, rfl, hlt, hcell⟩ := HC.out (by omega)
      have c := hcell k h1
      obtain ⟨y, hy⟩ : ∃ y, y = f k := ⟨_, rfl⟩
      rw [← hy] at c
      have HY : Hid (y = f k) := hy
      clear hcell hy
      by_cases he : x = y
      · have hbe : (x == y) = true := by simp [he]
        have HE : Hid (f k = x) := by show f k = x; rw [he, HY.out]
        clear he
        go_wp2
        go_ret
        exact ⟨⟨_, rfl, .inl ⟨by omega, k, h1, HE.out⟩⟩, rfl⟩
      · have hbe : (x == y) = false := by simp [he]
        have HE : Hid (f k ≠ x) := by show f k ≠ x; rw [← HY.out]; exact fun e => he e.symm
        clear he
        go_wp2
        go_roundw
        case rel =>
          refine ⟨k + 1, by go_num, by omega, by trivial, fun j hj => ?_⟩
          by_cases hjk : j = k
          · subst hjk; exact HE.out
          · exact hal.out j (by omega)
        case measure => simp [intOf]; omega
    · obtain rfl : k = n := by omega
      go_wp2
      go_ret
      exact ⟨⟨_, rfl, .inr ⟨by omega, hal.out⟩⟩, rfl⟩

set_option maxHeartbeats 1000000 in
theorem cont_any {w : World} {v : Value} {n : Nat} {x : Int} {f : Nat → Int} (hv : Il w v n f) (hn : n ≤ 1048576) : Calls Try.prog 33 #[v, .int .i64 x] w fun e w' => e = .returned (.bool (yb (∃ k, k < n ∧ f k = x))) ∧ w' = w := by
  have i1 := index_any (x := x) hv hn
  obtain ⟨d, hd⟩ : ∃ d, d = yb (∃ k, k < n ∧ f k = x) := ⟨_, rfl⟩
  rw [← hd]
  have HD : Hid (d = yb (∃ k, k < n ∧ f k = x)) := hd
  clear hd hv
  go_enter Try.func33, Try.ntmps33
  go_wp2_with (go_at_call 50; refine i1.mono ?_; rintro e w' ⟨⟨r, rfl, hr⟩, hw⟩; obtain rfl := hw.symm; have HR : Hid ((0 ≤ r ∧ ∃ k, k < n ∧ f k = x) ∨ (r < 0 ∧ ∀ k, k < n → f k ≠ x)) := hr; clear hr)
  go_ret
  rcases HR.out with ⟨h1, h2⟩ | ⟨h1, h2⟩
  · exact retb (by rw [HD.out, yb_yes h2]; simp [h1]) rfl
  · exact retb (by rw [HD.out, yb_no (fun ⟨k, hk, e⟩ => h2 k hk e)]; simp; omega) rfl
end Go.Proofs.Ytnfhnchomiejcaa

/- Chain: the document's. -/
import Derived.Test.YtmjgaocmmmcnfaaCB
import Derived.Test.YtmjgaocmmmcnfaaIE
namespace Go.Proofs.Ytmjgaocmmmcnfaa
open Go.RowKit

theorem sz_ok : (⟨0, 0, 0, 0, 0⟩ : Se).ok := by
  intro k hk
  match k, hk with
  | 0, _ => exact by decide
  | 1, _ => exact by decide
  | 2, _ => exact by decide
  | 3, _ => exact by decide
  | 4, _ => exact by decide

theorem sMds_any {w : World} {v : Value} {n : Nat} {xs : Nat → Int} (hv : Il w v n xs) (hn : n ≤ 1048576) :
    Calls Try.prog 20 #[.agg #[.int .i64 0, .int .i64 0, .int .i64 0, .int .i64 0, .int .i64 0], .agg #[.int .i64 0, .int .i64 0, .int .i64 0, .int .i64 0, .int .i64 0], v] w fun e w' => e = .returned (.bool (decide (Mds n xs))) ∧ Below w.heap.size w w' := by
  have h := sGI_any (s := ⟨0, 0, 0, 0, 0⟩) (p := pz) hv hn
  rw [show decide (GI ⟨0, 0, 0, 0, 0⟩ pz n xs) = decide (Mds n xs) from decide_eq_decide.2 ⟨fun h => h.2, fun h => ⟨⟨sz_ok, pz_ok⟩, h⟩⟩] at h
  exact h

theorem sI_good {w : World} {v : Value} {n : Nat} {xs : Nat → Int} {s : Se} (hv : Il w v n xs) (hs : s.ok) (hm : Mds n xs) :
    Calls Try.prog 5 #[s.v, .agg #[.int .i64 0, .int .i64 0, .int .i64 0, .int .i64 0, .int .i64 0], v] w fun e w' => ∃ (u : Value) (q : Pa), e = .returned (.tuple #[u, q.v, .bool true]) ∧ w'.ownsRow w.heap.size 3 1 u n (ils (irs s pz xs) n) ∧ Below w.heap.size w w' := by
  have h := sIir_good (s := s) (p := pz) hv ⟨⟨hs, pz_ok⟩, hm⟩
  refine h.mono ?_
  rintro e w' ⟨u, rfl, h1, h2⟩
  exact ⟨u, _, rfl, h1, h2⟩

theorem sI_bad {w : World} {v : Value} {n : Nat} {xs : Nat → Int} {s : Se} (hv : Il w v n xs) (hn : n ≤ 1048576) (hs : ¬ s.ok) :
    Calls Try.prog 5 #[s.v, .agg #[.int .i64 0, .int .i64 0, .int .i64 0, .int .i64 0, .int .i64 0], v] w fun e w' => ∃ (u : Value) (q : Pa), e = .returned (.tuple #[u, q.v, .bool false]) ∧ Below w.heap.size w w' := by
  have h := sIir_bad (s := s) (p := pz) hv hn (fun h => hs h.1.1) xs
  refine h.mono ?_
  rintro e w' ⟨u, rfl, _, h2⟩
  exact ⟨u, _, rfl, h2⟩

theorem chn_mds {ss : Nat → Se} {xs : Nat → Int} {N : Nat} (h : Mds N xs) (k : Nat) : Mds N (chn ss xs k) := ⟨h.1, chn_wth h.2 k⟩

set_option maxHeartbeats 4000000 in
theorem sChain_any {w : World} {lv v : Value} {n N B : Nat} {ss : Nat → Se} {xs : Nat → Int} (hl : Il5 w lv n ss) (hv : w.ownsRow B 3 1 v N (ils xs N)) (h64 : n ≤ 64) (hm : Mds N xs)
    : Calls Try.prog 15 #[lv, v] w fun e w' => ((∀ q, q < n → (ss q).ok) ∧ Pch w w' e N (chn ss xs n) true) ∨ ((∃ q, q < n ∧ ¬ (ss q).ok) ∧ Pch w w' e 0 xs false) := by
  have hn : N ≤ 1048576 := Nat.le_trans hm.1 (by omega)
  have HM : Hid (Mds N xs) := hm
  have HV : Hid (w.ownsRow B 3 1 v N (ils xs N)) := hv
  have i3 := sMds_any (il_of_own hv) hn
  rw [decide_eq_true hm] at i3
  obtain ⟨ao, cap, rfl, hcap, hc⟩ := hl
  have HC : Hid (0 < n → ∃ b off, ao = some ⟨b, off, none⟩ ∧ b < w.heap.size ∧ ∀ k, k < n → w.cell? ⟨b, off + k * 5, none⟩ = some (.int .i64 (ss k).b0) ∧ w.cell? ⟨b, off + k * 5 + 1, none⟩ = some (.int .i64 (ss k).b1) ∧ w.cell? ⟨b, off + k * 5 + 2, none⟩ = some (.int .i64 (ss k).b2) ∧ w.cell? ⟨b, off + k * 5 + 3, none⟩ = some (.int .i64 (ss k).a1) ∧ w.cell? ⟨b, off + k * 5 + 4, none⟩ = some (.int .i64 (ss k).a2)) := hc
  clear hc hm hv
  go_enter Try.func15, Try.ntmps15
  go_upto_region 3 with (go_at_call 20; (with_reducible refine i3.mono ?_); rintro e w1 ⟨rfl, hb1⟩; have B1 : Hid (Below w.heap.size w w1) := hb1; clear hb1)
  have bE : Below w1.heap.size w1 (w1.alloc (.cells #[] 3)) := below_one _ _
  have sE : (w1.alloc (.cells #[] 3)).heap.size = w1.heap.size + 1 := by simp
  obtain ⟨v1, w10, hap1, ho1, hg1⟩ := app_run (own_empty w1 3 1) (own_below (own_below HV.out B1.out) bE) (by omega) (by omega)
  have b10 : Below w1.heap.size w1 w10 := grown_below bE (Nat.le_refl _) (own_empty w1 3 1) hg1
  have HAP1 : Hid _ := hap1
  have O1 : Hid (w10.ownsRow w.heap.size 3 1 v1 N (ils xs N)) := by
    rw [Nat.zero_add] at ho1
    exact own_base ho1 B1.out.size
  have B10 : Hid (Below w.heap.size w w10) := bstep B1.out b10
  clear bE sE ho1 hg1 b10 hap1
  go_wp2_with (at_builtin; refine wpList_appg rfl _ _ rfl rfl rfl rfl HAP1.out ?_)
  clear HAP1
  go_loopw [6, 7] (fun u i wr => ∃ j : Nat, i = .int .i64 j ∧ j ≤ n ∧ Hid (wr.ownsRow w.heap.size 3 1 u N (ils (chn ss xs j) N) ∧ Below w.heap.size w wr ∧ ∀ q, q < j → (ss q).ok)) (fun _ i _ => n - (intOf i).toNat)
  case atStart => exact ⟨0, rfl, by omega, O1.out, B10.out, fun q hq => by omega⟩
  case round =>
    obtain ⟨j, rfl, hj, hrel⟩ := hrel
    obtain ⟨hO, hB, hK⟩ := hrel.out
    have HO : Hid (wr.ownsRow w.heap.size 3 1 u6 N (ils (chn ss xs j) N)) := hO
    have HB : Hid (Below w.heap.size w wr) := hB
    have HK : Hid (∀ q, q < j → (ss q).ok) := hK
    clear hrel hO hK
    by_cases h2 : j < n
    · obtain ⟨b, off, rfl, hlt, hcell⟩ := HC.out (by omega)
      have hb := hB
      obtain ⟨c0, c1, c2, c3, c4⟩ := hcell j h2
      obtain ⟨c0, c1, c2, c3, c4⟩ : wr.cell? ⟨b, off + j * 5, none⟩ = some (.int .i64 (ss j).b0) ∧ wr.cell? ⟨b, off + j * 5 + 1, none⟩ = some (.int .i64 (ss j).b1) ∧ wr.cell? ⟨b, off + j * 5 + 2, none⟩ = some (.int .i64 (ss j).b2) ∧ wr.cell? ⟨b, off + j * 5 + 3, none⟩ = some (.int .i64 (ss j).a1) ∧ wr.cell? ⟨b, off + j * 5 + 4, none⟩ = some (.int .i64 (ss j).a2) := ⟨(hb.cell (p := ⟨b, off + j * 5, none⟩) hlt).trans c0, (hb.cell (p := ⟨b, off + j * 5 + 1, none⟩) hlt).trans c1, (hb.cell (p := ⟨b, off + j * 5 + 2, none⟩) hlt).trans c2, (hb.cell (p := ⟨b, off + j * 5 + 3, none⟩) hlt).trans c3, (hb.cell (p := ⟨b, off + j * 5 + 4, none⟩) hlt).trans c4⟩
      clear hcell hlt hb hB
      by_cases ho : (ss j).ok
      · have HK2 : Hid (∀ q, q < j + 1 → (ss q).ok) := fun q hq => by
          by_cases e : q = j
          · rw [e]; exact ho
          · exact HK.out q (by omega)
        have i5 := sI_good (s := ss j) (il_of_own HO.out) ho (chn_mds HM.out j)
        clear ho
        go_wp2_with (go_at_call 5; (with_reducible refine i5.mono ?_); rintro e w3 ⟨u, q, rfl, h5, h7⟩; have O3 : Hid ((w3.alloc (.cells #[.int .i64 q.x1, .int .i64 q.x2, .int .i64 q.y1, .int .i64 q.y2, .int .i64 q.e] 27)).ownsRow w.heap.size 3 1 u N (ils (chn ss xs (j + 1)) N)) := own_base (own_below h5 (below_one _ _)) HB.out.size; have B3 : Hid (Below w.heap.size w (w3.alloc (.cells #[.int .i64 q.x1, .int .i64 q.x2, .int .i64 q.y1, .int .i64 q.y2, .int .i64 q.e] 27))) := bstep (bstep HB.out h7) (below_one _ _); clear h5 h7)
        go_roundw
        case rel => exact ⟨j + 1, by go_num, by omega, O3.out, B3.out, HK2.out⟩
        case measure => simp [intOf]; omega
      · have HX : Hid (∃ q, q < n ∧ ¬ (ss q).ok) := ⟨j, h2, ho⟩
        have i5 := sI_bad (s := ss j) (il_of_own HO.out) hn ho
        clear ho
        go_wp2_with (go_at_call 5; (with_reducible refine i5.mono ?_); rintro e w3 ⟨u, q, rfl, h7⟩; have B3 : Hid (Below w.heap.size w (w3.alloc (.cells #[.int .i64 q.x1, .int .i64 q.x2, .int .i64 q.y1, .int .i64 q.y2, .int .i64 q.e] 27))) := bstep (bstep HB.out h7) (below_one _ _); clear h7)
        refine bodyPost_ret (v := .tuple #[.slice (some ⟨w3.heap.size + 1, 0, none⟩) 0 0, .bool false]) (by simp [results, Try.results15, go_sem]) rfl ?_
        have hz := own_base (nil_own (w3.alloc (.cells #[.int .i64 q.x1, .int .i64 q.x2, .int .i64 q.y1, .int .i64 q.y2, .int .i64 q.e] 27)) xs) B3.out.size
        rw [show (w3.alloc (.cells #[.int .i64 q.x1, .int .i64 q.x2, .int .i64 q.y1, .int .i64 q.y2, .int .i64 q.e] 27)).heap.size = w3.heap.size + 1 by simp] at hz
        exact .inr ⟨HX.out, _, rfl, hz, bstep B3.out (below_one _ _)⟩
    · obtain rfl : j = n := by omega
      go_wp2
      refine bodyPost_ret (v := .tuple #[u6, .bool true]) (by simp [results, Try.results15, go_sem]) rfl ?_
      exact .inl ⟨HK.out, _, rfl, HO.out, HB.out⟩

set_option maxHeartbeats 2000000 in
theorem sChain_no {w : World} {lv v : Value} {n N B : Nat} {ss : Nat → Se} {xs : Nat → Int} (hl : Il5 w lv n ss) (hv : w.ownsRow B 3 1 v N (ils xs N)) (hn : N ≤ 1048576) (hn2 : n ≤ 1048576) (hg : ¬ (n ≤ 64 ∧ Mds N xs)) (ys : Nat → Int) :
    Calls Try.prog 15 #[lv, v] w fun e w' => Pch w w' e 0 ys false := by
  have i3 := sMds_any (il_of_own hv) hn
  obtain ⟨ao, cap, rfl, hcap, hc⟩ := hl
  clear hc hv
  by_cases h64 : n ≤ 64
  · rw [decide_eq_false (fun hm => hg ⟨h64, hm⟩)] at i3
    clear hg
    go_enter Try.func15, Try.ntmps15
    go_wp2_with (go_at_call 20; (with_reducible refine i3.mono ?_); rintro e w1 ⟨rfl, hb1⟩; have B1 : Hid (Below w.heap.size w w1) := hb1; clear hb1)
    refine bodyPost_ret (v := .tuple #[.slice (some ⟨w1.heap.size, 0, none⟩) 0 0, .bool false]) (by simp [results, Try.results15, go_sem]) rfl ?_
    exact ⟨_, rfl, own_base (nil_own w1 ys) B1.out.size, bstep B1.out (below_one _ _)⟩
  · clear hg i3
    go_enter Try.func15, Try.ntmps15
    go_wp2
    refine bodyPost_ret (v := .tuple #[.slice (some ⟨w.heap.size, 0, none⟩) 0 0, .bool false]) (by simp [results, Try.results15, go_sem]) rfl ?_
    exact ⟨_, rfl, nil_own w ys, below_one _ _⟩

theorem sChain_good {w : World} {lv v : Value} {n N B : Nat} {ss : Nat → Se} {xs : Nat → Int} (hl : Il5 w lv n ss) (hv : w.ownsRow B 3 1 v N (ils xs N)) (hg : GC ss n N xs) :
    Calls Try.prog 15 #[lv, v] w fun e w' => Pch w w' e N (chn ss xs n) true :=
  (sChain_any hl hv hg.1 hg.2.1).mono fun _ _ h => h.elim (fun h => h.2) (fun ⟨⟨q, h1, h2⟩, _⟩ => absurd (hg.2.2 q h1) h2)

theorem sChain_bad {w : World} {lv v : Value} {n N B : Nat} {ss : Nat → Se} {xs : Nat → Int} (hl : Il5 w lv n ss) (hv : w.ownsRow B 3 1 v N (ils xs N)) (hn : N ≤ 1048576) (hn2 : n ≤ 1048576) (hg : ¬ GC ss n N xs) :
    Calls Try.prog 15 #[lv, v] w fun e w' => Pch w w' e 0 xs false := by
  by_cases h : n ≤ 64 ∧ Mds N xs
  · exact (sChain_any hl hv h.1 h.2).mono fun _ _ h' => h'.elim (fun hk => absurd ⟨h.1, h.2, hk.1⟩ hg) (fun h => h.2)
  · exact sChain_no hl hv hn hn2 h xs
end Go.Proofs.Ytmjgaocmmmcnfaa

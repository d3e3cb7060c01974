/- What is left behind a list; a line run through a whole list. -/
import Derived.Test.YthfmcfgnegfkdaaFF
import Derived.Test.YthfmcfgnegfkdaaRC
import Derived.Deep.Cut
namespace Go.Proofs.Ythfmcfgnegfkdaa
open Go.RowKit

/-- The state behind a list of N. -/
def bhd (N : Nat) (z ys : Nat → Int) (i : Nat) : Int := if i < N then ys (N - 1 - i) else z (i - N)

set_option maxHeartbeats 2000000 in
theorem behind_any {w : World} {sv lv : Value} {m N : Nat} {z ys : Nat → Int} (hs : Il w sv m z) (hl : Il w lv N ys) (hm : m ≤ 64) (hN : N ≤ 1048576) :
    Calls Try.prog 54 #[sv, lv] w fun e w' => ∃ u, e = .returned u ∧ w'.ownsRow w.heap.size 3 1 u m (ils (bhd N z ys) m) ∧ Below w.heap.size w w' := by
  obtain ⟨so, sc, rfl, hsc, hc1⟩ := hs
  obtain ⟨lo, lc, rfl, hlc, hc2⟩ := hl
  have HC1 : Hid (0 < m → ∃ b off, so = some ⟨b, off, none⟩ ∧ b < w.heap.size ∧ ∀ k, k < m → w.cell? ⟨b, off + k, none⟩ = some (.int .i64 (z k))) := hc1
  have HC2 : Hid (0 < N → ∃ b off, lo = some ⟨b, off, none⟩ ∧ b < w.heap.size ∧ ∀ k, k < N → w.cell? ⟨b, off + k, none⟩ = some (.int .i64 (ys k))) := hc2
  have HO : Hid ((mkd w m).ownsRow w.heap.size 3 1 (.slice (some ⟨w.heap.size, 0, none⟩) m m) m (ils (upz (bhd N z ys) 0) m)) := by
    show (mkd w m).ownsRow w.heap.size 3 1 (.slice (some ⟨w.heap.size, 0, none⟩) m m) m (ils (upz (bhd N z ys) 0) m)
    rw [upz_zero]; exact mkd_own w (by omega) (Nat.le_refl _)
  have HB : Hid (Below w.heap.size w (mkd w m)) := mkd_below w m
  have hmk := fun W => mkd_run W (k := m) (by omega)
  clear hc1 hc2
  go_enter Try.func54, Try.ntmps54
  go_wp2
  clear hmk
  generalize hT0 : w.heap.size = T0 at *
  have HT0 : Hid (w.heap.size = T0) := hT0
  clear hT0
  generalize mkd w m = W0 at HO HB ⊢
  go_loopw [6, 12] (fun _ i wr => ∃ k : Nat, i = .int .i64 k ∧ k ≤ m ∧ Hid (wr.ownsRow T0 3 1 (.slice (some ⟨T0, 0, none⟩) m m) m (ils (upz (bhd N z ys) k) m) ∧ Below T0 w wr)) (fun _ i _ => m - (intOf i).toNat)
  case atStart => exact ⟨0, rfl, by omega, HO.out, HB.out⟩
  case round =>
    obtain ⟨k, rfl, hk, hrel⟩ := hrel
    by_cases h1 : k < m
    · have d0 := World.ownsRow.cellAt hrel.out.1 k (by omega)
      rw [ils_get h1] at d0
      have z0 := World.ownsRow.frozenAt hrel.out.1 k
      have O1 : Hid ((wr.setCell ⟨T0, k, none⟩ (.int .i64 (bhd N z ys k))).ownsRow T0 3 1 (.slice (some ⟨T0, 0, none⟩) m m) m (ils (upz (bhd N z ys) (k + 1)) m)) := by
        have := (World.ownsRow.stored hrel.out.1 k (.int .i64 (bhd N z ys k))).1
        rw [upz_put] at this
        exact this
      have B1 : Hid (Below T0 w (wr.setCell ⟨T0, k, none⟩ (.int .i64 (bhd N z ys k)))) := hrel.out.2.setCell (p := ⟨T0, k, none⟩) (Nat.le_refl _) _
      by_cases h2 : k < N
      · obtain ⟨b, off, rfl, hlt, hcell⟩ := HC2.out (by omega)
        obtain ⟨q0, hq0⟩ : ∃ q0, q0 = N - 1 - k := ⟨_, rfl⟩
        have e1 : (N : Int) - 1 - (k : Int) = (q0 : Int) := by omega
        have hq1 : q0 < N := by omega
        have c1 := (hrel.out.2.cell (p := ⟨b, off + q0, none⟩) hlt).trans (hcell q0 hq1)
        have e2 : bhd N z ys k = ys q0 := by unfold bhd; rw [if_pos h2, hq0]
        rw [e2] at O1 B1
        clear hcell hq0 hrel e2
        generalize ys q0 = y0 at c1 O1 B1
        go_wp2
        go_roundw
        case rel => exact ⟨k + 1, by go_num, by omega, O1.out, B1.out⟩
        case measure => simp [intOf]; omega
      · obtain ⟨b, off, rfl, hlt, hcell⟩ := HC1.out (by omega)
        obtain ⟨q0, hq0⟩ : ∃ q0, q0 = k - N := ⟨_, rfl⟩
        have e1 : (k : Int) - (N : Int) = (q0 : Int) := by omega
        have hq1 : q0 < m := by omega
        have c1 := (hrel.out.2.cell (p := ⟨b, off + q0, none⟩) hlt).trans (hcell q0 hq1)
        have e2 : bhd N z ys k = z q0 := by unfold bhd; rw [if_neg h2, hq0]
        rw [e2] at O1 B1
        clear hcell hq0 hrel e2
        generalize z q0 = y0 at c1 O1 B1
        go_wp2
        go_roundw
        case rel => exact ⟨k + 1, by go_num, by omega, O1.out, B1.out⟩
        case measure => simp [intOf]; omega
    · obtain rfl : m = k := by omega
      have HF : Hid (wr.ownsRow T0 3 1 (.slice (some ⟨T0, 0, none⟩) m m) m (ils (bhd N z ys) m)) := by have := hrel.out.1; rw [upz_full] at this; exact this
      go_wp2
      go_ret
      exact ⟨_, rfl, by rw [HT0.out]; exact HF.out, by rw [HT0.out]; exact hrel.out.2⟩

theorem bhd_pst (st xs : Nat → Int) {r N : Nat} (hr : r ≤ N) (i : Nat) : bhd (N - r) (pst st xs r) (fun j => xs (r + j)) i = pst st xs N i := by
  unfold bhd
  rw [pst_at st xs N i]
  by_cases h : i < N - r
  · rw [if_pos h, if_pos (by omega)]
    show xs (r + (N - r - 1 - i)) = xs (N - 1 - i)
    congr 1; omega
  · rw [if_neg h, pst_at st xs r]
    by_cases h1 : i < N
    · rw [if_pos (by omega), if_pos h1]
      congr 1; omega
    · rw [if_neg (by omega), if_neg h1]
      congr 1; omega

theorem fir_far (T : Nat) (f st xs : Nat → Int) {k : Nat} (hk : T ≤ k + 1) : fir T f st xs k = dts f (fun j => xs (k - j)) T := by
  unfold fir
  have e : ∀ n, n ≤ T → dts f (shf (xs k) (pst st xs k)) n = dts f (fun j => xs (k - j)) n := by
    intro n
    induction n with
    | zero => intro _; rfl
    | succ n ih =>
      intro hn
      unfold dts
      rw [ih (by omega)]
      congr 2
      unfold shf
      by_cases h : n = 0
      · subst h; simp
      · rw [if_neg h, pst_at, if_pos (by omega)]
        congr 1; omega
  exact e T (Nat.le_refl _)

/-- A list cut at its beginning. -/
theorem il_hi {w : World} {lo : Option Addr} {N lc r : Nat} {xs : Nat → Int} (h : Il w (.slice lo N lc) N xs) (hr : r ≤ N) (ao : Option Addr) (hao : r < N → ∀ b off, lo = some ⟨b, off, none⟩ → ao = some ⟨b, off + r, none⟩) : Il w (.slice ao (N - r) (lc - r)) (N - r) (fun j => xs (r + j)) := by
  obtain ⟨lo', lc', e, hcap, hc⟩ := h
  injection e with e1 _ e3
  subst e1 e3
  refine ⟨ao, lc - r, rfl, by omega, fun h0 => ?_⟩
  obtain ⟨b, off, hlo, hlt, hcell⟩ := hc (by omega)
  refine ⟨b, off + r, hao (by omega) b off hlo, hlt, fun k hk => ?_⟩
  rw [show off + r + k = off + (r + k) by omega]
  exact hcell (r + k) (by omega)

/-- What stands while the line goes over a list. -/
structure Wq (w W : World) (A B : Nat) (tv pv lv : Value) (n m N : Nat) (f z xs g : Nat → Int) : Prop where
  ln : Ln W A tv pv
  tp : Il W tv n f
  ps : W.ownsRow B 3 1 pv m (ils z m)
  to : W.ownsRow w.heap.size 3 1 (.slice (some ⟨w.heap.size, 0, none⟩) N N) N (ils g N)
  li : Il W lv N xs
  kd : Kd (Blk pv) w W

theorem Wq.step {w W W' : World} {A B : Nat} {tv pv lv : Value} {n m N : Nat} {f z z' xs g : Nat → Int} (h : Wq w W A B tv pv lv n m N f z xs g) (hk : Kd (Blk pv) W W') (hp : W'.ownsRow B 3 1 pv m (ils z' m)) (hA : ¬ Blk pv A) (hT : ¬ Blk pv w.heap.size)
    (htb : 0 < n → ∀ b off n' c, tv = .slice (some ⟨b, off, none⟩) n' c → ¬ Blk pv b) (hlb : 0 < N → ∀ b off n' c, lv = .slice (some ⟨b, off, none⟩) n' c → ¬ Blk pv b) : Wq w W' A B tv pv lv n m N f z' xs g :=
  ⟨h.ln.block (hk.block A h.ln.lt hA), h.tp.kd hk htb, hp, own_kd h.to hk (fun q hq hd => by have e : w.heap.size = q := Option.some.inj hq; subst e; exact hT hd), h.li.kd hk hlb, h.kd.trans hk⟩

theorem Wq.below {w W W' : World} {A B : Nat} {tv pv lv : Value} {n m N : Nat} {f z xs g : Nat → Int} (h : Wq w W A B tv pv lv n m N f z xs g) (hb : Below W.heap.size W W') : Wq w W' A B tv pv lv n m N f z xs g :=
  ⟨h.ln.block (hb.block A h.ln.lt), h.tp.below hb, own_below h.ps hb, own_below h.to hb, h.li.below hb, h.kd.trans (Kd.of_below hb)⟩

theorem Wq.told {w W : World} {A B : Nat} {tv pv lv : Value} {n m N k : Nat} {f z xs g : Nat → Int} (h : Wq w W A B tv pv lv n m N f z xs (upz g k)) (hA : A ≠ w.heap.size) (hT : ¬ Blk pv w.heap.size)
    (htb : 0 < n → ∀ b off n' c, tv = .slice (some ⟨b, off, none⟩) n' c → b ≠ w.heap.size) (hlb : 0 < N → ∀ b off n' c, lv = .slice (some ⟨b, off, none⟩) n' c → b ≠ w.heap.size) : Wq w (W.setCell ⟨w.heap.size, k, none⟩ (.int .i64 (g k))) A B tv pv lv n m N f z xs (upz g (k + 1)) := by
  have kd : Kd (fun q => q = w.heap.size) W (W.setCell ⟨w.heap.size, k, none⟩ (.int .i64 (g k))) := (Kd.refl (fun q => q = w.heap.size) W).put (.inl rfl) k _
  have st := (World.ownsRow.stored h.to k (.int .i64 (g k))).1
  rw [upz_put] at st
  exact ⟨h.ln.block (kd.block A h.ln.lt hA), h.tp.kd kd htb, own_kd h.ps kd (fun q hq hd => hT (by rw [← hd]; exact hq)), st, h.li.kd kd hlb, h.kd.put (.inr (Nat.le_refl _)) k _⟩

set_option maxRecDepth 20000 in
set_option maxHeartbeats 4000000 in
theorem whole_any {w : World} {A B n m tc N lc : Nat} {ao lo : Option Addr} {pv : Value} {f st xs : Nat → Int} (h : Ln w A (.slice ao n tc) pv) (ht : Il w (.slice ao n tc) n f) (hp : w.ownsRow B 3 1 pv m (ils st m)) (hl : Il w (.slice lo N lc) N xs) (hmn : m + 1 = n) (hn : n ≤ 64) (hN : N ≤ 512) (hA : ¬ Blk pv A)
    (htb : 0 < n → ∀ b off n' c, (Value.slice ao n tc) = .slice (some ⟨b, off, none⟩) n' c → ¬ Blk pv b) (hlb : 0 < N → ∀ b off n' c, (Value.slice lo N lc) = .slice (some ⟨b, off, none⟩) n' c → ¬ Blk pv b) (hf : Wth 1000000 n f) (hz : Wth 1000000000 m st) (hx : Wth 1000000000 N xs) :
    Calls Try.prog 49 #[.pointer (some ⟨A, 0, none⟩), .slice lo N lc] w fun e w' => ∃ u pv', e = .returned u ∧ w'.ownsRow w.heap.size 3 1 u N (ils (fir n f st xs) N) ∧ w'.ownsRow w.heap.size 3 1 pv' m (ils (pst st xs N) m) ∧ Apart u pv' ∧ Ln w' A (.slice ao n tc) pv' ∧ Kd (fun k => Blk pv k ∨ k = A) w w' := by
  have hAl := h.lt
  have GL : ∀ g, Blk pv g → g < w.heap.size := fun g hg => (World.ownsRow.lt hp g hg).2
  have hT : ¬ Blk pv w.heap.size := fun e => by have := GL _ e; omega
  have HTB : Hid (0 < n → ∀ b off n' c, (Value.slice ao n tc) = .slice (some ⟨b, off, none⟩) n' c → ¬ Blk pv b) := htb
  have HLB : Hid (0 < N → ∀ b off n' c, (Value.slice lo N lc) = .slice (some ⟨b, off, none⟩) n' c → ¬ Blk pv b) := hlb
  have HTS : Hid (0 < n → ∀ b off n' c, (Value.slice ao n tc) = .slice (some ⟨b, off, none⟩) n' c → b ≠ w.heap.size) := fun h0 b off n' c e => by
    obtain ⟨a', c', e1, _, hc⟩ := ht
    obtain ⟨b', o', e2, hlt, _⟩ := hc h0
    injection e with e3
    injection e1 with e4
    rw [e4, e2] at e3
    injection e3 with e5
    injection e5 with e6
    omega
  have HLS : Hid (0 < N → ∀ b off n' c, (Value.slice lo N lc) = .slice (some ⟨b, off, none⟩) n' c → b ≠ w.heap.size) := fun h0 b off n' c e => by
    have := hl.at h0 e
    omega
  have hb0 := mkd_below w N
  have W0 : Hid (Wq w (mkd w N) A B (.slice ao n tc) pv (.slice lo N lc) n m N f (pst st xs 0) xs (upz (fir n f st xs) 0)) :=
    ⟨h.block (hb0.block A hAl), ht.below hb0, own_below hp hb0, by rw [upz_zero]; exact mkd_own w (by omega) (Nat.le_refl _), hl.below hb0, Kd.of_below hb0⟩
  have hmk := fun W => mkd_run W (k := N) (by omega)
  obtain ⟨po, pc, rfl⟩ : ∃ po pc, pv = .slice po m pc := by
    rcases hp.2 with ⟨rfl, rfl⟩ | ⟨g, c, cur, rfl, _⟩
    · exact ⟨_, _, rfl⟩
    · exact ⟨_, _, rfl⟩
  obtain ⟨r, hr⟩ : ∃ r, r = min m N := ⟨_, rfl⟩
  have HR : Hid (r = min m N) := hr
  have HF : Hid (Wth 1000000 n f) := hf
  have HZ : Hid (Wth 1000000000 m st) := hz
  have HX : Hid (Wth 1000000000 N xs) := hx
  have hN1 : A ≠ w.heap.size := by omega
  clear h ht hp hl htb hlb hf hz hx hb0 hr
  go_enter Try.func49, Try.ntmps49
  go_upto_region 2 with fail
  clear hmk
  generalize mkd w N = V0 at W0 ⊢
  go_cut [6] from 12 (fun v wx => v = .int .i64 (r : Int) ∧ wx = V0)
  case first =>
    obtain ⟨c0, c1, _⟩ := W0.out.ln
    go_wp2
    all_goals go_meet
    all_goals exact ⟨by congr 1; have := HR.out; omega, rfl⟩
  case rest =>
  obtain ⟨rfl, rfl⟩ := hcut
  go_wp2
  go_loopw [7, 21] (fun _ i wr => ∃ k : Nat, i = .int .i64 k ∧ k ≤ r ∧ Hid (Wq w wr A B (.slice ao n tc) (.slice po m pc) (.slice lo N lc) n m N f (pst st xs k) xs (upz (fir n f st xs) k))) (fun _ i _ => r - (intOf i).toNat)
  case atStart => exact ⟨0, rfl, by omega, W0.out⟩
  case round =>
    obtain ⟨k, rfl, hk, hrel⟩ := hrel
    by_cases h1 : k < r
    · have hkN : k < N := by have := HR.out; omega
      obtain ⟨lo', lc', e1, _, hc2⟩ := hrel.out.li
      injection e1 with e3 _ e4
      subst e3 e4
      obtain ⟨b, off, rfl, hlt, hcell⟩ := hc2 (by omega)
      have c1 := hcell k hkN
      have WQ : Hid (Wq w wr A B (.slice ao n tc) (.slice po m pc) (.slice (some ⟨b, off, none⟩) N lc) n m N f (pst st xs k) xs (upz (fir n f st xs) k)) := hrel.out
      have i1 := lStep (x := xs k) WQ.out.ln WQ.out.tp WQ.out.ps hmn hn hA HF.out (pst_wth HZ.out HX.out (by omega)) (HX.out k hkN)
      have HFK : Hid (fir n f st xs k = dts f (shf (xs k) (pst st xs k)) n) := rfl
      rw [← HFK.out] at i1
      have HPK : Hid (pst st xs (k + 1) = shf (xs k) (pst st xs k)) := rfl
      rw [← HPK.out] at i1
      clear hc2 hcell hrel HFK HPK
      go_wp2_with (first
        | (go_at_call 48; (with_reducible refine i1.mono ?_); rintro e w1 ⟨rfl, h3, h4⟩; have WQ1 : Hid (Wq w w1 A B (.slice ao n tc) (.slice po m pc) (.slice (some ⟨b, off, none⟩) N lc) n m N f (pst st xs (k + 1)) xs (upz (fir n f st xs) k)) := WQ.out.step h4 h3 hA hT HTB.out HLB.out; clear h3 h4; have d0 := World.ownsRow.cellAt WQ1.out.to k (by omega); rw [ils_get hkN] at d0; have z0 := World.ownsRow.frozenAt WQ1.out.to k))
      go_roundw
      case rel => exact ⟨k + 1, by go_num, by omega, WQ1.out.told hN1 hT HTS.out HLS.out⟩
      case measure => simp [intOf]; omega
    · obtain rfl : r = k := by omega
      rename World => V1
      have W1 : Hid (Wq w V1 A B (.slice ao n tc) (.slice po m pc) (.slice lo N lc) n m N f (pst st xs r) xs (upz (fir n f st xs) r)) := hrel.out
      have hrN : r ≤ N := by have := HR.out; omega
      clear hrel W0
      go_wp2
      go_loopw [8] (fun i wr => ∃ k : Nat, i = .int .i64 k ∧ r ≤ k ∧ k ≤ N ∧ Hid (Wq w wr A B (.slice ao n tc) (.slice po m pc) (.slice lo N lc) n m N f (pst st xs r) xs (upz (fir n f st xs) k))) (fun i _ => N - (intOf i).toNat)
      case atStart => exact ⟨r, rfl, Nat.le_refl _, hrN, W1.out⟩
      case round =>
      obtain ⟨k, rfl, hrk, hk, hrel⟩ := hrel
      by_cases h1 : k < N
      · have WQ : Hid (Wq w wr A B (.slice ao n tc) (.slice po m pc) (.slice lo N lc) n m N f (pst st xs r) xs (upz (fir n f st xs) k)) := hrel.out
        have hnk : n ≤ k + 1 := by have := HR.out; omega
        have i1 := sumAt_any WQ.out.ln WQ.out.tp WQ.out.li hnk h1 hn hN HF.out HX.out
        rw [← fir_far n f st xs hnk] at i1
        clear hrel
        go_wp2_with (first
          | (go_at_call 53; (with_reducible refine i1.mono ?_); rintro e w1 ⟨rfl, h3⟩; have WQ1 : Hid (Wq w w1 A B (.slice ao n tc) (.slice po m pc) (.slice lo N lc) n m N f (pst st xs r) xs (upz (fir n f st xs) k)) := WQ.out.below h3; clear h3; have d0 := World.ownsRow.cellAt WQ1.out.to k (by omega); rw [ils_get h1] at d0; have z0 := World.ownsRow.frozenAt WQ1.out.to k))
        go_roundw
        case rel => exact ⟨k + 1, by go_num, by omega, by omega, WQ1.out.told hN1 hT HTS.out HLS.out⟩
        case measure => simp [intOf]; omega
      · obtain rfl : N = k := by omega
        rename World => V2
        have W2 : Hid (Wq w V2 A B (.slice ao n tc) (.slice po m pc) (.slice lo N lc) n m N f (pst st xs r) xs (upz (fir n f st xs) N)) := hrel.out
        clear hrel W1
        obtain ⟨ao', hao⟩ : ∃ ao' : Option Addr, ao' = (if lc = r then lo else lo.map (fun a => a.add r)) := ⟨_, rfl⟩
        have E7 : Hid ((r : Int) ≤ (N : Int) ∧ (N : Int) ≤ (lc : Int)) := by
          obtain ⟨_, _, e, hcap, _⟩ := W2.out.li
          injection e with _ _ e3
          show (r : Int) ≤ (N : Int) ∧ (N : Int) ≤ (lc : Int)
          omega
        have HAO : Hid (r < N → ∀ b off, lo = some ⟨b, off, none⟩ → ao' = some ⟨b, off + r, none⟩) := by
          intro h0 b off e
          have := E7.out
          rw [hao, if_neg (by omega), e]
          simp [Addr.add]
        have HGL : Hid (∀ g, Blk (.slice po m pc) g → g < w.heap.size) := GL
        have HHT : Hid (¬ Blk (.slice po m pc) w.heap.size) := hT
        have HHA : Hid (¬ Blk (.slice po m pc) A) := hA
        have HMN : Hid (m + 1 = n) := hmn
        have HRN : Hid (r ≤ N) := hrN
        clear GL hT hA hmn hk hrk
        go_upto_region 12 with fail
        refine wp_region_any (by kernel_rfl) ?_
        change wpAny _ _ _ _ _ _ _ (World.drew _)
        refine wpI_any (I := fun _ => True) _ _ _ _ ?_
        refine wpI_take (i := 0) (v := ?_) rfl (by kernel_rfl) (by kernel_rfl) (by kernel_rfl) (fun _ _ _ h => h) ⟨by rfl, ?_⟩ ?_
        rotate_left
        · intro X hI; go_simp; try go_bits
          try rw [if_pos (by omega)]
          try with_reducible rfl
        refine wpI_take (i := 1) (v := ?_) rfl (by kernel_rfl) (by kernel_rfl) (by kernel_rfl) (fun _ _ _ h => h) ⟨by rfl, ?_⟩ ?_
        rotate_left
        · intro X hI; go_simp; try go_bits
          try rw [if_pos (by omega)]
          try with_reducible rfl
        refine wpI_take (i := 2) (v := ?_) rfl (by kernel_rfl) (by kernel_rfl) (by kernel_rfl) (fun _ _ _ h => h) ⟨by rfl, ?_⟩ ?_
        rotate_left
        · intro X hI; go_simp; try go_bits
          try rw [if_pos (by omega)]
          try with_reducible rfl
        refine wpI_take (i := 3) (v := ?_) rfl (by kernel_rfl) (by kernel_rfl) (by kernel_rfl) (fun _ _ _ h => h) ⟨by rfl, ?_⟩ ?_
        rotate_left
        · intro X hI; go_simp; try go_bits
          try rw [if_pos (by omega)]
          try with_reducible rfl
        refine wpI_take (i := 5) (v := ?_) rfl (by kernel_rfl) (by kernel_rfl) (by kernel_rfl) (fun _ _ _ h => h) ⟨by rfl, ?_⟩ ?_
        rotate_left
        · intro X hI; go_simp; try go_bits
          try rw [if_pos (by omega)]
          try with_reducible rfl
        refine wpI_take (i := 6) (v := ?_) rfl (by kernel_rfl) (by kernel_rfl) (by kernel_rfl) (fun _ _ _ h => h) ⟨by rfl, ?_⟩ ?_
        rotate_left
        · intro X hI; go_simp; try go_bits
          try rw [if_pos (by omega)]
          try with_reducible rfl
        refine wpI_take (i := 7) (v := .slice ao' (N - r) (lc - r)) rfl (by kernel_rfl) (by kernel_rfl) (by kernel_rfl) (fun _ _ _ h => h) ⟨by rfl, ?_⟩ ?_
        · intro X hI; have e7 := E7.out; go_simp
        clear hao E7
        have W3 : Hid (Wq w V2.drew A B (.slice ao n tc) (.slice po m pc) (.slice lo N lc) n m N f (pst st xs r) xs (upz (fir n f st xs) N)) := W2.out.below (drewN_below _ 1)
        clear W2
        generalize V2.drew = X0 at W3 ⊢
        have i8 := behind_any (il_of_own W3.out.ps) (il_hi W3.out.li HRN.out ao' HAO.out) (by have := HMN.out; omega) (by omega)
        clear hrN
        refine wpI_only (i := 4) rfl (by kernel_rfl) trivial (by rfl) ?_
        intro K hK
        have c1 := W3.out.ln.c1
        go_simp
        refine hK _ _ ?_
        clear hK K c1
        refine wpI_only (i := 8) rfl (by kernel_rfl) trivial (by rfl) ?_
        intro K hK
        go_simp
        go_wp2_with (go_at_call 54; (with_reducible refine i8.mono ?_); rintro e w5 ⟨u5, rfl, h5, h6⟩; have O5 : Hid (w5.ownsRow X0.heap.size 3 1 u5 m (ils (bhd (N - r) (pst st xs r) (fun j => xs (r + j))) m)) := h5; have W5 : Hid (Wq w w5 A B (.slice ao n tc) (.slice po m pc) (.slice lo N lc) n m N f (pst st xs r) xs (upz (fir n f st xs) N)) := W3.out.below h6; clear h5 h6)
        clear i8
        refine wpI_take (i := 9) (v := ?_) rfl (by kernel_rfl) (by kernel_rfl) (by kernel_rfl) (fun _ _ _ h => h) ⟨by rfl, ?_⟩ ?_
        rotate_left
        · intro X hI; go_simp; try with_reducible rfl
        refine wpI_take (i := 10) (v := ?_) rfl (by kernel_rfl) (by kernel_rfl) (by kernel_rfl) (fun _ _ _ h => h) ⟨by rfl, ?_⟩ ?_
        rotate_left
        · intro X hI; go_simp; try with_reducible rfl
        obtain ⟨po5, pc5, rfl⟩ : ∃ po5 pc5, u5 = .slice po5 m pc5 := by
          rcases O5.out.2 with ⟨e, e2⟩ | ⟨g, c, cur, e, _⟩
          · exact ⟨none, 0, by rw [e, e2]⟩
          · exact ⟨_, _, e⟩
        refine wpI_only (i := 11) rfl (by kernel_rfl) trivial (by rfl) ?_
        intro K hK
        have c1 := W5.out.ln.c1
        have z1 := W5.out.ln.z1
        go_simp
        refine hK _ _ ?_
        clear hK K
        refine wpI_done trivial (by kernel_rfl) ?_ _
        have hsz : w.heap.size ≤ X0.heap.size := W3.out.kd.size
        have hlt := (own_lt W3.out.to).2
        have kd : Kd (fun q => q = A) w5 (w5.setCell ⟨A, 1, none⟩ (.slice po5 m pc5)) := (Kd.refl (fun q => q = A) w5).put (.inl rfl) 1 _
        have c0 := W5.out.ln.c0
        have L6 : Hid (Ln (w5.setCell ⟨A, 1, none⟩ (.slice po5 m pc5)) A (.slice ao n tc) (.slice po5 m pc5)) := ⟨by simp [go_sem, c0], by simp [go_sem, c1], by simp [go_sem, z1]⟩
        have O6 : Hid ((w5.setCell ⟨A, 1, none⟩ (.slice po5 m pc5)).ownsRow w.heap.size 3 1 (.slice po5 m pc5) m (ils (pst st xs N) m)) := by
          have o := own_base (own_kd O5.out kd (fun q hq hd => by have := (World.ownsRow.lt O5.out q hq).1; omega)) hsz
          rw [ils_congr (fun i _ => bhd_pst st xs HRN.out i)] at o
          exact o
        have T6 : Hid ((w5.setCell ⟨A, 1, none⟩ (.slice po5 m pc5)).ownsRow w.heap.size 3 1 (.slice (some ⟨w.heap.size, 0, none⟩) N N) N (ils (fir n f st xs) N)) := by
          have o := own_kd W5.out.to kd (fun q hq hd => by have e : w.heap.size = q := Option.some.inj hq; omega)
          rw [upz_full] at o
          exact o
        have A6 : Hid (Apart (.slice (some ⟨w.heap.size, 0, none⟩) N N) (.slice po5 m pc5)) := .inr (fun e => by have := (World.ownsRow.lt O5.out w.heap.size e.symm).1; omega)
        have K6 : Hid (Kd (fun k => Blk (.slice po m pc) k ∨ k = A) w (w5.setCell ⟨A, 1, none⟩ (.slice po5 m pc5))) := (W5.out.kd.mono (fun g hg => .inl hg)).put (.inl (.inr rfl)) 1 _
        clear c0 c1 z1 kd W5 O5 W3
        generalize w5.setCell ⟨A, 1, none⟩ (.slice po5 m pc5) = W9 at L6 O6 T6 K6 ⊢
        go_wp2
        go_ret
        exact ⟨_, _, rfl, T6.out, O6.out, A6.out, L6.out, K6.out⟩
end Go.Proofs.Ythfmcfgnegfkdaa

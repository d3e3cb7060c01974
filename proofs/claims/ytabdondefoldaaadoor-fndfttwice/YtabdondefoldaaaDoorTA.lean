/- Rows that grow, of any lengths; lists held against each other. -/
import Derived.Test.YtabdondefoldaaaDoorGR
import Derived.Test.YtabdondefoldaaaDoorGL
import Derived.Test.YtabdondefoldaaaDoorD4
import Derived.Test.YtabdondefoldaaaDoorDA
import Derived.Test.YtabdondefoldaaaDoorD3
namespace Go.Proofs.YtabdondefoldaaaDoor
open Go.RowKit

/-- A list of rows and a row of numbers never share a block. -/
theorem ty_nev {X : World} {B B' n n' : Nat} {o u : Value} {L L' : List Value} (h : X.ownsRow B 29 1 o n L) (h' : X.ownsRow B' 3 1 u n' L') (g : Nat) (hg : u.ownBlock = some g) : some g ≠ o.ownBlock := by
  rcases h'.2 with ⟨rfl, _⟩ | ⟨g2, c2, cur2, rfl, _⟩
  · cases hg
  · injection hg with hg
    subst hg
    exact ty_ne h h'

/-- j rows of numbers, of any lengths, listed in o. -/
structure Rgv (X : World) (B : Nat) (o : Value) (j : Nat) (R : Nat → Value) (ms : Nat → Nat) (M : Nat → Nat → Int) : Prop where
  row : X.ownsRow B 29 1 o j (vls R j)
  rows : ∀ i, i < j → X.ownsRow B 3 1 (R i) (ms i) (ils (M i) (ms i))

theorem Rgv.keep {X X' : World} {B j : Nat} {o : Value} {R : Nat → Value} {ms : Nat → Nat} {M : Nat → Nat → Int} (h : Rgv X B o j R ms M) (hb : ∀ g, B ≤ g → g < X.heap.size → X'.heap[g]? = X.heap[g]?) : Rgv X' B o j R ms M :=
  ⟨own_at h.row (fun g hg => hb g (World.ownsRow.lt h.row g hg).1 (World.ownsRow.lt h.row g hg).2), fun i hi => own_at (h.rows i hi) (fun g hg => hb g (World.ownsRow.lt (h.rows i hi) g hg).1 (World.ownsRow.lt (h.rows i hi) g hg).2)⟩

theorem Rgv.call {X X' : World} {B j : Nat} {o : Value} {R : Nat → Value} {ms : Nat → Nat} {M : Nat → Nat → Int} (h : Rgv X B o j R ms M) (hb : Below X.heap.size X X') : Rgv X' B o j R ms M := h.keep (fun g _ hl => hb.block g hl)

theorem Rgv.kept {X X' : World} {B j c : Nat} {o : Value} {R : Nat → Value} {ms : Nat → Nat} {M : Nat → Nat → Int} (h : Rgv X B o j R ms M) (hk : Keep c X X') (hc : c < B) : Rgv X' B o j R ms M := h.keep (fun g hg hl => hk.block g (by omega) hl)

theorem Rgv.start (X : World) (R : Nat → Value) (ms : Nat → Nat) (M : Nat → Nat → Int) : Rgv (X.alloc (.cells #[] 29)) X.heap.size (.slice (some ⟨X.heap.size, 0, none⟩) 0 0) 0 R ms M :=
  ⟨own_empty X 29 1, fun i hi => by omega⟩

theorem Rgv.base {X : World} {B B' j : Nat} {o : Value} {R : Nat → Value} {ms : Nat → Nat} {M : Nat → Nat → Int} (h : Rgv X B o j R ms M) (hB : B' ≤ B) : Rgv X B' o j R ms M :=
  ⟨own_base h.row hB, fun i hi => own_base (h.rows i hi) hB⟩

theorem Rgv.open {X : World} {B n : Nat} {o : Value} {R : Nat → Value} {ms : Nat → Nat} {M : Nat → Nat → Int} (h : Rgv X B o n R ms M) : ∃ ao cap, o = .slice ao n cap ∧ n ≤ cap ∧ (0 < n → ∃ g, ao = some ⟨g, 0, none⟩) := by
  rcases h.row.2 with ⟨rfl, rfl⟩ | ⟨g, cap, cur, rfl, _, _, hc, _⟩
  · exact ⟨none, 0, rfl, Nat.le_refl _, fun h => by omega⟩
  · exact ⟨_, cap, rfl, hc, fun _ => ⟨g, rfl⟩⟩

theorem Rgv.ipp {X : World} {B n : Nat} {o : Value} {R : Nat → Value} {ms : Nat → Nat} {M : Nat → Nat → Int} (h : Rgv X B o n R ms M) : Ipp X o n ms M := by
  obtain ⟨ao, cap, rfl, hcap, ha⟩ := h.open
  refine ⟨ao, cap, rfl, hcap, fun h0 => ?_⟩
  obtain ⟨g, rfl⟩ := ha h0
  refine ⟨g, 0, R, rfl, (World.ownsRow.lt h.row g rfl).2, fun k hk => ⟨?_, il_of_own (h.rows k hk)⟩⟩
  rw [Nat.zero_add, World.ownsRow.cellAt h.row k (by omega), vls_get hk]

/-- One row more. -/
theorem Rgv.app {X : World} {B j m : Nat} {o u : Value} {R : Nat → Value} {ms : Nat → Nat} {M : Nat → Nat → Int} {F : Nat → Int} (h : Rgv X B o j R ms M) (hr : X.ownsRow B 3 1 u m (ils F m)) (hu : u.oneCell' = true) (hj : j ≤ 1048576) (hB : B ≤ X.heap.size) :
    ∃ v' w', (Builtin.append_ #[24, 24] 24 #[o, .slice (some ⟨X.heap.size, 0, none⟩) 1 1]).run Tryd.prog (X.alloc (.cells #[u] 29)) = .ok v' w' ∧
      Rgv w' B v' (j + 1) (fun i => if i = j then u else R i) (fun i => if i = j then m else ms i) (fun i => if i = j then F else M i) ∧ Below B X w' := by
  obtain ⟨i0, hi, hz0, hz1, hz2⟩ := info_parts Tryd.info29
  have bl := below_one X (.cells #[u] 29)
  have h1 := own_below h.row bl
  obtain ⟨v', w', ha, ho, hg, _⟩ := run_append_own (P := Tryd.prog) (X.alloc (.cells #[u] 29)) B 24 24 29 i0 (.slice none 0 0) 1 24 Tryd.underlying24 hi hz0 hz1 hz2 rfl (by decide) o j _ h1 ⟨X.heap.size, 0, none⟩ 1 1 [u] rfl (one_new X _ 29) (fun q hq => by simp at hq; subst hq; exact hu) (by unfold maxLen; omega) (by omega) (Nat.le_trans hB bl.size)
  have hr1 := own_below hr bl
  have hk : ∀ {n' : Nat} {q : Value} {L : List Value}, (X.alloc (.cells #[u] 29)).ownsRow B 3 1 q n' L → w'.ownsRow B 3 1 q n' L := fun hq => own_at hq (fun g hgg => hg.block g (World.ownsRow.lt hq g hgg).2 (ty_nev h1 hq g hgg))
  refine ⟨v', w', ha, ⟨?_, fun i hi => ?_⟩, (bl.mono hB).trans (grown_below (Below.refl B _) (Nat.le_trans hB bl.size) h1 hg)⟩
  · rw [vls_snoc]
    have e1 : vls (fun i => if i = j then u else R i) j = vls R j := vls_congr fun i hi => by rw [if_neg (by omega)]
    rw [e1, if_pos rfl]
    exact ho
  · by_cases e : i = j
    · simp only [if_pos e]; exact hk hr1
    · simp only [if_neg e]; exact hk (own_below (h.rows i (by omega)) bl)

theorem Ipp.below {w w' : World} {v : Value} {n : Nat} {ms : Nat → Nat} {X : Nat → Nat → Int} (h : Ipp w v n ms X) (hb : Below w.heap.size w w') : Ipp w' v n ms X := by
  obtain ⟨ao, cap, rfl, hcap, hc⟩ := h
  refine ⟨ao, cap, rfl, hcap, fun h0 => ?_⟩
  obtain ⟨b, off, R, rfl, hlt, hcell⟩ := hc h0
  exact ⟨b, off, R, rfl, Nat.lt_of_lt_of_le hlt hb.size, fun k hk => ⟨(hb.cell (p := ⟨b, off + k, none⟩) hlt).trans (hcell k hk).1, (hcell k hk).2.below hb⟩⟩

theorem Ipp.congr {w : World} {v : Value} {n : Nat} {ms ms' : Nat → Nat} {X X' : Nat → Nat → Int} (h : Ipp w v n ms X) (e : ∀ i, i < n → ms i = ms' i ∧ ∀ k, k < ms' i → X i k = X' i k) : Ipp w v n ms' X' := by
  obtain ⟨ao, cap, rfl, hcap, hc⟩ := h
  refine ⟨ao, cap, rfl, hcap, fun h0 => ?_⟩
  obtain ⟨b, off, R, rfl, hlt, hcell⟩ := hc h0
  refine ⟨b, off, R, rfl, hlt, fun k hk => ⟨(hcell k hk).1, ?_⟩⟩
  obtain ⟨e1, e2⟩ := e k hk
  obtain ⟨a2, c2, e3, hc2, h2⟩ := (hcell k hk).2
  rw [e1] at e3 hc2 h2
  refine ⟨a2, c2, e3, hc2, fun h1 => ?_⟩
  obtain ⟨b2, o2, e4, hl2, hcl⟩ := h2 h1
  exact ⟨b2, o2, e4, hl2, fun q hq => (hcl q hq).trans (by rw [e2 q hq])⟩

set_option maxHeartbeats 1000000 in
/-- Two lists that hold the same: eqIntS says so. -/
theorem sameI_yes {w : World} {v u : Value} {n : Nat} {xs : Nat → Int} (hv : Il w v n xs) (hu : Il w u n xs) (hn : n ≤ 1048576) :
    Calls Tryd.prog 23 #[v, u] w fun e w' => e = .returned (.bool true) ∧ Below w.heap.size w w' := by
  obtain ⟨ao, cap, rfl, hcap, hc⟩ := hv
  obtain ⟨bo, cap2, rfl, hcap2, hc2⟩ := hu
  have HC : Hid (0 < n → ∃ b off, ao = some ⟨b, off, none⟩ ∧ b < w.heap.size ∧ ∀ k, k < n → w.cell? ⟨b, off + k, none⟩ = some (.int .i64 (xs k))) := hc
  have HC2 : Hid (0 < n → ∃ b off, bo = some ⟨b, off, none⟩ ∧ b < w.heap.size ∧ ∀ k, k < n → w.cell? ⟨b, off + k, none⟩ = some (.int .i64 (xs k))) := hc2
  clear hc hc2
  go_enter Tryd.func23, Tryd.ntmps23
  go_wp2
  go_loopw [5] (fun i wr => ∃ k : Nat, i = .int .i64 k ∧ k ≤ n ∧ Hid (Below w.heap.size w wr)) (fun i _ => n - (intOf i).toNat)
  case atStart => exact ⟨0, rfl, by omega, Below.refl _ _⟩
  case round =>
    obtain ⟨k, rfl, hk, hbl⟩ := hrel
    by_cases h1 : k < n
    · obtain ⟨b, off, rfl, hlt, hcell⟩ := HC.out (by omega)
      obtain ⟨b2, off2, rfl, hlt2, hcell2⟩ := HC2.out (by omega)
      have c : wr.cell? ⟨b, off + k, none⟩ = some (.int .i64 (xs k)) := (hbl.out.cell (p := ⟨b, off + k, none⟩) hlt).trans (hcell k h1)
      have c2 : wr.cell? ⟨b2, off2 + k, none⟩ = some (.int .i64 (xs k)) := (hbl.out.cell (p := ⟨b2, off2 + k, none⟩) hlt2).trans (hcell2 k h1)
      clear hcell hcell2 hlt hlt2
      go_wp2_with (go_quiet (fail))
      go_roundw
      case rel => exact ⟨k + 1, by go_num, by omega, below_drewN hbl.out _⟩
      case measure => simp [intOf]; omega
    · obtain rfl : k = n := by omega
      go_wp2
      go_ret
      exact ⟨rfl, hbl.out⟩
end Go.Proofs.YtabdondefoldaaaDoor

/- Lists of words that are handed on: wrong arguments and NaNs, on the model's side. -/
import Derived.Test.YtghblaphkbcgpaaDoorV1
import Derived.Test.YtghblaphkbcgpaaDoorR2
import Derived.RegionTactic
import Derived.Test.YtghblaphkbcgpaaDoorHS1
namespace Go.Proofs.YtghblaphkbcgpaaDoor
open Go.RowKit

/-- The slice holds the n words xs. -/
def Lu (w : World) (v : Value) (n : Nat) (xs : Nat → Int) : Prop := ∃ g cap, v = .slice (some ⟨g, 0, none⟩) n cap ∧ g < w.heap.size ∧ ∀ k, k < n → w.cell? ⟨g, k, none⟩ = some (.int .u64 (xs k))

theorem Lu.below {w w' : World} {v : Value} {n : Nat} {xs : Nat → Int} (h : Lu w v n xs) (hb : Below w.heap.size w w') : Lu w' v n xs := by
  obtain ⟨g, cap, rfl, hg, hc⟩ := h
  exact ⟨g, cap, rfl, Nat.lt_of_lt_of_le hg hb.size, fun k hk => (hb.cell (p := ⟨g, k, none⟩) hg).trans (hc k hk)⟩

/-- Whether one of the first n says so. -/
def anyB (b : Nat → Bool) : Nat → Bool
  | 0 => false
  | n + 1 => anyB b n || b n

/-- Whether all of the first n say so. -/
def allB (b : Nat → Bool) : Nat → Bool
  | 0 => true
  | n + 1 => allB b n && b n

/-- The flag that one of the first n raises. -/
def fgB (b : Nat → Bool) : Nat → Int
  | 0 => 0
  | n + 1 => bif b n then 16 else fgB b n

theorem allB_no {b : Nat → Bool} {n k : Nat} (hk : k < n) (h : b k = false) : allB b n = false := by
  induction n with
  | zero => omega
  | succ n ih =>
    by_cases e : k = n
    · subst e; simp [allB, h]
    · simp [allB, ih (by omega)]

set_option maxRecDepth 100000 in
set_option maxHeartbeats 1000000 in
theorem args_any {w : World} {v : Value} {n : Nat} {xs : Nat → Int} (hv : Lu w v n xs) (hn : n ≤ 1000) (f mode : Int) (ar : Nat → Bool) (mo : Bool)
    (har : ∀ k, k < n → ∀ w, Calls Tryd.prog 18 #[.int .i64 f, .int .u64 (xs k)] w fun e w' => e = .returned (.bool (ar k)) ∧ w' = w) (hmo : ∀ w, Calls Tryd.prog 19 #[.int .i64 mode] w fun e w' => e = .returned (.bool mo) ∧ w' = w) :
    Calls Tryd.prog 6 #[.int .i64 f, .int .i64 mode, v] w fun e w' => e = .returned (.bool (allB ar n && mo)) ∧ w' = w := by
  obtain ⟨g, cap, rfl, hg, hc⟩ := hv
  have HC : Hid (∀ k, k < n → w.cell? ⟨g, k, none⟩ = some (.int .u64 (xs k))) := hc
  have HA : Hid _ := har
  clear hc har
  go_enter Tryd.func6, Tryd.ntmps6
  go_wp2
  go_loop [7] (fun i => ∃ k : Nat, i = .int .i64 k ∧ k ≤ n ∧ allB ar k = true) (fun i => n - (intOf i).toNat)
  case atStart => exact ⟨0, rfl, by omega, rfl⟩
  case round =>
    obtain ⟨k, rfl, hk, hall⟩ := hrel
    by_cases h1 : k < n
    · have c := HC.out k h1
      have h := HA.out k h1
      have HAL : Hid (allB ar k = true) := hall
      clear hall
      cases hb : ar k
      · rw [hb] at h
        have e : Hid (allB ar n = false) := allB_no h1 hb
        go_wp2_with (go_at_call 18; refine (h _).mono ?_; rintro e w' ⟨rfl, hw⟩; obtain rfl := hw.symm)
        go_ret
        refine ⟨?_, rfl⟩
        rw [e.out]
        rfl
      · rw [hb] at h
        have HB : Hid (ar k = true) := hb
        clear hb
        go_wp2_with (go_at_call 18; refine (h _).mono ?_; rintro e w' ⟨rfl, hw⟩; obtain rfl := hw.symm)
        go_round
        case rel => exact ⟨k + 1, by go_num, by omega, by simp [allB, HAL.out, HB.out]⟩
        case measure => simp [intOf]; omega
    · obtain rfl : k = n := by omega
      have HAL : Hid (allB ar k = true) := hall
      clear hall
      go_wp2_with (go_at_call 19; refine (hmo _).mono ?_; rintro e w' ⟨rfl, hw⟩; obtain rfl := hw.symm)
      go_ret
      refine ⟨?_, rfl⟩
      rw [HAL.out]
      rfl

set_option maxRecDepth 100000 in
set_option maxHeartbeats 2000000 in
theorem nans_any {w : World} {v : Value} {n : Nat} {xs : Nat → Int} (hv : Lu w v n xs) (hn : n ≤ 1000) (f pl : Int) (K E M : Nat → Int) (nb sg : Nat → Bool)
    (hu : ∀ k, k < n → ∀ w, Calls Tryd.prog 8 #[.int .i64 f, .int .u64 (xs k)] w fun e w' => e = .returned (.agg #[.int .i64 (K k), .bool (nb k), .int .i64 (E k), .int .u64 (M k)]) ∧ Below w.heap.size w w')
    (hs : ∀ k, k < n → ∀ w, Calls Tryd.prog 20 #[.int .i64 f, .int .u64 (xs k)] w fun e w' => e = .returned (.bool (sg k)) ∧ Below w.heap.size w w')
    (hp : ∀ w, Calls Tryd.prog 9 #[.int .i64 f] w fun e w' => e = .returned (.int .u64 pl) ∧ w' = w) :
    Calls Tryd.prog 7 #[.int .i64 f, v] w fun e w' => e = .returned (.tuple #[.int .u64 pl, .int .i64 (fgB sg n), .bool (anyB (fun k => K k == 3) n)]) ∧ Below w.heap.size w w' := by
  obtain ⟨g, cap, rfl, hg, hc⟩ := hv
  have HC : Hid (∀ k, k < n → w.cell? ⟨g, k, none⟩ = some (.int .u64 (xs k))) := hc
  have HU : Hid _ := hu
  have HS : Hid _ := hs
  clear hc hu hs
  go_enter Tryd.func7, Tryd.ntmps7
  go_wp2
  go_loopw [7, 8, 9] (fun b fl i wr => ∃ k : Nat, i = .int .i64 k ∧ k ≤ n ∧ b = .bool (anyB (fun k => K k == 3) k) ∧ fl = .int .i64 (fgB sg k) ∧ Hid (Below w.heap.size w wr)) (fun _ _ i _ => n - (intOf i).toNat)
  case atStart => exact ⟨0, rfl, by omega, rfl, rfl, Below.refl _ _⟩
  case round =>
    obtain ⟨k, rfl, hk, rfl, rfl, hbl⟩ := hrel
    by_cases h1 : k < n
    · have c : wr.cell? ⟨g, k, none⟩ = some (.int .u64 (xs k)) := (hbl.out.cell (p := ⟨g, k, none⟩) hg).trans (HC.out k h1)
      have h := HU.out k h1
      have h2 := HS.out k h1
      have hfl := fun w => fld24 (K k) (E k) (M k) (nb k) w
      have c2 : ∀ W, Below wr.heap.size wr W → W.cell? ⟨g, k, none⟩ = some (.int .u64 (xs k)) := fun W hW => (hW.cell (p := ⟨g, k, none⟩) (Nat.lt_of_lt_of_le hg hbl.out.size)).trans c
      have HC2 : Hid _ := c2
      have HN : Hid (anyB (fun k => K k == 3) (k + 1) = (anyB (fun k => K k == 3) k || (K k == 3))) := rfl
      have HG : Hid (fgB sg (k + 1) = bif sg k then 16 else fgB sg k) := rfl
      clear c2
      generalize anyB (fun k => K k == 3) k = an at *
      generalize fgB sg k = asg at *
      cases an
      · cases hsg : sg k
        · rw [hsg] at h2
          go_wp2_with (first | (go_at_call 8; refine (h _).mono ?_; rintro e w1 ⟨rfl, hb1⟩; have c3 := HC2.out _ hb1) | (go_at_call 20; refine (h2 _).mono ?_; rintro e w2 ⟨rfl, hb2⟩))
          go_roundw
          case rel => exact ⟨k + 1, by go_num, by omega, by rw [HN.out]; simp, by rw [HG.out, hsg]; rfl, bstep (bstep hbl.out hb1) hb2⟩
          case measure => simp [intOf]; omega
        · rw [hsg] at h2
          go_wp2_with (first | (go_at_call 8; refine (h _).mono ?_; rintro e w1 ⟨rfl, hb1⟩; have c3 := HC2.out _ hb1) | (go_at_call 20; refine (h2 _).mono ?_; rintro e w2 ⟨rfl, hb2⟩))
          go_roundw
          case rel => exact ⟨k + 1, by go_num, by omega, by rw [HN.out]; simp, by rw [HG.out, hsg]; rfl, bstep (bstep hbl.out hb1) hb2⟩
          case measure => simp [intOf]; omega
      · cases hsg : sg k
        · rw [hsg] at h2
          go_wp2_with (go_at_call 20; refine (h2 _).mono ?_; rintro e w2 ⟨rfl, hb2⟩)
          go_roundw
          case rel => exact ⟨k + 1, by go_num, by omega, by rw [HN.out]; simp, by rw [HG.out, hsg]; rfl, bstep hbl.out hb2⟩
          case measure => simp [intOf]; omega
        · rw [hsg] at h2
          go_wp2_with (go_at_call 20; refine (h2 _).mono ?_; rintro e w2 ⟨rfl, hb2⟩)
          go_roundw
          case rel => exact ⟨k + 1, by go_num, by omega, by rw [HN.out]; simp, by rw [HG.out, hsg]; rfl, bstep hbl.out hb2⟩
          case measure => simp [intOf]; omega
    · obtain rfl : k = n := by omega
      go_wp2_with (go_at_call 9; refine (hp _).mono ?_; rintro e w' ⟨rfl, hw⟩; obtain rfl := hw.symm)
      go_ret3
      exact ⟨rfl, hbl.out⟩
end Go.Proofs.YtghblaphkbcgpaaDoor

/- A region that draws its order among reads and calls: reads that come out alike in every world that keeps an invariant may be taken first. -/
namespace Go.Proofs.YtghblaphkbcgpaaDoor
open Go

section
variable {P : Program} {ops : Array Oper} {Q : Exit → Act → World → Prop} {md : Region.Mode} {I : World → Prop}

/-- Every order of the region ends well, and each world on the way keeps I. -/
def wpI (P : Program) (md : Region.Mode) (ops : Array Oper) (Q : Exit → Act → World → Prop) (I : World → Prop) : Nat → Array Bool → Act → World → Prop
  | 0, listed, a, w => I w ∧ Region.ready md ops listed = [] ∧ Q .normal a w
  | fuel + 1, listed, a, w => I w ∧ (Region.ready md ops listed = [] → Q .normal a w) ∧ ∀ i ∈ Region.ready md ops listed, wpOp P ops Q i (wpI P md ops Q I fuel (listed.setIfInBounds i true)) a w

theorem wpI_any : ∀ (fuel : Nat) (listed : Array Bool) (a : Act) (w : World), wpI P md ops Q I fuel listed a w → wpAny P md ops Q fuel listed a w
  | 0, _, _, _, h => h.2
  | fuel + 1, _, _, _, h => ⟨h.2.1, fun i hi => wpOp_mono (fun a w h => wpI_any fuel _ a w h) (h.2.2 i hi)⟩

/-- What an operation yields in every world that keeps I. -/
def YI (P : Program) (ops : Array Oper) (I : World → Prop) (o : Oper) (v : Value) (a : Act) : Prop :=
  Region.wanted o (yielded ops a.tmps) = true ∧ ∀ w, I w → (execOp a.eval o).run P w = .ok (.value v) w

theorem YI.wpOp {i : Nat} {o : Oper} {v : Value} {a : Act} (hi : ops[i]? = some o) (hy : YI P ops I o v a) {K : Act → World → Prop} {w : World} (hI : I w) (h : K (a.put o.dst v) w) : wpOp P ops Q i K a w := by
  unfold Go.wpOp
  simp only [hi]
  simp only [hy.1, if_true, Oper.wp, hy.2 w hI, Oper.upon]
  exact .inl h

theorem YI.of_same {o : Oper} {v : Value} {a a' : Act} (hy : YI P ops I o v a) (he : execOp a'.eval o = execOp a.eval o) (hw : Region.wanted o (yielded ops a'.tmps) = Region.wanted o (yielded ops a.tmps)) : YI P ops I o v a' := by
  unfold YI at *
  rw [he, hw]
  exact hy

theorem wpOp_putI {j : Nat} {oi oj : Oper} {v : Value} (hj : ops[j]? = some oj) (hap : oi.apart ops oj = true) (hsi : ∀ cs b, oi.op ≠ .select cs b) (hsj : ∀ cs b, oj.op ≠ .select cs b)
    (hQ : ∀ c a w, Q (.panic c) (a.put oi.dst v) w → Q (.panic c) a w) {K : Act → World → Prop} {a : Act} {w : World} (hy : YI P ops I oi v a) (h : wpOp P ops Q j K (a.put oi.dst v) w) :
    wpOp P ops Q j (fun a' w' => YI P ops I oi v a' ∧ K (a'.put oi.dst v) w') a w := by
  obtain ⟨h1, h2, h3⟩ := Oper.apart_spec hap
  have keep : ∀ (a : Act), YI P ops I oi v a → ∀ u, YI P ops I oi v (a.put oj.dst u) := fun a hy u => hy.of_same (execOp_put oi hsi a oj.dst u h3) (wanted_put oi a oj.dst u h3)
  have keepD : ∀ d, YI P ops I oi v { a with defers := d :: a.defers } := fun d => hy.of_same rfl rfl
  unfold wpOp at *
  simp only [hj] at *
  rw [wanted_put oj a oi.dst v h1] at h
  split
  · rename_i hw
    simp only [hw, if_true] at h
    rcases h with h | ⟨hasks, hlets⟩
    case inr => exact .inr ⟨by unfold Oper.asks at *; rw [execOp_put oj hsj a oi.dst v h1] at hasks; exact hasks, hlets⟩
    refine .inl ?_
    unfold Oper.wp at *
    rw [execOp_put oj hsj a oi.dst v h1] at h
    generalize (execOp a.eval oj).run P w = r at *
    cases r with
    | ok n w' =>
      cases n <;> simp only [Oper.upon] at h ⊢
      case value u => exact ⟨keep a hy u, by rw [← Act.put_comm a v u h2]; exact h⟩
      case skip => exact ⟨keep a hy _, by rw [← Act.put_comm a v undef h2]; exact h⟩
      case defer d =>
        refine ⟨keep _ (keepD d) _, ?_⟩
        rw [← Act.put_comm _ v undef h2, ← Act.put_defers]
        exact h
      case enter f args =>
        refine Calls.mono h fun e w'' he => ?_
        cases e with
        | returned u => exact ⟨keep a hy u, by rw [← Act.put_comm a v u h2]; exact he⟩
        | panicked c => exact hQ _ _ _ he
        | outgrown => exact he
      case row row args => exact Rows.mono h fun u w'' he => ⟨keep a hy u, by rw [← Act.put_comm a v u h2]; exact he⟩
    | halt x w' =>
      cases x <;> simp only [Oper.upon] at h ⊢
      case panic u => exact hQ _ _ _ h
  · rename_i hw
    simp only [hw] at h
    exact ⟨keep a hy _, by rw [← Act.put_comm a v undef h2]; exact h⟩

theorem wpI.keeps {fuel : Nat} {listed : Array Bool} {a : Act} {w : World} (h : wpI P md ops Q I fuel listed a w) : I w := by
  cases fuel <;> exact h.1

theorem wpI_first {i : Nat} {oi : Oper} {v : Value} (hi : ops[i]? = some oi) (hsel : ∀ (j : Nat) (o : Oper) cs b, ops[j]? = some o → o.op ≠ .select cs b)
    (hQ : ∀ c a w, Q (.panic c) (a.put oi.dst v) w → Q (.panic c) a w) :
    ∀ (fuel : Nat) (listed : Array Bool) (a : Act) (w : World),
      (∀ j oj, ops[j]? = some oj → j ≠ i → listed.getD j true = false → (∀ e ∈ oj.after, Region.binds md e = true → e.on ≠ i) → oi.apart ops oj = true) →
      i ∈ Region.ready md ops listed → YI P ops I oi v a →
      wpI P md ops Q I fuel (listed.setIfInBounds i true) (a.put oi.dst v) w → wpI P md ops Q I (fuel + 1) listed a w := by
  intro fuel
  induction fuel with
  | zero =>
    intro listed a w _ hr hy H
    refine ⟨H.1, fun h => (by rw [h] at hr; cases hr), fun j hj => ?_⟩
    by_cases hji : j = i
    · subst hji; exact hy.wpOp hi H.1 H
    · have := ready_mono hj hji
      rw [H.2.1] at this
      cases this
  | succ fuel ih =>
    intro listed a w hfree hr hy H
    refine ⟨H.1, fun h => (by rw [h] at hr; cases hr), fun j hj => ?_⟩
    by_cases hji : j = i
    · subst hji; exact hy.wpOp hi H.1 H
    · have h1 := H.2.2 j (ready_mono hj hji)
      obtain ⟨hjun, oj, hoj, hall⟩ := mem_ready.1 hj
      have hnot : ∀ e ∈ oj.after, Region.binds md e = true → e.on ≠ i := fun e he hb heq => by
        have h1 := hall e he hb
        have h0 := (mem_ready.1 hr).1
        rw [heq] at h1
        rcases Nat.lt_or_ge i listed.size with h' | h'
        · simp [h'] at h0 h1; rw [h0] at h1; cases h1
        · simp [Array.getElem?_eq_none h'] at h1
      have h2 := wpOp_putI hoj (hfree j oj hoj hji hjun hnot) (fun cs b => hsel i oi cs b hi) (fun cs b => hsel j oj cs b hoj) hQ hy h1
      have hfree' : ∀ k ok, ops[k]? = some ok → k ≠ i → (listed.setIfInBounds j true).getD k true = false →
          (∀ e ∈ ok.after, Region.binds md e = true → e.on ≠ i) → oi.apart ops ok = true := fun k ok hk hki hun hno => by
        refine hfree k ok hk hki ?_ hno
        by_cases hjk : j = k
        · subst hjk; exact hjun
        · rw [getD_set_ne true hjk] at hun; exact hun
      refine wpOp_mono (fun a' w' h3 => ih (listed.setIfInBounds j true) a' w' hfree' (ready_mono hr (Ne.symm hji)) h3.1 ?_) h2
      rw [Array.setIfInBounds_comm _ _ hji]
      exact h3.2

/-- Take operation i first. -/
theorem wpI_take {i : Nat} {oi : Oper} {v : Value} {fuel : Nat} {listed : Array Bool} {a : Act} {w : World} (hi : ops[i]? = some oi)
    (hs : Region.noSelect ops = true) (hf : Region.free md ops listed i = true) (hr : (Region.ready md ops listed).contains i = true)
    (hQ : ∀ c a w, Q (.panic c) (a.put oi.dst v) w → Q (.panic c) a w) (hy : YI P ops I oi v a)
    (h : wpI P md ops Q I fuel (listed.setIfInBounds i true) (a.put oi.dst v) w) : wpI P md ops Q I (fuel + 1) listed a w :=
  wpI_first hi (Region.noSelect_spec hs) hQ fuel listed a w (Region.free_spec hi hf) (by simpa using hr) hy h

/-- The one operation that may come up. -/
theorem wpI_only {i : Nat} {o : Oper} {fuel : Nat} {listed : Array Bool} {a : Act} {w : World} (ho : ops[i]? = some o) (hr : Region.ready md ops listed = [i]) (hI : I w)
    (hw : Region.wanted o (yielded ops a.tmps) = true) (h : ∀ K : Act → World → Prop, (∀ a w, wpI P md ops Q I fuel (listed.setIfInBounds i true) a w → K a w) → Oper.wp P o a w K Q) : wpI P md ops Q I (fuel + 1) listed a w := by
  refine ⟨hI, fun e => (by rw [hr] at e; cases e), fun j hj => ?_⟩
  rw [hr] at hj
  obtain rfl : j = i := by simpa using hj
  unfold wpOp
  simp only [ho, hw, if_true]
  exact .inl (h _ fun _ _ h => h)

theorem wpI_done {listed : Array Bool} {a : Act} {w : World} (hI : I w) (hr : Region.ready md ops listed = []) (h : Q .normal a w) : ∀ fuel, wpI P md ops Q I fuel listed a w
  | 0 => ⟨hI, hr, h⟩
  | _ + 1 => ⟨hI, fun _ => h, fun i hi => by rw [hr] at hi; cases hi⟩
end
end Go.Proofs.YtghblaphkbcgpaaDoor

/- Waves in plain numbers; lists of lists that grow. -/
import Derived.Test.YtlccicbgepfbbaaCE
namespace Go.Proofs.Ytlccicbgepfbbaa
open Go.RowKit

def Ipp (w : World) (v : Value) (n : Nat) (ms : Nat → Nat) (X : Nat → Nat → Int) : Prop := ∃ ao cap, v = .slice ao n cap ∧ n ≤ cap ∧ (0 < n → ∃ b off, ∃ R : Nat → Value, ao = some ⟨b, off, none⟩ ∧ b < w.heap.size ∧ ∀ k, k < n → w.cell? ⟨b, off + k, none⟩ = some (R k) ∧ Il w (R k) (ms k) (X k))

theorem Ipp.below {w w' : World} {v : Value} {n : Nat} {ms : Nat → Nat} {X : Nat → Nat → Int} (h : Ipp w v n ms X) (hb : Below w.heap.size w w') : Ipp w' v n ms X := by
  obtain ⟨ao, cap, rfl, hcap, hc⟩ := h
  refine ⟨ao, cap, rfl, hcap, fun h0 => ?_⟩
  obtain ⟨b, off, R, rfl, hlt, hcell⟩ := hc h0
  exact ⟨b, off, R, rfl, Nat.lt_of_lt_of_le hlt hb.size, fun k hk => ⟨(hb.cell (p := ⟨b, off + k, none⟩) hlt).trans (hcell k hk).1, (hcell k hk).2.below hb⟩⟩

theorem Try.info27 : (Try.prog.info? 27).map (fun i => (i.zero, i.size, i.bytes)) = some (some (.slice none 0 0), 1, 24) := by kernel_rfl

theorem apart_base {w : World} {B s n g : Nat} {e : TypeId} {t o : Value} {xs : List Value} (ht : w.ownsRow B e s t n xs) (ho : o.ownBlock = some g) (hg : g < B) : Apart t o := by
  refine .inr (fun e => ?_)
  rw [ho] at e
  have := World.ownsRow.lt ht _ e
  omega

def Gr (B : Nat) (W : World) (o : Value) (j : Nat) (ms : Nat → Nat) (T : Nat → Nat → Int) : Prop :=
  ∃ R : Nat → Value, W.ownsRow B 27 1 o j ((List.range j).map R) ∧ ∀ k, k < j → W.ownsRow B 3 1 (R k) (ms k) (ils (T k) (ms k)) ∧ Apart (R k) o

theorem Gr.below {B : Nat} {W W' : World} {o : Value} {j : Nat} {ms : Nat → Nat} {T : Nat → Nat → Int} (h : Gr B W o j ms T) (hb : Below W.heap.size W W') : Gr B W' o j ms T := by
  obtain ⟨R, h1, h2⟩ := h
  exact ⟨R, own_below h1 hb, fun k hk => ⟨own_below (h2 k hk).1 hb, (h2 k hk).2⟩⟩

theorem Gr.start (W : World) (ms : Nat → Nat) (T : Nat → Nat → Int) : Gr W.heap.size (W.alloc (.cells #[] 27)) (.slice (some ⟨W.heap.size, 0, none⟩) 0 0) 0 ms T :=
  ⟨fun _ => .bool false, own_empty W 27 1, fun k hk => absurd hk (by omega)⟩

theorem Gr.base {B B' : Nat} {W : World} {o : Value} {j : Nat} {ms : Nat → Nat} {T : Nat → Nat → Int} (h : Gr B W o j ms T) (hB : B' ≤ B) : Gr B' W o j ms T := by
  obtain ⟨R, h1, h2⟩ := h
  exact ⟨R, own_base h1 hB, fun k hk => ⟨own_base (h2 k hk).1 hB, (h2 k hk).2⟩⟩

theorem Gr.ipp {B : Nat} {W : World} {o : Value} {j : Nat} {ms : Nat → Nat} {T : Nat → Nat → Int} (h : Gr B W o j ms T) : Ipp W o j ms T := by
  obtain ⟨R, h1, h2⟩ := h
  rcases h1.2 with ⟨rfl, rfl⟩ | ⟨g, cap, cur, rfl, hb, hg, hcap, hrest⟩
  · exact ⟨none, 0, rfl, Nat.le_refl _, fun h => absurd h (by omega)⟩
  · refine ⟨some ⟨g, 0, none⟩, cap, rfl, hcap, fun _ => ⟨g, 0, R, rfl, (Array.getElem?_eq_some_iff.1 hg).1, fun k hk => ⟨?_, il_of_own (h2 k hk).1⟩⟩⟩
    have := World.ownsRow.cellAt h1 k (by omega)
    rw [Nat.zero_add, this]
    simp [hk]

theorem oneS {w : World} {B n : Nat} {r : Value} {xs : List Value} (h : w.ownsRow B 3 1 r n xs) : r.oneCell' = true := by
  rcases h.2 with ⟨rfl, _⟩ | ⟨g, cap, cur, rfl, _⟩
  · rfl
  · rfl

/-- A list put behind. -/
theorem Gr.grow {B : Nat} {W1 W' : World} {o o' r : Value} {j : Nat} {ms : Nat → Nat} {T : Nat → Nat → Int} (h : Gr B W1 o j ms T) (hr : W1.ownsRow B 3 1 r (ms j) (ils (T j) (ms j))) (ha : Apart r o)
    (ho : ∀ R : Nat → Value, W1.ownsRow B 27 1 o j ((List.range j).map R) → W'.ownsRow B 27 1 o' (j + 1) ((List.range j).map R ++ [r])) (hg : W1.grownBy W' o.ownBlock) {S : Nat} (hk : o'.ownBlock = o.ownBlock ∨ (o'.ownBlock = some S ∧ Below S W1 W')) (hS : S = W1.heap.size) : Gr B W' o' (j + 1) ms T := by
  subst hS
  obtain ⟨R, h1, h2⟩ := h
  refine ⟨fun k => if k = j then r else R k, ?_, fun k hkj => ?_⟩
  · have e : (List.range (j + 1)).map (fun k => if k = j then r else R k) = (List.range j).map R ++ [r] := by
      rw [List.range_succ, List.map_append]
      congr 1
      · apply List.map_congr_left
        intro i hi
        have := List.mem_range.1 hi
        rw [if_neg (by omega)]
      · simp
    rw [e]
    exact ho R h1
  · have hk2 := hk.imp id And.left
    by_cases hkj2 : k = j
    · subst hkj2
      show W'.ownsRow B 3 1 (if k = k then r else R k) _ _ ∧ Apart (if k = k then r else R k) o'
      rw [if_pos rfl]
      exact ⟨own_grown hr hg ha, apart_app hr ha hk2⟩
    · show W'.ownsRow B 3 1 (if k = j then r else R k) _ _ ∧ Apart (if k = j then r else R k) o'
      rw [if_neg hkj2]
      obtain ⟨h3, h4⟩ := h2 k (by omega)
      exact ⟨own_grown h3 hg h4, apart_app h3 h4 hk2⟩

theorem Gr.lt {B : Nat} {W : World} {o : Value} {j : Nat} {ms : Nat → Nat} {T : Nat → Nat → Int} (h : Gr B W o j ms T) {b : Nat} (hb : o.ownBlock = some b) : b < W.heap.size := by
  obtain ⟨R, h1, _⟩ := h
  exact (World.ownsRow.lt h1 b hb).2

/-- A row that was made later lies apart. -/
theorem Gr.apart {B C : Nat} {W W' : World} {o r : Value} {j m : Nat} {ms : Nat → Nat} {T : Nat → Nat → Int} {xs : List Value} (h : Gr B W o j ms T) (hr : W'.ownsRow C 3 1 r m xs) (hC : W.heap.size ≤ C) : Apart r o := by
  by_cases ho : o.ownBlock = none
  · exact apart_symm (.inl ho)
  · obtain ⟨b, hb⟩ := Option.ne_none_iff_exists'.1 ho
    exact apart_base hr hb (Nat.lt_of_lt_of_le (h.lt hb) hC)

theorem Gr.below_grown {B : Nat} {w W W' : World} {o : Value} {j : Nat} {ms : Nat → Nat} {T : Nat → Nat → Int} (h : Gr B W o j ms T) (hb : Below B w W) (hB : B ≤ w.heap.size) (hg : W.grownBy W' o.ownBlock) : Below B w W' := by
  obtain ⟨R, h1, _⟩ := h
  exact grown_below hb hB h1 hg

theorem wpList_appS {w : World} {ops : Array Oper} {rest : List Oper} {o : Oper} {a : Act} {Q : Exit → Act → World → Prop} (hgd : o.guard = none) (s x : Operand)
    (ho : o.op = .call { callee := .builtin .append, args := #[s, x], argTypes := #[39, 39] }) {B : Nat} {v r : Value} {j : Nat} {ms : Nat → Nat} {T : Nat → Nat → Int} {ad : Addr} {c : Nat}
    (hs : a.eval s = v) (hx : a.eval x = .slice (some ad) 1 c) (hG : Gr B w v j ms T) (hr : w.ownsRow B 3 1 r (ms j) (ils (T j) (ms j))) (ha : Apart r v) (hc : w.cell? ad = some r) (hj : j ≤ 1048576) (hB : B ≤ w.heap.size)
    (h : ∀ v' w', Gr B w' v' (j + 1) ms T → w.grownBy w' v.ownBlock → wpList Try.prog ops Q rest (a.put o.dst v') w') : wpList Try.prog ops Q (o :: rest) a w := by
  obtain ⟨i0, hi, hz0, hz1, hz2⟩ := info_parts Try.info27
  have hG0 := hG
  obtain ⟨R, h1, h2⟩ := hG
  refine wpList_app w hgd s x 39 ho B 27 i0 (.slice none 0 0) 1 24 Try.underlying39 hi hz0 hz1 hz2 rfl (by decide) v j _ hs h1 ad 1 c [r] hx rfl (fun i u hu => ?_) (fun u hu => ?_) (by unfold maxLen; omega) (by omega) hB (by decide) (fun v' w' h3 h4 h5 => h v' w' ?_ h4)
  · match i, hu with
    | 0, hu => simp at hu; subst hu; simpa [Addr.add] using hc
    | n + 1, hu => simp at hu
  · simp at hu
    subst hu
    exact oneS hr
  · refine Gr.grow ⟨R, h1, h2⟩ hr ha (fun R' hR' => ?_) h4 h5 rfl
    have e : (List.range j).map R' = (List.range j).map R := by
      rcases h1.2 with ⟨rfl, rfl⟩ | ⟨g, cap, cur, rfl, _⟩
      · rfl
      · apply List.map_congr_left
        intro i hi
        have hij := List.mem_range.1 hi
        have q1 := World.ownsRow.cellAt h1 i (by omega)
        have q2 := World.ownsRow.cellAt hR' i (by omega)
        rw [q1] at q2
        simpa [hij] using q2.symm
    rw [e]
    exact h3

/-- What is due and what lies there. -/
abbrev Stt := (Nat → Nat) × (Nat → Int)

/-- A wave, at most so many; what is behind it. -/
def wvl (n m : Nat) (ss : Nat → Wr) (most : Nat) (s : Stt) : List Nat := (rdl n m ss s.1 s.2).take most
def wvf (n m : Nat) (ss : Nat → Wr) (most : Nat) (s : Stt) (j : Nat) : Nat := (wvl n m ss most s).getD j 0
def wnx (n m : Nat) (ss : Nat → Wr) (most : Nat) (s : Stt) : Stt := (lfs s.1 (wvf n m ss most s) (wvl n m ss most s).length, hsq ss s.2 (wvf n m ss most s) (wvl n m ss most s).length)

/-- Behind k waves. -/
def wst (n m : Nat) (ss : Nat → Wr) (r : Nat → Nat) (most : Nat) : Nat → Stt
  | 0 => (fun b => if b < n then r b else 0, hav ss)
  | k + 1 => wnx n m ss most (wst n m ss r most k)

/-- What is so on the way. -/
structure Wsi (n m F : Nat) (s : Stt) : Prop where
  sum : smN n s.1 + F ≤ 2000
  fit : ∀ i, i < m → -(1000 + 128 * (F : Int)) ≤ s.2 i ∧ s.2 i ≤ 1000 + 128 * (F : Int)

theorem frd_near {n : Int} {m : Nat} {ss : Nat → Wr} (hw : Wok n m ss) {h : Nat → Int} {c : Int} (hf : ∀ i, i < m → -c ≤ h i ∧ h i ≤ c) (b : Int) : ∀ i, i < m → -(c + 128) ≤ frd ss b h i ∧ frd ss b h i ≤ c + 128 := fun i hi => by
  have h1 := hf i hi
  have h2 := hw.2.2 i hi
  unfold Wgd at h2
  unfold frd stp1 stp2
  split <;> split <;> omega

theorem dec_sum {n b : Nat} {lf : Nat → Nat} (hb : b < n) (h : lf b ≠ 0) : smN n (dec lf b) + 1 = smN n lf := by
  have gen : ∀ m, m ≤ n → smN m (dec lf b) + (if b < m then 1 else 0) = smN m lf := by
    intro m
    induction m with
    | zero => intro _; rw [if_neg (by omega)]; rfl
    | succ m ih =>
      intro hm
      have h1 := ih (by omega)
      show smN m (dec lf b) + dec lf b m + _ = smN m lf + lf m
      by_cases e : m = b
      · subst e
        rw [if_neg (by omega)] at h1
        rw [if_pos (by omega)]
        have : dec lf m m = lf m - 1 := by unfold dec; rw [if_pos rfl]
        omega
      · have : dec lf b m = lf m := by unfold dec; rw [if_neg e]
        rw [this]
        by_cases e2 : b < m
        · rw [if_pos e2] at h1; rw [if_pos (by omega)]; omega
        · rw [if_neg e2] at h1; rw [if_neg (by omega)]; omega
  have := gen n (Nat.le_refl _)
  rw [if_pos hb] at this
  exact this

theorem wvl_mem {n m most : Nat} {ss : Nat → Wr} {s : Stt} {j : Nat} (hj : j < (wvl n m ss most s).length) : wvf n m ss most s j < n ∧ s.1 (wvf n m ss most s j) ≠ 0 ∧ Can m ss s.2 (wvf n m ss most s j : Int) := by
  have h1 : wvf n m ss most s j = (wvl n m ss most s)[j] := by unfold wvf; rw [List.getD_eq_getElem?_getD, List.getElem?_eq_getElem hj]; rfl
  rw [h1]
  have h2 : (wvl n m ss most s)[j] ∈ rdl n m ss s.1 s.2 := List.mem_of_mem_take (List.getElem_mem hj)
  exact mem_rdl.1 h2

theorem wvl_inj {n m most : Nat} {ss : Nat → Wr} {s : Stt} {i j : Nat} (hj : j < (wvl n m ss most s).length) (hi : i < j) : wvf n m ss most s i ≠ wvf n m ss most s j := by
  have h1 : ∀ k (hk : k < (wvl n m ss most s).length), wvf n m ss most s k = (wvl n m ss most s)[k] := fun k hk => by unfold wvf; rw [List.getD_eq_getElem?_getD, List.getElem?_eq_getElem hk]; rfl
  have hs : (wvl n m ss most s).Pairwise (· < ·) := (rdl_sorted n m ss s.1 s.2).sublist (List.take_sublist _ _)
  have := List.pairwise_iff_getElem.1 hs i j (by omega) hj hi
  rw [h1 i (by omega), h1 j hj]
  omega

theorem wvl_due {n m most : Nat} {ss : Nat → Wr} {s : Stt} : ∀ j, j ≤ (wvl n m ss most s).length → ∀ c, (∀ i, i < j → wvf n m ss most s i ≠ c) → lfs s.1 (wvf n m ss most s) j c = s.1 c
  | 0, _, c, _ => rfl
  | j + 1, hj, c, hc => by
    show dec (lfs s.1 (wvf n m ss most s) j) (wvf n m ss most s j) c = s.1 c
    unfold dec
    rw [if_neg (fun e => hc j (by omega) e.symm)]
    exact wvl_due j (by omega) c (fun i hi => hc i (by omega))

theorem wvl_good {n m most : Nat} {ss : Nat → Wr} {s : Stt} {j : Nat} (hj : j < (wvl n m ss most s).length) : wvf n m ss most s j < n ∧ lfs s.1 (wvf n m ss most s) j (wvf n m ss most s j) ≠ 0 := by
  have h1 := wvl_mem hj
  refine ⟨h1.1, ?_⟩
  rw [wvl_due j (by omega) _ (fun i hi => wvl_inj hj hi)]
  exact h1.2.1

theorem wsi_mid {n m F most : Nat} {ss : Nat → Wr} {s : Stt} (hw : Wok (n : Int) m ss) (h : Wsi n m F s) : ∀ j, j ≤ (wvl n m ss most s).length → Wsi n m (F + j) (lfs s.1 (wvf n m ss most s) j, hsq ss s.2 (wvf n m ss most s) j)
  | 0, _ => h
  | j + 1, hj => by
    have ih := wsi_mid (most := most) hw h j (by omega)
    have hg := wvl_good (n := n) (m := m) (ss := ss) (s := s) (most := most) (j := j) (by omega)
    have hs := dec_sum hg.1 hg.2
    have h1 := ih.sum
    refine ⟨?_, fun i hi => ?_⟩
    · show smN n (dec (lfs s.1 (wvf n m ss most s) j) (wvf n m ss most s j)) + (F + (j + 1)) ≤ 2000
      have h1' : smN n (lfs s.1 (wvf n m ss most s) j) + (F + j) ≤ 2000 := h1
      omega
    · have h2 := frd_near hw ih.fit (wvf n m ss most s j : Int) i hi
      show _ ≤ frd ss (wvf n m ss most s j : Int) (hsq ss s.2 (wvf n m ss most s) j) i ∧ frd ss (wvf n m ss most s j : Int) (hsq ss s.2 (wvf n m ss most s) j) i ≤ _
      have h3 : -(1000 + 128 * ((F + j : Nat) : Int) + 128) ≤ frd ss (wvf n m ss most s j : Int) (hsq ss s.2 (wvf n m ss most s) j) i ∧ frd ss (wvf n m ss most s j : Int) (hsq ss s.2 (wvf n m ss most s) j) i ≤ 1000 + 128 * ((F + j : Nat) : Int) + 128 := h2
      omega

theorem wsi_fit {n m F : Nat} {ss : Nat → Wr} {s : Stt} (hw : Wok (n : Int) m ss) (h : Wsi n m F s) : Fit m ss s.2 := fun i hi => by
  have h1 := h.fit i hi
  have h2 := h.sum
  have h3 := hw.2.2 i hi
  unfold Wgd at h3
  omega

theorem wsi_lf {n m F : Nat} {s : Stt} (h : Wsi n m F s) : ∀ b, b < n → s.1 b ≤ 2000 := fun b hb => by
  have h1 := h.sum
  have := smN_one (f := s.1) hb
  omega

/-- All waves told; or none can fire. -/
def Wend (n m : Nat) (ss : Nat → Wr) (r : Nat → Nat) (most K : Nat) : Prop := (∀ k, k < K → nz n (wst n m ss r most k).1 ≠ 0 ∧ wvl n m ss most (wst n m ss r most k) ≠ []) ∧ nz n (wst n m ss r most K).1 = 0
def Wstk (n m : Nat) (ss : Nat → Wr) (r : Nat → Nat) (most K : Nat) : Prop := (∀ k, k < K → nz n (wst n m ss r most k).1 ≠ 0 ∧ wvl n m ss most (wst n m ss r most k) ≠ []) ∧ nz n (wst n m ss r most K).1 ≠ 0 ∧ wvl n m ss most (wst n m ss r most K) = []
end Go.Proofs.Ytlccicbgepfbbaa

/- A row of rows transformed by halves: each column for itself. -/
import Derived.Test.YtabdondefoldaaaDoorGA
import Derived.Test.YtabdondefoldaaaDoorF4
namespace Go.Proofs.YtabdondefoldaaaDoor
open Go.RowKit

/-- Values, one after the other. -/
def vls (F : Nat → Value) (n : Nat) : List Value := (List.range n).map F

theorem vls_length (F : Nat → Value) (n : Nat) : (vls F n).length = n := by simp [vls]

theorem vls_get {F : Nat → Value} {n k : Nat} (h : k < n) : (vls F n)[k]? = some (F k) := by simp [vls, h]

theorem vls_same {F : Nat → Value} {n k : Nat} (h : k < n) : (vls F n).set k (F k) = vls F n := by
  apply List.ext_getElem?
  intro i
  by_cases hi : i = k
  · subst hi
    rw [List.getElem?_set_self (by rw [vls_length]; exact h), vls_get h]
  · rw [List.getElem?_set_ne (fun e => hi e.symm)]

/-- A slice of c numbers at the front of block g. -/
abbrev rv (gs cs : Nat → Nat) (c i : Nat) : Value := .slice (some ⟨gs i, 0, none⟩) c (cs i)

/-- n rows of c numbers each, in blocks of their own. -/
structure Rws (X : World) (B g n cap c : Nat) (gs cs : Nat → Nat) (M : Nat → Nat → Int) : Prop where
  row : X.ownsRow B 29 1 (.slice (some ⟨g, 0, none⟩) n cap) n (vls (rv gs cs c) n)
  rows : ∀ i, i < n → X.ownsRow B 3 1 (rv gs cs c i) c (ils (M i) c)
  inj : ∀ i j, i < n → j < n → gs i = gs j → i = j
  ne : ∀ i, i < n → gs i ≠ g

theorem own_block {w w' : World} {B e s n g c : Nat} {xs : List Value} (h : w.ownsRow B e s (.slice (some ⟨g, 0, none⟩) n c) n xs) (q : w'.heap[g]? = w.heap[g]?) : w'.ownsRow B e s (.slice (some ⟨g, 0, none⟩) n c) n xs := by
  refine ⟨h.1, ?_⟩
  rcases h.2 with h' | ⟨g', cap', cur, h', hb', hg', rest⟩
  · exact .inl h'
  · have e : g = g' := by
      injection h' with e1
      injection e1 with e2
      injection e2
    subst e
    exact .inr ⟨g, cap', cur, h', hb', q.trans hg', rest⟩

theorem own_ltg {w : World} {B e s n g c : Nat} {xs : List Value} (h : w.ownsRow B e s (.slice (some ⟨g, 0, none⟩) n c) n xs) : g < w.heap.size := (World.ownsRow.lt h g rfl).2

theorem Rws.call {X X' : World} {B g n cap c : Nat} {gs cs : Nat → Nat} {M : Nat → Nat → Int} (h : Rws X B g n cap c gs cs M) (hb : Below X.heap.size X X') : Rws X' B g n cap c gs cs M :=
  ⟨own_block h.row (hb.block _ (own_ltg h.row)), fun i hi => own_block (h.rows i hi) (hb.block _ (own_ltg (h.rows i hi))), h.inj, h.ne⟩

theorem Rws.drew {X : World} {B g n cap c : Nat} {gs cs : Nat → Nat} {M : Nat → Nat → Int} (h : Rws X B g n cap c gs cs M) : Rws X.drew B g n cap c gs cs M := ⟨h.row, h.rows, h.inj, h.ne⟩

theorem Rws.cell {X : World} {B g n cap c : Nat} {gs cs : Nat → Nat} {M : Nat → Nat → Int} (h : Rws X B g n cap c gs cs M) {i : Nat} (hi : i < n) : X.cell? ⟨g, i, none⟩ = some (rv gs cs c i) := by
  rw [World.ownsRow.cellAt h.row i (by omega), vls_get hi]

theorem Rws.meet {X X' : World} {B g n cap c P Q : Nat} {gs cs : Nat → Nat} {M M' : Nat → Nat → Int} (h : Rws X B g n cap c gs cs M) (hP : P < n) (hQ : Q < n) (hk : Kdd (fun k => k = gs P ∨ k = gs Q) X X')
    (h1 : X'.ownsRow B 3 1 (rv gs cs c P) c (ils (M' P) c)) (h2 : X'.ownsRow B 3 1 (rv gs cs c Q) c (ils (M' Q) c)) (hM : ∀ i, i ≠ P → i ≠ Q → M' i = M i) : Rws X' B g n cap c gs cs M' := by
  refine ⟨own_block h.row (hk.block _ (own_ltg h.row) (fun hd => ?_)), fun i hi => ?_, h.inj, h.ne⟩
  · rcases hd with hd | hd
    · exact h.ne P hP hd.symm
    · exact h.ne Q hQ hd.symm
  · by_cases e1 : i = P
    · subst e1; exact h1
    · by_cases e2 : i = Q
      · subst e2; exact h2
      · rw [hM i e1 e2]
        refine own_block (h.rows i hi) (hk.block _ (own_ltg (h.rows i hi)) (fun hd => ?_))
        rcases hd with hd | hd
        · exact e1 (h.inj i P hi hP hd)
        · exact e2 (h.inj i Q hi hQ hd)

theorem Rws.put {X : World} {B g n cap c P : Nat} {gs cs : Nat → Nat} {M : Nat → Nat → Int} (h : Rws X B g n cap c gs cs M) (hP : P < n) : Rws (X.setCell ⟨g, P, none⟩ (rv gs cs c P)) B g n cap c gs cs M := by
  refine ⟨?_, fun i hi => own_block (h.rows i hi) (Below.heap_setCell _ _ _ _ (h.ne i hi)), h.inj, h.ne⟩
  have := (World.ownsRow.stored h.row P (rv gs cs c P)).1
  rw [vls_same hP] at this
  exact this

/-- Each column behind r rounds; within a round behind k pairs. -/
def ctf (mf : Int → Int → Nat → Int × Int) (n : Nat) (M : Nat → Nat → Int) (r : Nat) : Nat → Nat → Int := fun i j => trf mf n (fun i => M i j) r i
def cps (mf : Int → Int → Nat → Int × Int) (n : Nat) (M : Nat → Nat → Int) (r h k : Nat) : Nat → Nat → Int := fun i j => pst mf (trf mf n (fun i => M i j) r) h r k i

theorem cps_zero (mf : Int → Int → Nat → Int × Int) (n : Nat) (M : Nat → Nat → Int) (r h : Nat) : cps mf n M r h 0 = ctf mf n M r := by
  funext i j
  unfold cps ctf
  rw [pst_zero]

theorem cps_old {mf : Int → Int → Nat → Int × Int} {n : Nat} {M : Nat → Nat → Int} {r h k : Nat} (hh : Hlf h) : cps mf n M r h k (pat h k) = ctf mf n M r (pat h k) ∧ cps mf n M r h k (pat h k + h) = ctf mf n M r (pat h k + h) :=
  ⟨funext fun _ => (pst_old hh).1, funext fun _ => (pst_old hh).2⟩

theorem cps_step {mf : Int → Int → Nat → Int × Int} {n : Nat} {M : Nat → Nat → Int} {r h k : Nat} (hh : Hlf h) :
    (cps mf n M r h (k + 1) (pat h k) = fun j => (mf (ctf mf n M r (pat h k) j) (ctf mf n M r (pat h k + h) j) (k % h * 2 ^ r)).1) ∧ (cps mf n M r h (k + 1) (pat h k + h) = fun j => (mf (ctf mf n M r (pat h k) j) (ctf mf n M r (pat h k + h) j) (k % h * 2 ^ r)).2) ∧ ∀ i, i ≠ pat h k → i ≠ pat h k + h → cps mf n M r h (k + 1) i = cps mf n M r h k i := by
  have h0 : 0 < h := by rcases hh with rfl | rfl | rfl | rfl | rfl | rfl | rfl | rfl <;> omega
  refine ⟨funext fun j => ?_, funext fun j => ?_, fun i h1 h2 => funext fun j => ?_⟩
  · show pst mf _ h r (k + 1) (pat h k) = _
    rw [← pst_step hh]
    show (if pat h k = pat h k + h then _ else if pat h k = pat h k then _ else _) = _
    rw [if_neg (by omega), if_pos rfl]
    rfl
  · show pst mf _ h r (k + 1) (pat h k + h) = _
    rw [← pst_step hh]
    show (if pat h k + h = pat h k + h then _ else _) = _
    rw [if_pos rfl]
    rfl
  · show pst mf _ h r (k + 1) i = _
    rw [← pst_step hh]
    show (if i = pat h k + h then _ else if i = pat h k then _ else _) = _
    rw [if_neg h2, if_neg h1]
    rfl

theorem meet_rows {w W : World} {B g n cap c b0 off0 q tcap P Q t : Nat} {gs cs : Nat → Nat} {M1 M2 : Nat → Nat → Int} {p sh T : Int} (hW : Rws W B g n cap c gs cs M1) (hK : Kdd (fun k => k = g ∨ ∃ i, i < n ∧ k = gs i) w W) (hP : P < n) (hQ : Q < n) (hPQ : P ≠ Q) (hc : c ≤ 1048576)
    (h1 : ∀ j, j < c → 0 ≤ M1 P j ∧ M1 P j < p) (h2 : ∀ j, j < c → 0 ≤ M1 Q j ∧ M1 Q j < p) (hs : 0 ≤ sh ∧ sh < p) (hT : 0 ≤ T ∧ T < p) (hp : 1 ≤ p ∧ p ≤ 998244353) (ht : t < q) (hB : ¬ (b0 = g ∨ ∃ i, i < n ∧ b0 = gs i)) (hb0 : b0 < w.heap.size) (hcell : w.cell? ⟨b0, off0 + t, none⟩ = some (.int .i64 T))
    (s1 : M2 P = fun j => (M1 P j + M1 Q j) % p * sh % p) (s2 : M2 Q = fun j => (M1 P j - M1 Q j + p) * T % p) (s3 : ∀ i, i ≠ P → i ≠ Q → M2 i = M1 i) :
    Calls Tryd.prog 19 #[.agg #[.int .i64 p, .int .i64 sh, .slice (some ⟨b0, off0, none⟩) q tcap], rv gs cs c P, rv gs cs c Q, .int .i64 t] W fun e w' => e = .returned (.tuple #[rv gs cs c P, rv gs cs c Q]) ∧ Rws w' B g n cap c gs cs M2 ∧ Kdd (fun k => k = g ∨ ∃ i, i < n ∧ k = gs i) w w' := by
  have key := meetR (t := t) (q := q) (T := T) (sh := sh) (cap := tcap) (b0 := b0) (off0 := off0) (hW.rows P hP) (hW.rows Q hQ) (fun e => hPQ (hW.inj P Q hP hQ e)) hc h1 h2 hs hT hp ht (fun e => hB (.inr ⟨P, hP, e⟩)) (fun e => hB (.inr ⟨Q, hQ, e⟩)) (Nat.lt_of_lt_of_le hb0 hK.size) ((hK.cell hb0 hB).trans hcell)
  refine key.mono ?_
  rintro e w' ⟨rfl, r1, r2, kd⟩
  rw [← s1] at r1
  rw [← s2] at r2
  refine ⟨rfl, hW.meet hP hQ kd r1 r2 s3, hK.trans ⟨kd.os, kd.tape, kd.output, kd.size, fun k hk hd => kd.block k hk (fun hh => hd ?_)⟩⟩
  rcases hh with hh | hh
  · exact .inr ⟨P, hP, hh⟩
  · exact .inr ⟨Q, hQ, hh⟩

set_option maxRecDepth 20000 in
set_option maxHeartbeats 8000000 in
theorem trR_any {w : World} {B g n cap m c b0 off0 tq tcap : Nat} {gs cs : Nat → Nat} {M : Nat → Nat → Int} {p sh : Int} {Tt : Nat → Int} (hm : m ≤ 8) (hn : n = 2 ^ m)
    (hL : ∀ W, Calls Tryd.prog 31 #[.int .u64 n] W fun e w' => e = .returned (.int .i64 (m + 1)) ∧ w' = W)
    (hrow : Rws w B g n cap c gs cs M) (hc : c ≤ 1048576) (h0 : ∀ i, i < n → ∀ j, j < c → 0 ≤ M i j ∧ M i j < p) (hs : 0 ≤ sh ∧ sh < p) (hp : 1 ≤ p ∧ p ≤ 998244353) (hb0 : b0 < w.heap.size) (hbg : b0 ≠ g) (hbr : ∀ i, i < n → b0 ≠ gs i)
    (hT : ∀ t, t < n / 2 → t < tq ∧ (0 ≤ Tt t ∧ Tt t < p) ∧ w.cell? ⟨b0, off0 + t, none⟩ = some (.int .i64 (Tt t))) :
    Calls Tryd.prog 17 #[.slice (some ⟨g, 0, none⟩) n cap, .func (.func 19) #[.agg #[.int .i64 p, .int .i64 sh, .slice (some ⟨b0, off0, none⟩) tq tcap]] #[]] w fun e w' => e = .returned (.tuple #[]) ∧ Rws w' B g n cap c gs cs (ctf (dmf p sh Tt) n M m) ∧ Kdd (fun k => k = g ∨ ∃ i, i < n ∧ k = gs i) w w' := by
  have hn256 : 1 ≤ n ∧ n ≤ 256 := by
    rw [hn]
    exact ⟨Nat.one_le_two_pow, by calc 2 ^ m ≤ 2 ^ 8 := Nat.pow_le_pow_right (by omega) hm
      _ = 256 := rfl⟩
  have HF : Hid (∀ r, r < m → Hlf (n / 2 ^ (r + 1)) ∧ (∀ t, t < n → pidx (n / 2 ^ (r + 1)) t < n / 2) ∧ (∀ k, k < n / 2 → pat (n / 2 ^ (r + 1)) k + n / 2 ^ (r + 1) < n ∧ k % (n / 2 ^ (r + 1)) * 2 ^ r < n / 2)) := fun r hr => half_facts hm hn hr
  have HR : Hid (Rws w B g n cap c gs cs M) := hrow
  have H0 : Hid (∀ r i, i < n → ∀ j, j < c → 0 ≤ ctf (dmf p sh Tt) n M r i j ∧ ctf (dmf p sh Tt) n M r i j < p) := fun r i hi j hj => trf_inv (p := p) (m := r) (f := fun i => M i j) (fun a b t => ⟨⟨Int.emod_nonneg _ (by omega), Int.emod_lt_of_pos _ (by omega)⟩, ⟨Int.emod_nonneg _ (by omega), Int.emod_lt_of_pos _ (by omega)⟩⟩) (fun t ht => h0 t ht j hj) i hi
  have HT : Hid (∀ t, t < n / 2 → t < tq ∧ (0 ≤ Tt t ∧ Tt t < p) ∧ w.cell? ⟨b0, off0 + t, none⟩ = some (.int .i64 (Tt t))) := hT
  have HBR : Hid (¬ (b0 = g ∨ ∃ i, i < n ∧ b0 = gs i)) := by
    rintro (e | ⟨i, hi, e⟩)
    · exact hbg e
    · exact hbr i hi e
  have HN : Hid (n = 2 ^ m) := hn
  clear hrow h0 hn hT hbg hbr
  go_enter Tryd.func17, Tryd.ntmps17
  go_wp2_with (go_at_call 31; refine (hL _).mono ?_; rintro e w' ⟨rfl, hw⟩; obtain rfl := hw.symm)
  go_loopw [4, 5, 6, 7, 13] (fun _ _ _ _ rv wr => ∃ r : Nat, rv = .int .i64 r ∧ r ≤ m ∧ Hid (Rws wr B g n cap c gs cs (ctf (dmf p sh Tt) n M r) ∧ Kdd (fun k => k = g ∨ ∃ i, i < n ∧ k = gs i) w wr)) (fun _ _ _ _ rv _ => m - (intOf rv).toNat)
  case atStart => exact ⟨0, rfl, by omega, HR.out, Kdd.refl _ _⟩
  case round =>
    obtain ⟨r, rfl, hr, hrel⟩ := hrel
    have hrel_ := hrel
    by_cases h1 : r < m
    · obtain ⟨hHlf, hP, hA⟩ := HF.out r h1
      obtain ⟨h, hh⟩ : ∃ h, h = n / 2 ^ (r + 1) := ⟨_, rfl⟩
      have eh : (n : Int) / 2 ^ (r + 1) = (h : Int) := by rw [hh]; exact shr_half hm HN.out h1
      obtain ⟨hv, hvd⟩ : ∃ hv, hv = n / 2 := ⟨_, rfl⟩
      have ec : (n : Int) / 2 = (hv : Int) := by rw [hvd]; omega
      rw [← hh, ← hvd] at hP hA
      rw [← hh] at hHlf
      have hh0 : 1 ≤ h ∧ h ≤ 128 := by rcases hHlf with h | h | h | h | h | h | h | h <;> omega
      have HX : Hid (Hlf h ∧ (∀ t, t < n → pidx h t < hv) ∧ ∀ k, k < hv → pat h k + h < n ∧ k % h * 2 ^ r < hv) := ⟨hHlf, hP, hA⟩
      have HHH : Hid (h = n / 2 ^ (r + 1)) := hh
      have HC2 : Hid (hv = n / 2) := hvd
      clear hHlf hP hA hh hvd
      go_wp2
      clear eh ec
      go_loopw [6, 7, 24] (fun _ _ kv wr2 => ∃ k : Nat, kv = .int .i64 k ∧ k ≤ hv ∧ Hid (Rws wr2 B g n cap c gs cs (cps (dmf p sh Tt) n M r h k) ∧ Kdd (fun k => k = g ∨ ∃ i, i < n ∧ k = gs i) w wr2)) (fun _ _ kv _ => hv - (intOf kv).toNat)
      case atStart => exact ⟨0, rfl, by omega, by rw [cps_zero]; exact hrel_.out.1, hrel_.out.2⟩
      case round =>
        obtain ⟨k, rfl, hk, hrel⟩ := hrel
        obtain ⟨hrow, hon⟩ := hrel.out
        by_cases h2 : k < hv
        · obtain ⟨hHlf, hP, hA⟩ := HX.out
          obtain ⟨ha1, ha2⟩ := hA k h2
          obtain ⟨a, ea0⟩ : ∃ a, a = k % h := ⟨_, rfl⟩
          obtain ⟨q, eq0⟩ : ∃ q, q = k / h := ⟨_, rfl⟩
          obtain ⟨qh, eqh⟩ : ∃ qh, qh = q * h := ⟨_, rfl⟩
          obtain ⟨P, eP⟩ : ∃ P, P = pat h k := ⟨_, rfl⟩
          obtain ⟨Q, eQ⟩ : ∃ Q, Q = P + h := ⟨_, rfl⟩
          obtain ⟨t, et⟩ : ∃ t, t = a * 2 ^ r := ⟨_, rfl⟩
          have f1 : (k : Int) % (h : Int) = (a : Int) := by rw [ea0]; exact (Int.natCast_emod _ _).symm
          have f2 : (k : Int) / (h : Int) = (q : Int) := by rw [eq0]; exact (Int.natCast_ediv _ _).symm
          have f3 : (q : Int) * (h : Int) = (qh : Int) := by rw [eqh]; exact (Int.natCast_mul _ _).symm
          have hPa : P = a + qh * 2 := by rw [eP, ea0, eqh, eq0]; rfl
          have f4 : (a : Int) + (qh : Int) * 2 = (P : Int) := by omega
          have f5 : (P : Int) + (h : Int) = (Q : Int) := by omega
          have f6 : (a : Int) * 2 ^ r = (t : Int) := by rw [et, Int.natCast_mul, Int.natCast_pow]; rfl
          rw [← ea0, ← et] at ha2
          rw [← eP, ← eQ] at ha1
          have hvv : hv ≤ 128 := by have := HC2.out; omega
          have HQ : Hid (q ≤ 256) := by show q ≤ 256; rw [eq0]; exact Nat.le_trans (Nat.div_le_self _ _) (by omega)
          have b1 : qh ≤ 256 ∧ P < n ∧ Q < n ∧ t < 128 ∧ a < h := ⟨by omega, by omega, by omega, by omega, by rw [ea0]; exact Nat.mod_lt _ (by omega)⟩
          have hPQ : P ≠ Q := by omega
          have ho := cps_old (mf := dmf p sh Tt) (n := n) (M := M) (r := r) (k := k) hHlf
          rw [← eP, ← eQ] at ho
          have st := cps_step (mf := dmf p sh Tt) (n := n) (M := M) (r := r) (k := k) hHlf
          rw [← eP, ← eQ, ← ea0, ← et] at st
          obtain ⟨hT1, hT2, hT3⟩ := HT.out t (by have := HC2.out; omega)
          have hcall : Hid (∀ W, Rws W B g n cap c gs cs (cps (dmf p sh Tt) n M r h k) → Kdd (fun k => k = g ∨ ∃ i, i < n ∧ k = gs i) w W → Calls Tryd.prog 19 #[.agg #[.int .i64 p, .int .i64 sh, .slice (some ⟨b0, off0, none⟩) tq tcap], rv gs cs c P, rv gs cs c Q, .int .i64 t] W fun e w' => e = .returned (.tuple #[rv gs cs c P, rv gs cs c Q]) ∧ Rws w' B g n cap c gs cs (cps (dmf p sh Tt) n M r h (k + 1)) ∧ Kdd (fun k => k = g ∨ ∃ i, i < n ∧ k = gs i) w w') := fun W hW hK => meet_rows (M1 := cps (dmf p sh Tt) n M r h k) (M2 := cps (dmf p sh Tt) n M r h (k + 1)) (T := Tt t) hW hK b1.2.1 b1.2.2.1 hPQ hc (by rw [ho.1]; exact H0.out r P b1.2.1) (by rw [ho.2]; exact H0.out r Q b1.2.2.1) hs hT2 hp hT1 HBR.out hb0 hT3 (by rw [st.1, ho.1, ho.2]; rfl) (by rw [st.2.1, ho.1, ho.2]; rfl) st.2.2
          have hce1 := hrow.cell b1.2.1
          have hce2 := hrow.cell b1.2.2.1
          have HROW : Hid (Rws wr B g n cap c gs cs (cps (dmf p sh Tt) n M r h k)) := hrow
          have HB1 : Hid _ := b1
          have HPQ : Hid (P ≠ Q) := hPQ
          have ON0 : Hid (Kdd (fun k => k = g ∨ ∃ i, i < n ∧ k = gs i) w wr) := hon
          clear hT1 hT2 hT3
          have EE : Hid (wrap64 ((a : Int) + wrap64 (wrap64 (wrap64 (q : Int) * (h : Int)) * 2)) = (P : Int)) := by
            have hq := HQ.out
            show wrap64 ((a : Int) + wrap64 (wrap64 (wrap64 (q : Int) * (h : Int)) * 2)) = (P : Int)
            rw [w64 (n := (q : Int)) (by omega) (by omega), f3, w64 (n := (qh : Int)) (by omega) (by omega), w64 (n := (qh : Int) * 2) (by omega) (by omega), f4, w64 (n := (P : Int)) (by omega) (by omega)]
          clear st ho hrow hon hrel hA hP ha1 ha2 hPa eP eQ et ea0 eq0 eqh hHlf
          go_wp2
          go_region
          rw [EE.out]
          clear EE f2 f3 f4 HQ
          have hPn : P < n := b1.2.1
          have hQn : Q < n := b1.2.2.1
          have hne : ¬ (h = 0) := by omega
          have f1' : Int.tmod (k : Int) (h : Int) = (a : Int) := by rw [Int.tmod_eq_emod_of_nonneg (by omega)]; exact f1
          go_wp2
          refine wp_region_any (by kernel_rfl) ?_
          change wpAny _ _ _ _ _ _ _ (World.drew _)
          refine wpI_any (I := fun _ => True) _ _ _ _ ?_
          refine wpI_take (i := 0) (v := ?_) rfl (by kernel_rfl) (by kernel_rfl) (by kernel_rfl) (fun _ _ _ h => h) ⟨by rfl, ?_⟩ ?_
          rotate_left
          · intro X _; go_simp; with_reducible rfl
          refine wpI_take (i := 1) (v := ?_) rfl (by kernel_rfl) (by kernel_rfl) (by kernel_rfl) (fun _ _ _ h => h) ⟨by rfl, ?_⟩ ?_
          rotate_left
          · intro X _; go_simp; with_reducible rfl
          refine wpI_take (i := 2) (v := ?_) rfl (by kernel_rfl) (by kernel_rfl) (by kernel_rfl) (fun _ _ _ h => h) ⟨by rfl, ?_⟩ ?_
          rotate_left
          · intro X _; go_simp; with_reducible rfl
          refine wpI_take (i := 3) (v := ?_) rfl (by kernel_rfl) (by kernel_rfl) (by kernel_rfl) (fun _ _ _ h => h) ⟨by rfl, ?_⟩ ?_
          rotate_left
          · intro X _; go_simp; with_reducible rfl
          refine wpI_take (i := 4) (v := ?_) rfl (by kernel_rfl) (by kernel_rfl) (by kernel_rfl) (fun _ _ _ h => h) ⟨by rfl, ?_⟩ ?_
          rotate_left
          · intro X _; go_simp; with_reducible rfl
          refine wpI_take (i := 5) (v := .int .i64 (Q : Int)) rfl (by kernel_rfl) (by kernel_rfl) (by kernel_rfl) (fun _ _ _ h => h) ⟨by rfl, ?_⟩ ?_
          · intro X _; go_simp; exact iw (by omega) (by omega)
          refine wpI_take (i := 6) (v := ?_) rfl (by kernel_rfl) (by kernel_rfl) (by kernel_rfl) (fun _ _ _ h => h) ⟨by rfl, ?_⟩ ?_
          rotate_left
          · intro X _; go_simp; with_reducible rfl
          refine wpI_take (i := 7) (v := ?_) rfl (by kernel_rfl) (by kernel_rfl) (by kernel_rfl) (fun _ _ _ h => h) ⟨by rfl, ?_⟩ ?_
          rotate_left
          · intro X _; go_simp; with_reducible rfl
          refine wpI_take (i := 8) (v := ?_) rfl (by kernel_rfl) (by kernel_rfl) (by kernel_rfl) (fun _ _ _ h => h) ⟨by rfl, ?_⟩ ?_
          rotate_left
          · intro X _; go_simp; with_reducible rfl
          refine wpI_take (i := 9) (v := ?_) rfl (by kernel_rfl) (by kernel_rfl) (by kernel_rfl) (fun _ _ _ h => h) ⟨by rfl, ?_⟩ ?_
          rotate_left
          · intro X _; go_simp; with_reducible rfl
          refine wpI_take (i := 11) (v := ?_) rfl (by kernel_rfl) (by kernel_rfl) (by kernel_rfl) (fun _ _ _ h => h) ⟨by rfl, ?_⟩ ?_
          rotate_left
          · intro X _; go_simp; with_reducible rfl
          refine wpI_take (i := 12) (v := ?_) rfl (by kernel_rfl) (by kernel_rfl) (by kernel_rfl) (fun _ _ _ h => h) ⟨by rfl, ?_⟩ ?_
          rotate_left
          · intro X _; go_simp; with_reducible rfl
          refine wpI_take (i := 13) (v := ?_) rfl (by kernel_rfl) (by kernel_rfl) (by kernel_rfl) (fun _ _ _ h => h) ⟨by rfl, ?_⟩ ?_
          rotate_left
          · intro X _; go_simp; with_reducible rfl
          refine wpI_take (i := 14) (v := .int .i64 (Q : Int)) rfl (by kernel_rfl) (by kernel_rfl) (by kernel_rfl) (fun _ _ _ h => h) ⟨by rfl, ?_⟩ ?_
          · intro X _; go_simp; exact iw (by omega) (by omega)
          refine wpI_take (i := 15) (v := ?_) rfl (by kernel_rfl) (by kernel_rfl) (by kernel_rfl) (fun _ _ _ h => h) ⟨by rfl, ?_⟩ ?_
          rotate_left
          · intro X _; go_simp; with_reducible rfl
          refine wpI_take (i := 17) (v := ?_) rfl (by kernel_rfl) (by kernel_rfl) (by kernel_rfl) (fun _ _ _ h => h) ⟨by rfl, ?_⟩ ?_
          rotate_left
          · intro X _; go_simp; with_reducible rfl
          refine wpI_take (i := 18) (v := ?_) rfl (by kernel_rfl) (by kernel_rfl) (by kernel_rfl) (fun _ _ _ h => h) ⟨by rfl, ?_⟩ ?_
          rotate_left
          · intro X _; go_simp; with_reducible rfl
          refine wpI_take (i := 19) (v := .int .i64 (a : Int)) rfl (by kernel_rfl) (by kernel_rfl) (by kernel_rfl) (fun _ _ _ h => h) ⟨by rfl, ?_⟩ ?_
          · intro X _; go_simp
          refine wpI_take (i := 20) (v := ?_) rfl (by kernel_rfl) (by kernel_rfl) (by kernel_rfl) (fun _ _ _ h => h) ⟨by rfl, ?_⟩ ?_
          rotate_left
          · intro X _; go_simp; with_reducible rfl
          refine wpI_take (i := 21) (v := .int .i64 (t : Int)) rfl (by kernel_rfl) (by kernel_rfl) (by kernel_rfl) (fun _ _ _ h => h) ⟨by rfl, ?_⟩ ?_
          · intro X _; go_simp; exact iw (by omega) (by omega)
          refine wpI_two (i := 10) (j := 16) rfl rfl (by kernel_rfl) trivial (by rfl) (by rfl) ?_ ?_
          · intro K hK
            go_simp
            refine hK _ _ ?_
            refine wpI_only (i := 16) rfl (by kernel_rfl) trivial (by rfl) ?_
            intro K hK
            go_simp
            refine hK _ _ ?_
            refine wpI_only (i := 22) rfl (by kernel_rfl) trivial (by rfl) ?_
            intro K hK
            go_simp
            go_wp2_with (go_at_call 19; refine (hcall.out _ (by first | exact HROW.out.drew.drew | exact HROW.out.drew) (by first | exact ON0.out.drew.drew | exact ON0.out.drew)).mono ?_; rintro e w1x ⟨rfl, hr0, hn0⟩; have HRX : Hid (Rws w1x B g n cap c gs cs (cps (dmf p sh Tt) n M r h (k + 1))) := hr0; have HNX : Hid (Kdd (fun k => k = g ∨ ∃ i, i < n ∧ k = gs i) w w1x) := hn0; clear hr0 hn0)
            have hrx := HRX.out
            have honx := HNX.out
            have hfz1 := World.ownsRow.frozenAt hrx.row P
            have hcx1 := hrx.cell HB1.out.2.1
            have hst1 := hrx.put HB1.out.2.1
            have hce3 := hst1.cell HB1.out.2.2.1
            have hfz3 := World.ownsRow.frozenAt hst1.row Q
            have hst2 := hst1.put HB1.out.2.2.1
            have HS : Hid _ := hst2
            have HO2 : Hid _ := (honx.put (.inl rfl) P (rv gs cs c P)).put (.inl rfl) Q (rv gs cs c Q)
            clear hst1 hst2 hrx honx
            refine wpI_take (i := 23) (v := ?_) rfl (by kernel_rfl) (by kernel_rfl) (by kernel_rfl) (fun _ _ _ h => h) ⟨by rfl, ?_⟩ ?_
            rotate_left
            · intro X _; go_simp; with_reducible rfl
            refine wpI_take (i := 24) (v := ?_) rfl (by kernel_rfl) (by kernel_rfl) (by kernel_rfl) (fun _ _ _ h => h) ⟨by rfl, ?_⟩ ?_
            rotate_left
            · intro X _; go_simp; with_reducible rfl
            refine wpI_take (i := 25) (v := ?_) rfl (by kernel_rfl) (by kernel_rfl) (by kernel_rfl) (fun _ _ _ h => h) ⟨by rfl, ?_⟩ ?_
            rotate_left
            · intro X _; go_simp; with_reducible rfl
            refine wpI_take (i := 26) (v := ?_) rfl (by kernel_rfl) (by kernel_rfl) (by kernel_rfl) (fun _ _ _ h => h) ⟨by rfl, ?_⟩ ?_
            rotate_left
            · intro X _; go_simp; with_reducible rfl
            refine wpI_only (i := 27) rfl (by kernel_rfl) trivial (by rfl) ?_
            intro K hK
            go_simp
            refine hK _ _ ?_
            refine wpI_take (i := 28) (v := ?_) rfl (by kernel_rfl) (by kernel_rfl) (by kernel_rfl) (fun _ _ _ h => h) ⟨by rfl, ?_⟩ ?_
            rotate_left
            · intro X _; go_simp; with_reducible rfl
            refine wpI_only (i := 29) rfl (by kernel_rfl) trivial (by rfl) ?_
            intro K hK
            go_simp
            refine hK _ _ ?_
            refine wpI_done trivial (by kernel_rfl) ?_ _
            go_wp2
            go_roundw
            case rel => exact ⟨k + 1, by go_num, by omega, HS.out, ⟨HO2.out.os, HO2.out.tape, HO2.out.output, HO2.out.size, HO2.out.block⟩⟩
            case measure => simp [intOf]; omega
          · intro K hK
            go_simp
            refine hK _ _ ?_
            refine wpI_only (i := 10) rfl (by kernel_rfl) trivial (by rfl) ?_
            intro K hK
            go_simp
            refine hK _ _ ?_
            refine wpI_only (i := 22) rfl (by kernel_rfl) trivial (by rfl) ?_
            intro K hK
            go_simp
            go_wp2_with (go_at_call 19; refine (hcall.out _ (by first | exact HROW.out.drew.drew | exact HROW.out.drew) (by first | exact ON0.out.drew.drew | exact ON0.out.drew)).mono ?_; rintro e w1x ⟨rfl, hr0, hn0⟩; have HRX : Hid (Rws w1x B g n cap c gs cs (cps (dmf p sh Tt) n M r h (k + 1))) := hr0; have HNX : Hid (Kdd (fun k => k = g ∨ ∃ i, i < n ∧ k = gs i) w w1x) := hn0; clear hr0 hn0)
            have hrx := HRX.out
            have honx := HNX.out
            have hfz1 := World.ownsRow.frozenAt hrx.row P
            have hcx1 := hrx.cell HB1.out.2.1
            have hst1 := hrx.put HB1.out.2.1
            have hce3 := hst1.cell HB1.out.2.2.1
            have hfz3 := World.ownsRow.frozenAt hst1.row Q
            have hst2 := hst1.put HB1.out.2.2.1
            have HS : Hid _ := hst2
            have HO2 : Hid _ := (honx.put (.inl rfl) P (rv gs cs c P)).put (.inl rfl) Q (rv gs cs c Q)
            clear hst1 hst2 hrx honx
            refine wpI_take (i := 23) (v := ?_) rfl (by kernel_rfl) (by kernel_rfl) (by kernel_rfl) (fun _ _ _ h => h) ⟨by rfl, ?_⟩ ?_
            rotate_left
            · intro X _; go_simp; with_reducible rfl
            refine wpI_take (i := 24) (v := ?_) rfl (by kernel_rfl) (by kernel_rfl) (by kernel_rfl) (fun _ _ _ h => h) ⟨by rfl, ?_⟩ ?_
            rotate_left
            · intro X _; go_simp; with_reducible rfl
            refine wpI_take (i := 25) (v := ?_) rfl (by kernel_rfl) (by kernel_rfl) (by kernel_rfl) (fun _ _ _ h => h) ⟨by rfl, ?_⟩ ?_
            rotate_left
            · intro X _; go_simp; with_reducible rfl
            refine wpI_take (i := 26) (v := ?_) rfl (by kernel_rfl) (by kernel_rfl) (by kernel_rfl) (fun _ _ _ h => h) ⟨by rfl, ?_⟩ ?_
            rotate_left
            · intro X _; go_simp; with_reducible rfl
            refine wpI_only (i := 27) rfl (by kernel_rfl) trivial (by rfl) ?_
            intro K hK
            go_simp
            refine hK _ _ ?_
            refine wpI_take (i := 28) (v := ?_) rfl (by kernel_rfl) (by kernel_rfl) (by kernel_rfl) (fun _ _ _ h => h) ⟨by rfl, ?_⟩ ?_
            rotate_left
            · intro X _; go_simp; with_reducible rfl
            refine wpI_only (i := 29) rfl (by kernel_rfl) trivial (by rfl) ?_
            intro K hK
            go_simp
            refine hK _ _ ?_
            refine wpI_done trivial (by kernel_rfl) ?_ _
            go_wp2
            go_roundw
            case rel => exact ⟨k + 1, by go_num, by omega, HS.out, ⟨HO2.out.os, HO2.out.tape, HO2.out.output, HO2.out.size, HO2.out.block⟩⟩
            case measure => simp [intOf]; omega
        · obtain rfl : k = hv := by omega
          have HR2 : Hid _ := hrow
          have HO2 : Hid _ := hon
          clear hrow hon hrel
          go_wp2
          go_roundw
          case rel =>
            have e2 : ∀ i, i < n → cps (dmf p sh Tt) n M r h k i = ctf (dmf p sh Tt) n M (r + 1) i := fun i hi => funext fun j => by
              have e1 : trf (dmf p sh Tt) n (fun i => M i j) (r + 1) = nw (dmf p sh Tt) (trf (dmf p sh Tt) n (fun i => M i j) r) h r := by rw [HHH.out]; rfl
              unfold ctf cps
              rw [e1]
              unfold pst
              rw [if_pos (HX.out.2.1 i hi)]
            exact ⟨r + 1, by go_num, by omega, ⟨HR2.out.row, fun i hi => by rw [← e2 i hi]; exact HR2.out.rows i hi, HR2.out.inj, HR2.out.ne⟩, HO2.out⟩
          case measure => simp [intOf]; omega
    · obtain rfl : r = m := by omega
      go_wp2
      go_end0
      exact ⟨rfl, hrel.out.1, hrel.out.2⟩
end Go.Proofs.YtabdondefoldaaaDoor

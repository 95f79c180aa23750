import Derived.Test.YtnhhalhaefeoeaaStkNum
/- Laws of boxes below each other. No program is named here. -/
namespace Go.Proofs.Ytnhhalhaefeoeaa
set_option linter.unusedVariables false
set_option linter.unusedSimpArgs false

theorem zF_sgn : Sgn zF := ⟨by decide, by decide⟩
/-! Without margins below 0. -/
def noNeg (x : Ld) : Ld := ⟨x.h, ⟨x.t.p, 0⟩, ⟨x.b.p, 0⟩, x.th⟩
theorem noNeg_ok {x : Ld} (h : LdOk x) : LdOk (noNeg x) := by
  obtain ⟨a1, a2, a3, a4, a5, a6, a7, a8, a9, a10, a11⟩ := h
  exact ⟨a1, a2, a3, a4, by show (0 : Int) ≤ 0; omega, by show (-4294967296 : Int) < 0; omega, a7, a8, by show (0 : Int) ≤ 0; omega, by show (-4294967296 : Int) < 0; omega, a11⟩
structure RiseOk (s : Sk) (e m : Int) : Prop where
  fq : s.f.q = 0
  tq : s.t.q = 0
  fp : 0 ≤ s.f.p
  top : s.a = true → s.y = 0
  e0 : 0 ≤ e
  e1 : e ≤ posS s s.f
  m0 : 0 ≤ m
  m1 : m ≤ s.y
theorem rise_start (top : Bool) : RiseOk (startS top) 0 0 := by
  cases top <;> exact ⟨rfl, rfl, by decide, fun _ => rfl, by decide, by decide, by decide, by decide⟩
theorem rise_step {s : Sk} {e m : Int} {x : Ld} (h : RiseOk s e m) (hx : LdOk x) (h1 : x.t.q = 0) (h2 : x.b.q = 0) :
    e ≤ atZ s x ∧ RiseOk (putS s x) (max e (atZ s x + x.h)) (m + x.h) := by
  obtain ⟨y, ⟨p, q⟩, a, ⟨tp, tq⟩⟩ := s
  obtain ⟨g, ⟨xp, xq⟩, ⟨yp, yq⟩, th⟩ := x
  obtain ⟨b1, b2, b3, b4, b5, b6, b7, b8⟩ := h
  obtain ⟨c1, -, c3, -, -, -, c7, -, -, -, c11⟩ := hx
  simp only at b1 b2 b3 b4 b5 b6 b7 b8 c1 c3 c7 c11 h1 h2
  subst b1 b2 h1 h2
  have hz : e ≤ atZ ⟨y, ⟨p, 0⟩, a, ⟨tp, 0⟩⟩ ⟨g, ⟨xp, 0⟩, ⟨yp, 0⟩, th⟩ ∧ y ≤ atZ ⟨y, ⟨p, 0⟩, a, ⟨tp, 0⟩⟩ ⟨g, ⟨xp, 0⟩, ⟨yp, 0⟩, th⟩ := by
    unfold atZ posS joinS
    unfold posS at b6
    cases a
    · simp only [Bool.false_eq_true, if_false] at b6 ⊢; omega
    · simp only [if_true] at b6 ⊢; omega
  refine ⟨hz.1, ?_⟩
  cases th
  · unfold putS
    simp only [Bool.false_eq_true, if_false]
    generalize atZ ⟨y, ⟨p, 0⟩, a, ⟨tp, 0⟩⟩ ⟨g, ⟨xp, 0⟩, ⟨yp, 0⟩, false⟩ = z at *
    refine ⟨rfl, ?_, c7, fun h => by simp at h, by show 0 ≤ max e (z + g); omega, ?_, by show 0 ≤ m + g; omega, by show m + g ≤ z + g; omega⟩
    · cases a
      · rfl
      · show (joinS ⟨p, 0⟩ ⟨xp, 0⟩).q = 0
        unfold joinS; simp only; omega
    · show max e (z + g) ≤ posS ⟨z + g, ⟨yp, 0⟩, false, _⟩ ⟨yp, 0⟩
      unfold posS; simp only [Bool.false_eq_true, if_false]; omega
  · have hg := c11 rfl
    subst hg
    unfold putS
    simp only [if_true]
    refine ⟨by unfold joinS; simp only; omega, rfl, by unfold joinS; simp only; omega, b4, by show 0 ≤ max e (_ + 0); omega, ?_, by show 0 ≤ m + 0; omega, by show m + 0 ≤ y; omega⟩
    unfold atZ posS joinS at hz ⊢
    unfold posS at b6
    cases a
    · simp only [Bool.false_eq_true, if_false] at b6 hz ⊢; omega
    · simp only [if_true] at b6 hz ⊢; omega
theorem rise_end {s : Sk} {e m : Int} (h : RiseOk s e m) (b : Bool) : m ≤ (endS s b).h ∧ (endS s b).t.q = 0 ∧ (endS s b).b.q = 0 := by
  obtain ⟨y, ⟨p, q⟩, a, ⟨tp, tq⟩⟩ := s
  obtain ⟨b1, b2, b3, b4, b5, b6, b7, b8⟩ := h
  simp only at b1 b2 b3 b4 b5 b6 b7 b8
  subst b1 b2
  unfold endS
  cases a
  · cases b
    · refine ⟨?_, rfl, rfl⟩
      show m ≤ max (y + (p + 0)) 0; omega
    · refine ⟨?_, rfl, rfl⟩
      show m ≤ max y 0; omega
  · have := b4 rfl
    refine ⟨?_, rfl, rfl⟩
    show m ≤ 0; omega

/-! All with a height. -/
def solid (x : Ld) : Ld := ⟨x.h, x.t, x.b, false⟩
theorem solid_ok {x : Ld} (h : LdOk x) : LdOk (solid x) := by
  obtain ⟨a1, a2, a3, a4, a5, a6, a7, a8, a9, a10, a11⟩ := h
  exact ⟨a1, a2, a3, a4, a5, a6, a7, a8, a9, a10, fun h => by simp [solid] at h⟩
structure Shift (s s' : Sk) (d : Int) : Prop where
  a : s.a = false
  a' : s'.a = false
  f : s'.f = s.f
  y : s'.y = s.y + d
theorem shift_step {s s' : Sk} {d : Int} {x : Ld} (h : Shift s s' d) (hx : x.th = false) : atZ s' x = atZ s x + d ∧ Shift (putS s x) (putS s' x) d := by
  obtain ⟨h1, h2, h3, h4⟩ := h
  have e : atZ s' x = atZ s x + d := by
    unfold atZ posS
    rw [h1, h2, h3, h4]
    simp only [Bool.false_eq_true, if_false]; omega
  refine ⟨e, ?_⟩
  unfold putS
  rw [hx, h1, h2, e]
  simp only [Bool.false_eq_true, if_false]
  exact ⟨rfl, rfl, rfl, by simp only; omega⟩
theorem shift_first (x : Ld) (hx : x.th = false) (h1 : 0 ≤ x.t.p) (h2 : x.t.q ≤ 0) : atZ (startS false) x = atZ (startS true) x + (x.t.p + x.t.q) ∧ Shift (putS (startS true) x) (putS (startS false) x) (x.t.p + x.t.q) ∧ (putS (startS true) x).t = x.t ∧ (putS (startS false) x).t = zF := by
  obtain ⟨g, ⟨xp, xq⟩, ⟨yp, yq⟩, th⟩ := x
  simp only at hx h1 h2
  subst hx
  have e1 : atZ (startS true) ⟨g, ⟨xp, xq⟩, ⟨yp, yq⟩, false⟩ = 0 := rfl
  have e2 : atZ (startS false) ⟨g, ⟨xp, xq⟩, ⟨yp, yq⟩, false⟩ = xp + xq := by
    show (0 : Int) + (max 0 xp + min 0 xq) = _; omega
  refine ⟨by rw [e1, e2]; simp only; omega, ⟨rfl, rfl, rfl, ?_⟩, ?_, rfl⟩
  · show atZ (startS false) _ + g = atZ (startS true) _ + g + _
    rw [e1, e2]; simp only; omega
  · show joinS zF ⟨xp, xq⟩ = ⟨xp, xq⟩
    unfold joinS zF; simp only [Fd.mk.injEq]; omega
theorem runS_t' : ∀ (l : List Ld) (s : Sk), s.a = false → (runS s l).t = s.t ∧ (runS s l).a = false
  | [], s, h => ⟨rfl, h⟩
  | x :: l, s, h => by
    have e : (putS s x).t = s.t ∧ (putS s x).a = false := by
      unfold putS
      cases x.th
      · simp [h]
      · simp [h]
    have := runS_t' l (putS s x) e.2
    exact ⟨this.1.trans e.1, this.2⟩
theorem shift_all {d : Int} : ∀ (l : List Ld) (s s' : Sk), Shift s s' d → (∀ x ∈ l, x.th = false) → (∀ (k : Nat) (h : k < (atL s l).length) (h' : k < (atL s' l).length), (atL s' l)[k] = (atL s l)[k] + d)
  | [], s, s', _, _, k, h, _ => by simp [atL] at h
  | x :: l, s, s', hs, hl, k, h, h' => by
    obtain ⟨e, hs2⟩ := shift_step hs (hl x List.mem_cons_self)
    cases k with
    | zero => exact e
    | succ k => exact shift_all l _ _ hs2 (fun z hz => hl z (List.mem_cons_of_mem _ hz)) k (by simpa [atL] using h) (by simpa [atL] using h')
/-- With the top closed all stand lower by what else goes out. -/
theorem opens (l : List Ld) (x : Ld) (hl : ∀ z ∈ x :: l, z.th = false) (h1 : 0 ≤ x.t.p) (h2 : x.t.q ≤ 0) (k : Nat) (h : k < (atL (startS true) (x :: l)).length) (h' : k < (atL (startS false) (x :: l)).length) :
    (atL (startS false) (x :: l))[k] = (atL (startS true) (x :: l))[k] + (x.t.p + x.t.q) := by
  obtain ⟨e, hs, -, -⟩ := shift_first x (hl x List.mem_cons_self) h1 h2
  cases k with
  | zero => exact e
  | succ k => exact shift_all l _ _ hs (fun z hz => hl z (List.mem_cons_of_mem _ hz)) k (by simpa [atL] using h) (by simpa [atL] using h')
theorem opens_t (l : List Ld) (x : Ld) (hx : x.th = false) (h1 : 0 ≤ x.t.p) (h2 : x.t.q ≤ 0) : (runS (startS true) (x :: l)).t = x.t ∧ (runS (startS true) (x :: l)).a = false ∧ (runS (startS false) (x :: l)).t = zF ∧ (runS (startS false) (x :: l)).a = false := by
  obtain ⟨-, hs, e1, e2⟩ := shift_first x hx h1 h2
  have a1 := runS_t' l _ hs.a
  have a2 := runS_t' l _ hs.a'
  exact ⟨a1.1.trans e1, a1.2, a2.1.trans e2, a2.2⟩
/-- What the last one leaves. -/
theorem last_is (s : Sk) (l : List Ld) (n : Nat) (hn : l.length = n + 1) (hx : (l[n]'(by omega)).th = false) :
    (runS s l).y = ((atL s l)[n]'(by rw [atL_length]; omega)) + (l[n]'(by omega)).h ∧ (runS s l).f = (l[n]'(by omega)).b := by
  have h : n < l.length := by omega
  have e : runS s l = putS (runS s (l.take n)) l[n] := by rw [← runS_take _ _ _ h, ← hn, List.take_length]
  rw [atL_get, e]
  unfold putS
  rw [hx]
  exact ⟨rfl, rfl⟩

/-! One that is empty. -/
def emptyLd : Ld := ⟨0, zF, zF, true⟩
theorem emptyLd_ok : LdOk emptyLd := ⟨by decide, by decide, by decide, by decide, by decide, by decide, by decide, by decide, by decide, by decide, fun _ => rfl⟩
theorem join_zero {f : Fd} (h : Sgn f) : joinS f zF = f := by
  obtain ⟨p, q⟩ := f
  obtain ⟨h1, h2⟩ := h
  unfold joinS zF; simp only [Fd.mk.injEq] at *; omega
theorem put_empty {s : Sk} (h : Sgn s.f) : putS s emptyLd = s := by
  unfold putS emptyLd
  simp only [if_true]
  rw [join_zero h, join_zero h]
theorem StOk.sgn {k : Nat} {s : Sk} (h : StOk k s) : Sgn s.f := ⟨h.fp, h.fq⟩
def moreL (l : List Ld) (k : Nat) : List Ld := l.take k ++ emptyLd :: l.drop k
theorem more_run (top : Bool) (l : List Ld) (hl : ∀ x ∈ l, LdOk x) (k : Nat) (hk : k ≤ l.length) : runS (startS top) (moreL l k) = runS (startS top) l := by
  have h := (take_ok hl top k hk).sgn
  unfold moreL
  rw [runS_append]
  show runS (putS (runS (startS top) (l.take k)) emptyLd) (l.drop k) = _
  rw [put_empty h, ← runS_append, List.take_append_drop]
theorem more_at (top : Bool) (l : List Ld) (hl : ∀ x ∈ l, LdOk x) (k : Nat) (hk : k ≤ l.length) :
    (atL (startS top) (moreL l k)).take k ++ (atL (startS top) (moreL l k)).drop (k + 1) = atL (startS top) l := by
  have h := (take_ok hl top k hk).sgn
  have e : atL (startS top) (moreL l k) = atL (startS top) (l.take k) ++ atZ (runS (startS top) (l.take k)) emptyLd :: atL (runS (startS top) (l.take k)) (l.drop k) := by
    unfold moreL
    rw [atL_append]
    show _ ++ atZ _ emptyLd :: atL (putS _ emptyLd) (l.drop k) = _
    rw [put_empty h]
  have hlen : (atL (startS top) (l.take k)).length = k := by rw [atL_length, List.length_take]; omega
  rw [e, List.take_left' hlen, ← List.drop_drop, List.drop_left' hlen, List.drop_succ_cons, List.drop_zero, ← atL_append, List.take_append_drop]
theorem more_ok (l : List Ld) (hl : ∀ x ∈ l, LdOk x) (k : Nat) : ∀ x ∈ moreL l k, LdOk x := fun x hx => by
  unfold moreL at hx
  rcases List.mem_append.1 hx with hx | hx
  · exact hl x (List.mem_of_mem_take hx)
  · rcases List.mem_cons.1 hx with rfl | hx
    · exact emptyLd_ok
    · exact hl x (List.mem_of_mem_drop hx)
theorem more_len (l : List Ld) (k : Nat) (hk : k ≤ l.length) : (moreL l k).length = l.length + 1 := by
  unfold moreL; rw [List.length_append, List.length_cons, List.length_take, List.length_drop]; omega

/-! Without margins. -/
def bareLd (x : Ld) : Ld := ⟨x.h, zF, zF, false⟩
theorem bareLd_ok {x : Ld} (h : LdOk x) : LdOk (bareLd x) := ⟨h.h0, h.h1, by show (0 : Int) ≤ 0; omega, by show (0 : Int) < _; omega, by show (0 : Int) ≤ 0; omega, by show _ < (0 : Int); omega, by show (0 : Int) ≤ 0; omega, by show (0 : Int) < _; omega, by show (0 : Int) ≤ 0; omega, by show _ < (0 : Int); omega, fun h => by simp [bareLd] at h⟩
def sumH (l : List Ld) : Int := (l.map Ld.h).sum
theorem sumH_take (l : List Ld) (k : Nat) (h : k < l.length) : sumH (l.take (k + 1)) = sumH (l.take k) + l[k].h := by
  unfold sumH; rw [List.take_succ_eq_append_getElem h, List.map_append, List.sum_append]; simp
theorem bare_run (top : Bool) (l : List Ld) (k : Nat) (hk : k ≤ l.length) : (runS (startS top) ((l.map bareLd).take k)).f = zF ∧ (runS (startS top) ((l.map bareLd).take k)).t = zF ∧ (runS (startS top) ((l.map bareLd).take k)).y = sumH (l.take k) ∧ (runS (startS top) ((l.map bareLd).take k)).a = (top && decide (k = 0)) := by
  induction k with
  | zero => exact ⟨rfl, rfl, rfl, by simp [runS, startS]⟩
  | succ k ih =>
    obtain ⟨h1, h2, h3, h4⟩ := ih (by omega)
    have hlt : k < (l.map bareLd).length := by rw [List.length_map]; omega
    rw [runS_take _ _ _ hlt, sumH_take l k (by omega)]
    generalize runS (startS top) ((l.map bareLd).take k) = s at *
    have e : (l.map bareLd)[k] = bareLd (l[k]'(by omega)) := by simp
    rw [e]
    obtain ⟨y, f, a, t⟩ := s
    simp only at h1 h2 h3 h4
    subst h1 h2
    have hz : atZ ⟨y, zF, a, zF⟩ (bareLd (l[k]'(by omega))) = y := by
      show posS ⟨y, zF, a, zF⟩ (joinS zF zF) = y
      rw [join_zero zF_sgn]
      unfold posS
      cases a
      · show y + (0 + 0) = y; omega
      · rfl
    unfold putS
    rw [show (bareLd (l[k]'(by omega))).th = false from rfl, hz]
    refine ⟨rfl, ?_, by show y + _ = _ ; rw [h3]; rfl, by simp⟩
    cases a
    · rfl
    · exact join_zero zF_sgn
theorem bare_at (top : Bool) (l : List Ld) (k : Nat) (hk : k < (atL (startS top) (l.map bareLd)).length) : (atL (startS top) (l.map bareLd))[k] = sumH (l.take k) := by
  have hlt : k < (l.map bareLd).length := by rw [← atL_length (startS top)]; exact hk
  have hlt2 : k < l.length := by simpa using hlt
  obtain ⟨h1, h2, h3, h4⟩ := bare_run top l k (by omega)
  rw [atL_get, ← h3]
  generalize runS (startS top) ((l.map bareLd).take k) = s at *
  have e : (l.map bareLd)[k] = bareLd l[k] := by simp
  rw [e]
  obtain ⟨y, f, a, t⟩ := s
  simp only at h1 h2 h3 h4
  subst h1 h2
  show posS ⟨y, zF, a, zF⟩ (joinS zF zF) = y
  rw [join_zero zF_sgn]
  unfold posS
  cases a
  · show y + (0 + 0) = y; omega
  · rfl
theorem sumH_nonneg (l : List Ld) (hl : ∀ x ∈ l, LdOk x) (k : Nat) (hk : k ≤ l.length) : 0 ≤ sumH (l.take k) ∧ sumH (l.take k) ≤ 68719476736 * (k : Int) := by
  induction k with
  | zero => simp [sumH]
  | succ k ih =>
    have := ih (by omega)
    have hx := hl _ (List.getElem_mem (show k < l.length by omega))
    rw [sumH_take l k (by omega)]
    have h0 := hx.h0
    have h1 := hx.h1
    rw [Int.natCast_add]; omega
theorem bare_end (top bottom : Bool) (l : List Ld) (hl : ∀ x ∈ l, LdOk x) : ∃ th, endS (runS (startS top) (l.map bareLd)) bottom = ⟨zF, zF, th, sumH l⟩ := by
  obtain ⟨h1, h2, h3, h4⟩ := bare_run top l l.length (Nat.le_refl _)
  have hn := (sumH_nonneg l hl l.length (Nat.le_refl _)).1
  rw [List.take_of_length_le (by simp)] at h1 h2 h3 h4
  rw [List.take_length] at h3 hn
  generalize runS (startS top) (l.map bareLd) = s at *
  obtain ⟨y, f, a, t⟩ := s
  simp only at h1 h2 h3 h4
  subst h1 h2 h3
  unfold endS
  cases a
  · cases bottom
    · refine ⟨false, ?_⟩
      show (⟨zF, zF, false, max (sumH l + (0 + 0)) 0⟩ : Sd) = _
      rw [show max (sumH l + (0 + 0)) 0 = sumH l by omega]
    · refine ⟨false, ?_⟩
      show (⟨zF, zF, false, max (sumH l) 0⟩ : Sd) = _
      rw [show max (sumH l) 0 = sumH l by omega]
  · refine ⟨bottom, ?_⟩
    have h0 : l.length = 0 := by
      have := h4.symm
      simp at this
      rw [this.2]; rfl
    have hl0 : l = [] := List.eq_nil_of_length_eq_zero h0
    subst hl0
    rfl
theorem endS_f (s : Sk) (b : Bool) (h : s.a = false) : endS s b = if b then ⟨s.t, s.f, false, max s.y 0⟩ else ⟨s.t, zF, false, max (s.y + (s.f.p + s.f.q)) 0⟩ := by
  unfold endS; rw [h]; rfl
end Go.Proofs.Ytnhhalhaefeoeaa

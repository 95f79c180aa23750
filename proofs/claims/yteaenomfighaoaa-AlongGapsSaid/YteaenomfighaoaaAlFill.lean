import Derived.Test.YteaenomfighaoaaAlGap
/- The gaps of items along a line by the places that get a part. No program is named here. -/
namespace Go.Proofs.Yteaenomfighaoaa
open Go.RowKit
set_option linter.unusedVariables false
set_option linter.unusedSimpArgs false

/-- Its first s are told, the others 0. -/
def mixG (g : Nat → Int) (N s : Nat) : List Int := (List.range N).map fun t => if t < s then g t else 0
theorem mixG_len (g : Nat → Int) (N s : Nat) : (mixG g N s).length = N := by simp [mixG]
theorem mixG_zero (g : Nat → Int) (N : Nat) : mixG g N 0 = List.replicate N 0 := by
  refine List.ext_getElem (by simp [mixG]) fun i h1 h2 => ?_
  simp [mixG]
theorem mixG_all (g : Nat → Int) (N : Nat) : mixG g N N = (List.range N).map g := by
  refine List.ext_getElem (by simp [mixG]) fun i h1 h2 => ?_
  have : i < N := by simpa [mixG] using h1
  simp [mixG, this]
theorem mixG_set (g : Nat → Int) {N s : Nat} {z : Int} (hz : g s = z) : (mixG g N s).set s z = mixG g N (s + 1) := by
  refine List.ext_getElem (by simp [mixG]) fun i h1 h2 => ?_
  rw [List.getElem_set]
  simp only [mixG, List.getElem_map, List.getElem_range]
  by_cases h : s = i
  · subst h; rw [if_pos rfl, if_pos (by omega), hz]
  · rw [if_neg h]
    by_cases h3 : i < s
    · rw [if_pos h3, if_pos (by omega)]
    · rw [if_neg h3, if_neg (by omega)]
theorem mixG_stay (g : Nat → Int) {N s : Nat} (hz : g s = 0) : mixG g N (s + 1) = mixG g N s := by
  refine List.ext_getElem (by simp [mixG]) fun i h1 h2 => ?_
  simp only [mixG, List.getElem_map, List.getElem_range]
  by_cases h3 : i < s
  · rw [if_pos h3, if_pos (by omega)]
  · by_cases h : i = s
    · subst h; rw [if_pos (by omega), if_neg h3, hz]
    · rw [if_neg h3, if_neg (by omega)]
theorem mixG_over (g : Nat → Int) {N s : Nat} (h : N ≤ s) : mixG g N s = mixG g N N := by
  refine List.ext_getElem (by simp [mixG]) fun i h1 h2 => ?_
  have : i < N := by simpa [mixG] using h1
  simp only [mixG, List.getElem_map, List.getElem_range]
  rw [if_pos (by omega), if_pos this]

/-- Places T get parts P, one behind the other. -/
def fillT (N : Nat) (T : List Nat) (P : List Int) : Nat → List Int
  | 0 => List.replicate N 0
  | k + 1 => (fillT N T P k).set (T.getD k 0) (P.getD k 0)
theorem fillT_len (N : Nat) (T : List Nat) (P : List Int) (k : Nat) : (fillT N T P k).length = N := by
  induction k with
  | zero => simp [fillT]
  | succ k ih => simp [fillT, ih]

/-- The places of automatic margins of the first k. -/
def autoI (l : List Al) (i : Nat) : List Nat := (if (l.map Al.ab).getD i false then [2 * i] else []) ++ (if (l.map Al.aa).getD i false then [2 * i + 1] else [])
def autoK (l : List Al) : Nat → List Nat
  | 0 => []
  | k + 1 => autoK l k ++ autoI l k
theorem autoI_len (l : List Al) {i : Nat} (h : i < l.length) : (autoI l i).length = bN l[i].ab + bN l[i].aa := by
  unfold autoI
  rw [getA Al.ab false h, getA Al.aa false h]
  cases l[i].ab <;> cases l[i].aa <;> rfl
theorem autoK_len (l : List Al) : ∀ k, k ≤ l.length → (autoK l k).length = autosA (l.take k)
  | 0, _ => by simp [autoK, autosA]
  | k + 1, h => by
    unfold autoK
    rw [List.length_append, autoK_len l k (by omega), autoI_len l h, autosA_take l h]; omega
theorem autoK_pre (l : List Al) {i : Nat} : ∀ k, i ≤ k → ∃ R, autoK l k = autoK l i ++ R
  | 0, h => ⟨[], by rw [show i = 0 by omega]; rfl⟩
  | k + 1, h => by
    by_cases e : i = k + 1
    · exact ⟨[], by rw [e, List.append_nil]⟩
    · obtain ⟨R, hR⟩ := autoK_pre l k (by omega : i ≤ k)
      exact ⟨R ++ autoI l k, by rw [autoK, hR, List.append_assoc]⟩
theorem autoK_lt (l : List Al) : ∀ k, ∀ t ∈ autoK l k, t < 2 * k
  | 0, t, h => by simp [autoK] at h
  | k + 1, t, h => by
    unfold autoK at h
    rcases List.mem_append.1 h with h | h
    · have := autoK_lt l k t h; omega
    · unfold autoI at h
      rcases List.mem_append.1 h with h | h <;> split at h <;> simp at h <;> omega
/-- The places by a way of justifying, of n items. -/
def betwT (m : Nat) : List Nat := (List.range m).map fun i => 2 * i + 1
def bothT (m : Nat) : List Nat := List.range (2 * m)
theorem betwT_succ (m : Nat) : betwT (m + 1) = betwT m ++ [2 * m + 1] := by unfold betwT; rw [List.range_succ]; simp
theorem bothT_succ (m : Nat) : bothT (m + 1) = bothT m ++ [2 * m, 2 * m + 1] := by
  unfold bothT; rw [show 2 * (m + 1) = 2 * m + 1 + 1 by omega, List.range_succ, List.range_succ, List.append_assoc]; rfl
theorem betwT_len (m : Nat) : (betwT m).length = m := by simp [betwT]
theorem bothT_len (m : Nat) : (bothT m).length = 2 * m := by simp [bothT]
def justT (n : Nat) (j : Int) : List Nat := if j = 3 then betwT (n - 1) else if j = 4 then bothT n else []
theorem justT_len (n : Nat) (j : Int) : (justT n j).length ≤ 2 * n := by
  unfold justT
  split
  · rw [betwT_len]; omega
  · split
    · rw [bothT_len]; omega
    · simp
theorem justT_lt {n : Nat} {j : Int} : ∀ t ∈ justT n j, t < 2 * n := fun t h => by
  unfold justT at h
  split at h
  · unfold betwT at h; simp at h; obtain ⟨a, h1, rfl⟩ := h; omega
  · split at h
    · unfold bothT at h; simpa using h
    · simp at h
def takeT (f : Int) (l : List Al) (j : Int) : List Nat := if isAuto f l then autoK l l.length else justT l.length j
theorem takeT_lt {f : Int} {l : List Al} {j : Int} : ∀ t ∈ takeT f l j, t < 2 * l.length := fun t h => by
  unfold takeT at h
  split at h
  · exact autoK_lt l _ t h
  · exact justT_lt t h
theorem takeT_len (f : Int) (l : List Al) (j : Int) : (takeT f l j).length ≤ 2 * l.length := by
  unfold takeT
  split
  · rw [autoK_len l _ (Nat.le_refl _), List.take_length]; exact autosA_le l
  · exact justT_len _ _
theorem takeT_getD {f : Int} {l : List Al} {j : Int} {k : Nat} (h : k < (takeT f l j).length) : (takeT f l j).getD k 0 < 2 * l.length := by
  have e : (takeT f l j).getD k 0 = (takeT f l j)[k] := by simp [List.getD, h]
  rw [e]; exact takeT_lt _ (List.getElem_mem h)
/-- Two gaps an item. -/
def gapR (f : Int) (l : List Al) (j : Int) : List Int := (List.range (2 * l.length)).map (gapT f l j)
theorem gapR_len (f : Int) (l : List Al) (j : Int) : (gapR f l j).length = 2 * l.length := by simp [gapR]
theorem gapR_get (f : Int) (l : List Al) (j : Int) {t : Nat} (h : t < 2 * l.length) : (i64s (gapR f l j))[t]? = some (.int .i64 (gapT f l j t)) := by simp [i64s, gapR, h]
theorem getD_app {A R : List Nat} {k : Nat} {x : Nat} {B : List Nat} (hk : A.length = k) : ((A ++ x :: B) ++ R).getD k 0 = x := by
  subst hk; simp [List.getD]
theorem getD_app2 {A R : List Nat} {k : Nat} {x y : Nat} {B : List Nat} (hk : A.length = k) : ((A ++ x :: y :: B) ++ R).getD (k + 1) 0 = y := by
  subst hk
  have : A ++ x :: y :: B = (A ++ [x]) ++ y :: B := by simp
  rw [this, getD_app (by simp)]
section
variable {f : Int} {l : List Al} {j : Int}
theorem fill_auto (h0 : 0 < f) (h1 : f ≤ 1152921504606846976) (hl : l.length ≤ 500) (ha : isAuto f l = true) (P : List Int) (hP : ∀ k, k < autosA l → P.getD k 0 = partA f (autosA l) k) :
    ∀ i, i ≤ l.length → fillT (2 * l.length) (autoK l l.length) P (autosA (l.take i)) = mixG (gapT f l j) (2 * l.length) (2 * i)
  | 0, _ => by
    rw [show autosA (l.take 0) = 0 by simp [autosA], Nat.mul_zero, mixG_zero]; rfl
  | i + 1, h => by
    have ih := fill_auto h0 h1 hl ha P hP i (by omega)
    have hk := autoK_len l i (by omega)
    obtain ⟨R, hR⟩ := autoK_pre l (i := i + 1) l.length h
    have hle := autosA_mono l (i + 1)
    rw [autosA_take l h] at hle
    have hI : autoI l i = (if l[i].ab then [2 * i] else []) ++ (if l[i].aa then [2 * i + 1] else []) := by
      unfold autoI; rw [getA Al.ab false h, getA Al.aa false h]
    have G1 : gapT f l j (2 * i) = if l[i].ab then partA f (autosA l) (autosA (l.take i)) else 0 := by
      rw [gapT_1 f l j h]; unfold gap1; rw [if_pos ha, getA Al.ab false h]
    have G2 : gapT f l j (2 * i + 1) = if l[i].aa then partA f (autosA l) (autosA (l.take i) + bN l[i].ab) else 0 := by
      rw [gapT_2 f l j h]; unfold gap2; rw [if_pos ha, getA Al.ab false h, getA Al.aa false h]
    rw [autosA_take l h, show 2 * (i + 1) = 2 * i + 1 + 1 by omega]
    rw [show autoK l (i + 1) = autoK l i ++ autoI l i from rfl, hI] at hR
    cases hab : l[i].ab <;> cases haa : l[i].aa <;> simp only [hab, haa, bN, if_true, if_false, Bool.false_eq_true, Nat.add_zero, List.nil_append, List.append_nil, List.cons_append] at hR hle G1 G2 ⊢
    · rw [mixG_stay _ G2, mixG_stay _ G1]; exact ih
    · have e : (autoK l l.length).getD (autosA (l.take i)) 0 = 2 * i + 1 := by rw [hR]; exact getD_app hk
      rw [fillT, ih, e, hP _ (by omega), ← mixG_stay _ G1, mixG_set _ G2]
    · have e : (autoK l l.length).getD (autosA (l.take i)) 0 = 2 * i := by rw [hR]; exact getD_app hk
      rw [fillT, ih, e, hP _ (by omega), mixG_set _ G1, mixG_stay _ G2]
    · have e : (autoK l l.length).getD (autosA (l.take i)) 0 = 2 * i := by rw [hR]; exact getD_app hk
      have e2 : (autoK l l.length).getD (autosA (l.take i) + 1) 0 = 2 * i + 1 := by rw [hR]; exact getD_app2 hk
      rw [fillT, fillT, ih, e, e2, hP _ (by omega), hP _ (by omega), mixG_set _ G1, mixG_set _ G2]
theorem fill_betw (h0 : 0 < f) (ha : isAuto f l = false) (hj : j = 3) (h2 : 1 < l.length) (P : List Int) (hP : ∀ k, k < l.length - 1 → P.getD k 0 = partA f (l.length - 1) k) :
    ∀ i, i ≤ l.length - 1 → fillT (2 * l.length) (betwT (l.length - 1)) P i = mixG (gapT f l j) (2 * l.length) (2 * i)
  | 0, _ => by rw [Nat.mul_zero, mixG_zero]; rfl
  | i + 1, h => by
    have ih := fill_betw h0 ha hj h2 P hP i (by omega)
    have G1 : gapT f l j (2 * i) = 0 := by
      rw [gapT_1 f l j (by omega)]; unfold gap1; rw [ha, if_neg (by simp), if_neg (by omega)]
    have G2 : gapT f l j (2 * i + 1) = partA f (l.length - 1) i := by
      rw [gapT_2 f l j (by omega)]; unfold gap2; rw [ha, if_neg (by simp), if_pos ⟨hj, h0, h2⟩, if_pos (by omega)]
    have e : (betwT (l.length - 1)).getD i 0 = 2 * i + 1 := by simp [betwT, List.getD, (by omega : i < l.length - 1)]
    rw [fillT, ih, e, hP _ (by omega), ← mixG_stay _ G1, mixG_set _ G2, show 2 * (i + 1) = 2 * i + 1 + 1 by omega]
theorem fill_both (h0 : 0 < f) (ha : isAuto f l = false) (hj : j = 4) (P : List Int) (hP : ∀ k, k < 2 * l.length → P.getD k 0 = partA f (2 * l.length) k) :
    ∀ i, i ≤ 2 * l.length → fillT (2 * l.length) (bothT l.length) P i = mixG (gapT f l j) (2 * l.length) i
  | 0, _ => by rw [mixG_zero]; rfl
  | i + 1, h => by
    have ih := fill_both h0 ha hj P hP i (by omega)
    have G : gapT f l j i = partA f (2 * l.length) i := by
      unfold gapT
      rw [if_pos (by omega)]
      split
      · unfold gap1; rw [ha, if_neg (by simp), if_pos ⟨hj, h0⟩, show 2 * (i / 2) = i by omega]
      · unfold gap2; rw [ha, if_neg (by simp), if_neg (by omega), if_pos ⟨hj, h0⟩, show 2 * (i / 2) + 1 = i by omega]
    have e : (bothT l.length).getD i 0 = i := by simp [bothT, List.getD, (by omega : i < 2 * l.length)]
    rw [fillT, ih, e, hP _ (by omega), mixG_set _ G]
theorem fill_all (h0 : 0 < f) (h1 : f ≤ 1152921504606846976) (hl : l.length ≤ 500) (m : Nat) (hm : (takeT f l j).length = m) :
    fillT (2 * l.length) (takeT f l j) (shareZ f (onesA m)) m = gapR f l j := by
  have hm2 := takeT_len f l j
  have S := ones_part (m := m) h0 h1 (by omega)
  have hP : ∀ k, k < m → (shareZ f (onesA m)).getD k 0 = partA f m k := fun k hk => by
    rw [← S.2 k (by omega)]; simp [List.getD, (by omega : k < (shareZ f (onesA m)).length)]
  have all : mixG (gapT f l j) (2 * l.length) (2 * l.length) = gapR f l j := mixG_all _ _
  rw [← all]
  by_cases ha : isAuto f l = true
  · have e : takeT f l j = autoK l l.length := by unfold takeT; rw [if_pos ha]
    have em : m = autosA l := by rw [← hm, e, autoK_len l _ (Nat.le_refl _), List.take_length]
    subst em
    have := fill_auto (j := j) h0 h1 hl ha _ hP l.length (Nat.le_refl _)
    rw [List.take_length] at this
    rw [e]; exact this
  · have ha : isAuto f l = false := by simpa using ha
    have e : takeT f l j = justT l.length j := by unfold takeT; rw [ha]; rfl
    rw [e] at hm ⊢
    by_cases h3 : j = 3
    · have e : justT l.length j = betwT (l.length - 1) := by unfold justT; rw [if_pos h3]
      rw [e] at hm ⊢
      rw [betwT_len] at hm
      subst hm
      by_cases h2 : 1 < l.length
      · rw [fill_betw h0 ha h3 h2 _ hP _ (Nat.le_refl _)]
        have G1 : gapT f l j (2 * (l.length - 1)) = 0 := by
          rw [gapT_1 f l j (by omega)]; unfold gap1; rw [ha, if_neg (by simp), if_neg (by omega)]
        have G2 : gapT f l j (2 * (l.length - 1) + 1) = 0 := by
          rw [gapT_2 f l j (by omega)]; unfold gap2; rw [ha, if_neg (by simp), if_pos ⟨h3, h0, h2⟩, if_neg (by omega)]
        rw [← mixG_stay _ G1, ← mixG_stay _ G2, show 2 * (l.length - 1) + 1 + 1 = 2 * l.length by omega]
      · have en : l.length - 1 = 0 := by omega
        rw [en, show fillT (2 * l.length) (betwT 0) (shareZ f (onesA 0)) 0 = List.replicate (2 * l.length) 0 from rfl, ← mixG_zero (gapT f l j)]
        have key : ∀ k, mixG (gapT f l j) (2 * l.length) k = mixG (gapT f l j) (2 * l.length) 0 := fun k => by
          induction k with
          | zero => rfl
          | succ k ih => rw [mixG_stay _ (gapT_none ha (by omega) (by omega) k), ih]
        rw [key (2 * l.length)]
    · by_cases h4 : j = 4
      · have e : justT l.length j = bothT l.length := by unfold justT; rw [if_neg h3, if_pos h4]
        rw [e] at hm ⊢
        rw [bothT_len] at hm
        subst hm
        exact fill_both h0 ha h4 _ hP _ (Nat.le_refl _)
      · have e : justT l.length j = [] := by unfold justT; rw [if_neg h3, if_neg h4]
        rw [e] at hm ⊢
        have hm : m = 0 := by rw [← hm]; rfl
        subst hm
        rw [show fillT (2 * l.length) [] (shareZ f (onesA 0)) 0 = List.replicate (2 * l.length) 0 from rfl, ← mixG_zero (gapT f l j)]
        have key : ∀ k, mixG (gapT f l j) (2 * l.length) k = mixG (gapT f l j) (2 * l.length) 0 := fun k => by
          induction k with
          | zero => rfl
          | succ k ih => rw [mixG_stay _ (gapT_none ha (by omega) (by omega) k), ih]
        rw [key (2 * l.length)]
theorem gapR_none (h0 : ¬ 0 < f) : gapR f l j = List.replicate (2 * l.length) 0 := by
  have ha : isAuto f l = false := by unfold isAuto; simp [h0]
  refine List.ext_getElem (by simp [gapR]) fun i h1 h2 => ?_
  simp only [gapR, List.getElem_map, List.getElem_range, List.getElem_replicate]
  exact gapT_none ha (by omega) (by omega) i
end
end Go.Proofs.Yteaenomfighaoaa

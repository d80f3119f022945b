/-
  A helper of ours: no claim of its own. Layers 17, 18 (expr, eval): what a word makes of kinds, and of values; what was checked does not go wrong. No program in it.
-/
import Derived.Test.YtopgapbipmblbaaExpS
import Derived.Test.YtopgapbipmblbaaSchS
import Derived.Test.YtopgapbipmblbaaNumA
set_option linter.unusedVariables false
set_option linter.unusedSimpArgs false
namespace Go.Proofs.Ytopgapbipmblbaa
open Go.RowKit
--BEGIN
/-- The kind that a word that takes something must have of all that it takes. -/
def mustK (c : Int) (ks : List Int) : Int := if c = 6 ∨ c = 12 then 2 else if 13 ≤ c ∧ c ≤ 18 then ks.headD 0 else 1
/-- The kind that a word makes, of kinds. -/
def kdF (s : List Cl) (o : Vl) (ks : List Int) : Except Int Int :=
  if o.1 = 3 then (match s[o.2.1.toNat]? with
    | some c => .ok c.2
    | none => .error 3)
  else if o.1 = 2 then .ok 2
  else if ks.any (fun k => k != mustK o.1 ks) then .error 12
  else .ok (if o.1 = 12 then 2 else 1)
def truV (b : Bool) : Vl := (1, if b then 1 else 0, ⟨#[]⟩)
def exN (v e : Int) : Except Int Vl := if e = 0 then .ok (1, v, ⟨#[]⟩) else .error e
def ofNone (r : List Vl) (o : Vl) : Except Int Vl :=
  if o.1 = 1 then .ok (1, o.2.1, ⟨#[]⟩)
  else if o.1 = 2 then .ok (2, 0, o.2.2)
  else match r[o.2.1.toNat]? with
    | some v => .ok v
    | none => .error 3
def ofOne (c : Int) (a : Vl) : Except Int Vl :=
  if c = 6 then (if a.1 = 2 then .ok (1, (a.2.2.size : Int), ⟨#[]⟩) else .error 12)
  else if a.1 = 1 then (if c = 5 then .ok (truV (decide (a.2.1 = 0))) else exN (okF (inR (-a.2.1)) (-a.2.1)) (ovE (inR (-a.2.1))))
  else .error 12
def cmpB (c n : Int) : Bool :=
  if c = 13 then decide (n = 0) else if c = 14 then decide (n ≠ 0) else if c = 15 then decide (n < 0) else if c = 16 then decide (n ≤ 0) else if c = 17 then decide (0 < n) else decide (0 ≤ n)
def ofNums (c a b : Int) : Except Int Vl :=
  if c = 7 then exN (okF (inR (a + b)) (a + b)) (ovE (inR (a + b)))
  else if c = 8 then exN (okF (inR (a - b)) (a - b)) (ovE (inR (a - b)))
  else if c = 9 then exN (okF (inR (a * b)) (a * b)) (ovE (inR (a * b)))
  else if c = 10 then exN (quoV a b) (quoE a b)
  else if c = 11 then exN (remV a b) (remE b)
  else if c = 19 then .ok (truV (decide (a ≠ 0) && decide (b ≠ 0)))
  else .ok (truV (decide (a ≠ 0) || decide (b ≠ 0)))
def ofTwo (c : Int) (a b : Vl) : Except Int Vl :=
  if c = 12 then (if a.1 = 2 ∧ b.1 = 2 then (if 64 < a.2.2.size + b.2.2.size then .error 6 else .ok (2, 0, a.2.2 ++ b.2.2)) else .error 12)
  else if 13 ≤ c ∧ c ≤ 18 then (if a.1 = b.1 then .ok (truV (cmpB c (cmpV a b))) else .error 12)
  else if a.1 = 1 ∧ b.1 = 1 then ofNums c a.2.1 b.2.1 else .error 12
/-- What a word makes, of values, over a row. -/
def evF (r : List Vl) (o : Vl) : List Vl → Except Int Vl
  | [] => ofNone r o
  | [a] => ofOne o.1 a
  | a :: b :: _ => ofTwo o.1 a b
/-- A value whose number is one of 64 bits. -/
def fine (v : Vl) : Prop := may v = true ∧ (-9223372036854775808 ≤ v.2.1 ∧ v.2.1 ≤ 9223372036854775807)
theorem fine_num {n : Int} (h : -9223372036854775808 ≤ n ∧ n ≤ 9223372036854775807) : fine (1, n, ⟨#[]⟩) := ⟨rfl, h⟩
theorem fine_text {s : ByteArray} (h : s.size ≤ 64) : fine (2, 0, s) := ⟨by simp [may, mayB, h], by simp⟩
theorem fine_cases {v : Vl} (h : fine v) : (∃ n, v = (1, n, ⟨#[]⟩) ∧ (-9223372036854775808 ≤ n ∧ n ≤ 9223372036854775807)) ∨ ∃ s : ByteArray, v = (2, 0, s) ∧ s.size ≤ 64 := by
  obtain ⟨k, n, s⟩ := v
  obtain ⟨hm, hn⟩ := h
  rcases may_kind hm with ⟨h1, h2⟩ | ⟨h1, h2, h3⟩ <;> simp only at h1 h2 hn
  · subst h1
    have := empty_of h2
    subst this
    exact .inl ⟨n, rfl, hn⟩
  · subst h1; subst h2
    exact .inr ⟨s, rfl, h3⟩
theorem fine_tru (b : Bool) : fine (truV b) := by cases b <;> exact fine_num (by decide)
theorem exN_fine {v e : Int} {u : Vl} (h : exN v e = .ok u) (hv : e = 0 → -9223372036854775808 ≤ v ∧ v ≤ 9223372036854775807) : fine u ∧ u.1 = 1 := by
  unfold exN at h
  by_cases he : e = 0
  · rw [if_pos he] at h; injection h with h; subst h; exact ⟨fine_num (hv he), rfl⟩
  · rw [if_neg he] at h; cases h
theorem okF_in (n : Int) : -9223372036854775808 ≤ okF (inR n) n ∧ okF (inR n) n ≤ 9223372036854775807 := by
  cases e : inR n
  · rw [okF_false]; decide
  · rw [okF_true]; exact inR_iff.1 e
theorem quoV_in (a b : Int) : -9223372036854775808 ≤ quoV a b ∧ quoV a b ≤ 9223372036854775807 := by
  unfold quoV
  by_cases h : b = 0
  · rw [if_pos h]; decide
  · rw [if_neg h]; exact okF_in _
theorem remV_in {a : Int} (b : Int) (ha : -9223372036854775808 ≤ a ∧ a ≤ 9223372036854775807) : -9223372036854775808 ≤ remV a b ∧ remV a b ≤ 9223372036854775807 := by
  unfold remV
  by_cases h : b = 0
  · rw [if_pos h]; decide
  · rw [if_neg h]; exact tmod_abs ha
theorem ofNums_fine {c a b : Int} {u : Vl} (ha : -9223372036854775808 ≤ a ∧ a ≤ 9223372036854775807) (h : ofNums c a b = .ok u) : fine u ∧ u.1 = 1 := by
  unfold ofNums at h
  by_cases h1 : c = 7
  · rw [if_pos h1] at h; exact exN_fine h fun _ => okF_in _
  rw [if_neg h1] at h
  by_cases h1 : c = 8
  · rw [if_pos h1] at h; exact exN_fine h fun _ => okF_in _
  rw [if_neg h1] at h
  by_cases h1 : c = 9
  · rw [if_pos h1] at h; exact exN_fine h fun _ => okF_in _
  rw [if_neg h1] at h
  by_cases h1 : c = 10
  · rw [if_pos h1] at h; exact exN_fine h fun _ => quoV_in _ _
  rw [if_neg h1] at h
  by_cases h1 : c = 11
  · rw [if_pos h1] at h; exact exN_fine h fun _ => remV_in _ ha
  rw [if_neg h1] at h
  by_cases h1 : c = 19
  · rw [if_pos h1] at h; injection h with h; subst h; exact ⟨fine_tru _, rfl⟩
  rw [if_neg h1] at h
  injection h with h; subst h; exact ⟨fine_tru _, rfl⟩
theorem size_app (s t : ByteArray) : (s ++ t).size = s.size + t.size := by simp
/-- A word, as the value of a number or a text. -/
def inW (o : Vl) : Prop := -9223372036854775808 ≤ o.2.1 ∧ o.2.1 ≤ 9223372036854775807
theorem evF_fine {r : List Vl} {o : Vl} {xs : List Vl} {u : Vl} (hr : ∀ v ∈ r, fine v) (ho : okW o = true) (hi : inW o) (hx : ∀ v ∈ xs, fine v) (h : evF r o xs = .ok u) : fine u := by
  match xs, hx, h with
  | [], _, h =>
    have h : ofNone r o = .ok u := h
    unfold ofNone at h
    by_cases h1 : o.1 = 1
    · rw [if_pos h1] at h; injection h with h; subst h; exact fine_num hi
    rw [if_neg h1] at h
    by_cases h2 : o.1 = 2
    · rw [if_pos h2] at h; injection h with h; subst h
      refine fine_text ?_
      unfold okW at ho
      rw [if_neg h1, if_pos h2, Bool.and_eq_true, decide_eq_true_iff, decide_eq_true_iff] at ho
      exact ho.2
    rw [if_neg h2] at h
    cases e : r[o.2.1.toNat]? with
    | none => rw [e] at h; cases h
    | some v => rw [e] at h; injection h with h; subst h; exact hr _ (List.mem_of_getElem? e)
  | [a], hx, h =>
    have ha := hx a (by simp)
    have h : ofOne o.1 a = .ok u := h
    unfold ofOne at h
    by_cases h1 : o.1 = 6
    · rw [if_pos h1] at h
      by_cases h2 : a.1 = 2
      · rw [if_pos h2] at h; injection h with h; subst h
        refine fine_num ?_
        rcases fine_cases ha with ⟨n, rfl, _⟩ | ⟨s, rfl, hs⟩
        · cases h2
        · show _ ≤ (s.size : Int) ∧ (s.size : Int) ≤ _; omega
      · rw [if_neg h2] at h; cases h
    rw [if_neg h1] at h
    by_cases h2 : a.1 = 1
    · rw [if_pos h2] at h
      by_cases h3 : o.1 = 5
      · rw [if_pos h3] at h; injection h with h; subst h; exact fine_tru _
      · rw [if_neg h3] at h; exact (exN_fine h fun _ => okF_in _).1
    · rw [if_neg h2] at h; cases h
  | a :: b :: t, hx, h =>
    have ha := hx a (by simp)
    have h : ofTwo o.1 a b = .ok u := h
    unfold ofTwo at h
    by_cases h1 : o.1 = 12
    · rw [if_pos h1] at h
      by_cases h2 : a.1 = 2 ∧ b.1 = 2
      · rw [if_pos h2] at h
        by_cases h3 : 64 < a.2.2.size + b.2.2.size
        · rw [if_pos h3] at h; cases h
        · rw [if_neg h3] at h; injection h with h; subst h; exact fine_text (by rw [size_app]; omega)
      · rw [if_neg h2] at h; cases h
    rw [if_neg h1] at h
    by_cases h2 : 13 ≤ o.1 ∧ o.1 ≤ 18
    · rw [if_pos h2] at h
      by_cases h3 : a.1 = b.1
      · rw [if_pos h3] at h; injection h with h; subst h; exact fine_tru _
      · rw [if_neg h3] at h; cases h
    rw [if_neg h2] at h
    by_cases h3 : a.1 = 1 ∧ b.1 = 1
    · rw [if_pos h3] at h; exact (ofNums_fine ha.2 h).1
    · rw [if_neg h3] at h; cases h
/-- All words of a tree are of 64 bits. -/
def Tr.inw : Tr → Prop
  | .leaf o => inW o
  | .one o a => inW o ∧ a.inw
  | .two o a b => inW o ∧ a.inw ∧ b.inw
theorem Tr.inw_of : ∀ (t : Tr), (∀ o ∈ t.flat, inW o) → t.inw
  | .leaf o, h => h o (by simp [Tr.flat])
  | .one o a, h => ⟨h o (by simp [Tr.flat]), Tr.inw_of a fun p hp => h p (by simp [Tr.flat, hp])⟩
  | .two o a b, h => ⟨h o (by simp [Tr.flat]), Tr.inw_of a fun p hp => h p (by simp [Tr.flat, hp]), Tr.inw_of b fun p hp => h p (by simp [Tr.flat, hp])⟩
theorem evT_fine {r : List Vl} (hr : ∀ v ∈ r, fine v) : ∀ (t : Tr), t.good → t.inw → ∀ u, evT (evF r) t = .ok u → fine u
  | .leaf o, g, i, u, h => evF_fine hr g.1 i (by simp) (xs := []) h
  | .one o a, g, i, u, h => by
    simp only [evT] at h
    cases e : evT (evF r) a with
    | error z => rw [e] at h; cases h
    | ok x => rw [e] at h; exact evF_fine hr g.1 i.1 (by simpa using evT_fine hr a g.2.2 i.2 x e) h
  | .two o a b, g, i, u, h => by
    simp only [evT] at h
    cases e : evT (evF r) a with
    | error z => rw [e] at h; cases h
    | ok x =>
      rw [e] at h
      simp only at h
      cases e2 : evT (evF r) b with
      | error z => rw [e2] at h; cases h
      | ok y =>
        rw [e2] at h
        exact evF_fine hr g.1 i.1 (by
          intro v hv
          simp only [List.mem_cons, List.not_mem_nil, or_false] at hv
          rcases hv with rfl | rfl
          · exact evT_fine hr a g.2.2.1 i.2.1 _ e
          · exact evT_fine hr b g.2.2.2 i.2.2 _ e2) h
/-- Too great, by nought, too long. -/
def mild (e : Int) : Prop := e = 10 ∨ e = 11 ∨ e = 6
/-- An answer of the kind k, or one of the three. -/
def typed (k : Int) : Except Int Vl → Prop
  | .ok v => v.1 = k
  | .error e => mild e
theorem exN_typed {v e : Int} (he : e ≠ 0 → mild e) : typed 1 (exN v e) := by
  unfold exN
  by_cases h : e = 0
  · rw [if_pos h]; exact rfl
  · rw [if_neg h]; exact he h
theorem ovE_mild (b : Bool) : ovE b ≠ 0 → mild (ovE b) := by cases b <;> simp [ovE, mild]
theorem quoE_mild (a b : Int) : quoE a b ≠ 0 → mild (quoE a b) := by
  unfold quoE; split
  · intro _; exact .inr (.inl rfl)
  · exact ovE_mild _
theorem remE_mild (b : Int) : remE b ≠ 0 → mild (remE b) := by
  unfold remE; split
  · intro _; exact .inr (.inl rfl)
  · intro h; exact absurd rfl h
theorem ofNums_typed (c a b : Int) : typed 1 (ofNums c a b) := by
  unfold ofNums
  split
  · exact exN_typed (ovE_mild _)
  split
  · exact exN_typed (ovE_mild _)
  split
  · exact exN_typed (ovE_mild _)
  split
  · exact exN_typed (quoE_mild _ _)
  split
  · exact exN_typed (remE_mild _)
  split <;> exact rfl
theorem evF_typed {s : List Cl} {r : List Vl} (hl : s.length = r.length) (hk : ∀ (i : Nat) (x : Cl) (y : Vl), s[i]? = some x → r[i]? = some y → x.2 = y.1) {o : Vl} (ho : okW o = true) :
    ∀ (xs : List Vl) (k : Int), tkI o.1 = (xs.length : Int) → (∀ v ∈ xs, fine v) → kdF s o (xs.map (·.1)) = .ok k → typed k (evF r o xs)
  | [], k, ht, _, h => by
    have ht : 1 ≤ o.1 ∧ o.1 ≤ 3 := tkI_iff0.1 (by simpa using ht)
    unfold kdF at h
    show typed k (ofNone r o)
    unfold ofNone
    by_cases h3 : o.1 = 3
    · rw [if_pos h3] at h
      rw [if_neg (by omega), if_neg (by omega)]
      cases e : s[o.2.1.toNat]? with
      | none => rw [e] at h; cases h
      | some c =>
        rw [e] at h
        injection h with h
        have hlt := (List.getElem?_eq_some_iff.1 e).1
        obtain ⟨y, hy⟩ : ∃ y, r[o.2.1.toNat]? = some y := ⟨_, List.getElem?_eq_getElem (by omega)⟩
        rw [hy]
        show y.1 = k
        rw [← h]; exact (hk _ _ _ e hy).symm
    · rw [if_neg h3] at h
      by_cases h2 : o.1 = 2
      · rw [if_pos h2] at h
        injection h with h
        rw [if_neg (by omega), if_pos h2]; exact h
      · rw [if_neg h2] at h
        simp only [List.map_nil, List.any_nil, Bool.false_eq_true, if_false] at h
        injection h with h
        rw [if_neg (by omega)] at h
        rw [if_pos (by omega)]; exact h
  | [a], k, ht, hf, h => by
    have ht : 4 ≤ o.1 ∧ o.1 ≤ 6 := tkI_iff1.1 (by simpa using ht)
    unfold kdF at h
    rw [if_neg (by omega), if_neg (by omega)] at h
    simp only [List.map_cons, List.map_nil, List.any_cons, List.any_nil, Bool.or_false] at h
    by_cases hb : (a.1 != mustK o.1 [a.1]) = true
    · rw [if_pos hb] at h; cases h
    rw [if_neg hb, if_neg (by omega)] at h
    injection h with h
    have ha : a.1 = mustK o.1 [a.1] := by simpa using hb
    unfold mustK at ha
    show typed k (ofOne o.1 a)
    unfold ofOne
    by_cases h6 : o.1 = 6
    · rw [if_pos (.inl h6)] at ha
      rw [if_pos h6, if_pos ha]; exact h
    · rw [if_neg (by omega), if_neg (by omega)] at ha
      rw [if_neg h6, if_pos ha]
      subst h
      split
      · exact rfl
      · exact exN_typed (ovE_mild _)
  | [a, b], k, ht, hf, h => by
    have ht : 7 ≤ o.1 ∧ o.1 ≤ 20 := tkI_iff2.1 (by simpa using ht)
    unfold kdF at h
    rw [if_neg (by omega), if_neg (by omega)] at h
    simp only [List.map_cons, List.map_nil, List.any_cons, List.any_nil, Bool.or_false] at h
    by_cases hb : ((a.1 != mustK o.1 [a.1, b.1]) || (b.1 != mustK o.1 [a.1, b.1])) = true
    · rw [if_pos hb] at h; cases h
    rw [if_neg hb] at h
    injection h with h
    have hab : a.1 = mustK o.1 [a.1, b.1] ∧ b.1 = mustK o.1 [a.1, b.1] := by simpa [not_or] using hb
    unfold mustK at hab
    show typed k (ofTwo o.1 a b)
    unfold ofTwo
    by_cases h12 : o.1 = 12
    · rw [if_pos (.inr h12)] at hab
      rw [if_pos h12] at h
      rw [if_pos h12, if_pos hab]
      split
      · exact .inr (.inr rfl)
      · exact h
    rw [if_neg h12] at h
    subst h
    rw [if_neg (by omega)] at hab
    rw [if_neg h12]
    by_cases hc : 13 ≤ o.1 ∧ o.1 ≤ 18
    · rw [if_pos hc] at hab
      simp only [List.headD_cons] at hab
      rw [if_pos hc, if_pos hab.2.symm]; exact rfl
    · rw [if_neg hc] at hab
      rw [if_neg hc, if_pos hab]
      exact ofNums_typed _ _ _
  | _ :: _ :: _ :: _, k, ht, _, _ => by
    rcases okW_tk ho with e | e | e <;> rw [e] at ht <;> simp only [List.length_cons] at ht <;> omega
theorem evT_typed {s : List Cl} {r : List Vl} (hl : s.length = r.length) (hk : ∀ (i : Nat) (x : Cl) (y : Vl), s[i]? = some x → r[i]? = some y → x.2 = y.1) (hr : ∀ v ∈ r, fine v) :
    ∀ (t : Tr), t.good → t.inw → ∀ k, evT (kdF s) t = .ok k → typed k (evT (evF r) t)
  | .leaf o, g, i, k, h => evF_typed hl hk g.1 [] k (by simpa using g.2) (by simp) h
  | .one o a, g, i, k, h => by
    simp only [evT] at h ⊢
    cases e : evT (kdF s) a with
    | error z => rw [e] at h; cases h
    | ok x =>
      rw [e] at h
      have ha := evT_typed hl hk hr a g.2.2 i.2 x e
      cases e' : evT (evF r) a with
      | error z => rw [e'] at ha; exact ha
      | ok v =>
        rw [e'] at ha
        have ha : v.1 = x := ha
        subst ha
        exact evF_typed hl hk g.1 [v] k (by rw [g.2.1]; rfl) (by simpa using evT_fine hr a g.2.2 i.2 v e') h
  | .two o a b, g, i, k, h => by
    simp only [evT] at h ⊢
    cases e : evT (kdF s) a with
    | error z => rw [e] at h; cases h
    | ok x =>
      rw [e] at h
      simp only at h
      have ha := evT_typed hl hk hr a g.2.2.1 i.2.1 x e
      cases e' : evT (evF r) a with
      | error z => rw [e'] at ha; exact ha
      | ok v =>
        rw [e'] at ha
        have ha : v.1 = x := ha
        subst ha
        simp only
        cases e2 : evT (kdF s) b with
        | error z => rw [e2] at h; cases h
        | ok y =>
          rw [e2] at h
          have hb := evT_typed hl hk hr b g.2.2.2 i.2.2 y e2
          cases e3 : evT (evF r) b with
          | error z => rw [e3] at hb; exact hb
          | ok u =>
            rw [e3] at hb
            have hb : u.1 = y := hb
            subst hb
            exact evF_typed hl hk g.1 [v, u] k (by rw [g.2.1]; rfl) (by
              intro z hz
              simp only [List.mem_cons, List.not_mem_nil, or_false] at hz
              rcases hz with rfl | rfl
              · exact evT_fine hr a g.2.2.1 i.2.1 _ e'
              · exact evT_fine hr b g.2.2.2 i.2.2 _ e3) h
/-- The word that answers a value. -/
def wordV (v : Vl) : Vl := if v.1 = 2 then (2, 0, v.2.2) else (1, v.2.1, ⟨#[]⟩)
theorem wordV_ok {v : Vl} (h : fine v) : okW (wordV v) = true ∧ tkI (wordV v).1 = 0 := by
  rcases fine_cases h with ⟨n, rfl, _⟩ | ⟨s, rfl, hs⟩
  · exact ⟨rfl, rfl⟩
  · refine ⟨?_, rfl⟩
    show okW (2, 0, s) = true
    unfold okW
    simp [hs]
theorem wordV_ev {v : Vl} (h : fine v) (r : List Vl) : evF r (wordV v) [] = .ok v := by
  rcases fine_cases h with ⟨n, rfl, _⟩ | ⟨s, rfl, hs⟩ <;> rfl
--END
end Go.Proofs.Ytopgapbipmblbaa

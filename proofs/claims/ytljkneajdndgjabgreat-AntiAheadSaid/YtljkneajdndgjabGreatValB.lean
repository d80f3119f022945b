/-
  A helper of ours: no claim of its own. Layer 5 (value): how a value stands to another, on both sides.
-/
import Derived.Test.YtljkneajdndgjabGreatSchS
import Derived.Test.YtljkneajdndgjabGreatNumA
import Derived.Test.YtljkneajdndgjabGreatRowA
set_option linter.unusedVariables false
set_option linter.unusedSimpArgs false
namespace Go.Proofs.YtljkneajdndgjabGreat
open Go.RowKit
--BEGIN
def truV (b : Bool) : Vl := (1, if b then 1 else 0, ⟨#[]⟩)
def exN (v e : Int) : Except Int Vl := if e = 0 then .ok (1, v, ⟨#[]⟩) else .error e
def ofNone (r : List Vl) (o : Vl) : Except Int Vl :=
  if o.1 = 1 then .ok (1, o.2.1, ⟨#[]⟩)
  else if o.1 = 2 then .ok (2, 0, o.2.2)
  else match r[o.2.1.toNat]? with
    | some v => .ok v
    | none => .error 3
def ofOne (c : Int) (a : Vl) : Except Int Vl :=
  if c = 6 then (if a.1 = 2 then .ok (1, (a.2.2.size : Int), ⟨#[]⟩) else .error 12)
  else if a.1 = 1 then (if c = 5 then .ok (truV (decide (a.2.1 = 0))) else exN (okF (inR (-a.2.1)) (-a.2.1)) (ovE (inR (-a.2.1))))
  else .error 12
def cmpB (c n : Int) : Bool :=
  if c = 13 then decide (n = 0) else if c = 14 then decide (n ≠ 0) else if c = 15 then decide (n < 0) else if c = 16 then decide (n ≤ 0) else if c = 17 then decide (0 < n) else decide (0 ≤ n)
def ofNums (c a b : Int) : Except Int Vl :=
  if c = 7 then exN (okF (inR (a + b)) (a + b)) (ovE (inR (a + b)))
  else if c = 8 then exN (okF (inR (a - b)) (a - b)) (ovE (inR (a - b)))
  else if c = 9 then exN (okF (inR (a * b)) (a * b)) (ovE (inR (a * b)))
  else if c = 10 then exN (quoV a b) (quoE a b)
  else if c = 11 then exN (remV a b) (remE b)
  else if c = 19 then .ok (truV (decide (a ≠ 0) && decide (b ≠ 0)))
  else .ok (truV (decide (a ≠ 0) || decide (b ≠ 0)))
def ofTwo (c : Int) (a b : Vl) : Except Int Vl :=
  if c = 12 then (if a.1 = 2 ∧ b.1 = 2 then (if 64 < a.2.2.size + b.2.2.size then .error 6 else .ok (2, 0, a.2.2 ++ b.2.2)) else .error 12)
  else if 13 ≤ c ∧ c ≤ 18 then (if a.1 = b.1 then .ok (truV (cmpB c (cmpV a b))) else .error 12)
  else if a.1 = 1 ∧ b.1 = 1 then ofNums c a.2.1 b.2.1 else .error 12
/-- What a word makes, of values, over a row. -/
def evF (r : List Vl) (o : Vl) : List Vl → Except Int Vl
  | [] => ofNone r o
  | [a] => ofOne o.1 a
  | a :: b :: _ => ofTwo o.1 a b
/-- A value whose number is one of 64 bits. -/
def fine (v : Vl) : Prop := may v = true ∧ (-9223372036854775808 ≤ v.2.1 ∧ v.2.1 ≤ 9223372036854775807)
theorem fine_num {n : Int} (h : -9223372036854775808 ≤ n ∧ n ≤ 9223372036854775807) : fine (1, n, ⟨#[]⟩) := ⟨rfl, h⟩
theorem fine_text {s : ByteArray} (h : s.size ≤ 64) : fine (2, 0, s) := ⟨by simp [may, mayB, h], by simp⟩
theorem fine_cases {v : Vl} (h : fine v) : (∃ n, v = (1, n, ⟨#[]⟩) ∧ (-9223372036854775808 ≤ n ∧ n ≤ 9223372036854775807)) ∨ ∃ s : ByteArray, v = (2, 0, s) ∧ s.size ≤ 64 := by
  obtain ⟨k, n, s⟩ := v
  obtain ⟨hm, hn⟩ := h
  rcases may_kind hm with ⟨h1, h2⟩ | ⟨h1, h2, h3⟩ <;> simp only at h1 h2 hn
  · subst h1
    have := empty_of h2
    subst this
    exact .inl ⟨n, rfl, hn⟩
  · subst h1; subst h2
    exact .inr ⟨s, rfl, h3⟩
theorem fine_tru (b : Bool) : fine (truV b) := by cases b <;> exact fine_num (by decide)
theorem exN_fine {v e : Int} {u : Vl} (h : exN v e = .ok u) (hv : e = 0 → -9223372036854775808 ≤ v ∧ v ≤ 9223372036854775807) : fine u ∧ u.1 = 1 := by
  unfold exN at h
  by_cases he : e = 0
  · rw [if_pos he] at h; injection h with h; subst h; exact ⟨fine_num (hv he), rfl⟩
  · rw [if_neg he] at h; cases h
theorem okF_in (n : Int) : -9223372036854775808 ≤ okF (inR n) n ∧ okF (inR n) n ≤ 9223372036854775807 := by
  cases e : inR n
  · rw [okF_false]; decide
  · rw [okF_true]; exact inR_iff.1 e
theorem quoV_in (a b : Int) : -9223372036854775808 ≤ quoV a b ∧ quoV a b ≤ 9223372036854775807 := by
  unfold quoV
  by_cases h : b = 0
  · rw [if_pos h]; decide
  · rw [if_neg h]; exact okF_in _
theorem remV_in {a : Int} (b : Int) (ha : -9223372036854775808 ≤ a ∧ a ≤ 9223372036854775807) : -9223372036854775808 ≤ remV a b ∧ remV a b ≤ 9223372036854775807 := by
  unfold remV
  by_cases h : b = 0
  · rw [if_pos h]; decide
  · rw [if_neg h]; exact tmod_abs ha
theorem ofNums_fine {c a b : Int} {u : Vl} (ha : -9223372036854775808 ≤ a ∧ a ≤ 9223372036854775807) (h : ofNums c a b = .ok u) : fine u ∧ u.1 = 1 := by
  unfold ofNums at h
  by_cases h1 : c = 7
  · rw [if_pos h1] at h; exact exN_fine h fun _ => okF_in _
  rw [if_neg h1] at h
  by_cases h1 : c = 8
  · rw [if_pos h1] at h; exact exN_fine h fun _ => okF_in _
  rw [if_neg h1] at h
  by_cases h1 : c = 9
  · rw [if_pos h1] at h; exact exN_fine h fun _ => okF_in _
  rw [if_neg h1] at h
  by_cases h1 : c = 10
  · rw [if_pos h1] at h; exact exN_fine h fun _ => quoV_in _ _
  rw [if_neg h1] at h
  by_cases h1 : c = 11
  · rw [if_pos h1] at h; exact exN_fine h fun _ => remV_in _ ha
  rw [if_neg h1] at h
  by_cases h1 : c = 19
  · rw [if_pos h1] at h; injection h with h; subst h; exact ⟨fine_tru _, rfl⟩
  rw [if_neg h1] at h
  injection h with h; subst h; exact ⟨fine_tru _, rfl⟩
theorem size_app (s t : ByteArray) : (s ++ t).size = s.size + t.size := by simp
/-- A word, as the value of a number or a text. -/
def inW (o : Vl) : Prop := -9223372036854775808 ≤ o.2.1 ∧ o.2.1 ≤ 9223372036854775807
theorem evF_fine {r : List Vl} {o : Vl} {xs : List Vl} {u : Vl} (hr : ∀ v ∈ r, fine v) (ho : okW o = true) (hi : inW o) (hx : ∀ v ∈ xs, fine v) (h : evF r o xs = .ok u) : fine u := by
  match xs, hx, h with
  | [], _, h =>
    have h : ofNone r o = .ok u := h
    unfold ofNone at h
    by_cases h1 : o.1 = 1
    · rw [if_pos h1] at h; injection h with h; subst h; exact fine_num hi
    rw [if_neg h1] at h
    by_cases h2 : o.1 = 2
    · rw [if_pos h2] at h; injection h with h; subst h
      refine fine_text ?_
      unfold okW at ho
      rw [if_neg h1, if_pos h2, Bool.and_eq_true, decide_eq_true_iff, decide_eq_true_iff] at ho
      exact ho.2
    rw [if_neg h2] at h
    cases e : r[o.2.1.toNat]? with
    | none => rw [e] at h; cases h
    | some v => rw [e] at h; injection h with h; subst h; exact hr _ (List.mem_of_getElem? e)
  | [a], hx, h =>
    have ha := hx a (by simp)
    have h : ofOne o.1 a = .ok u := h
    unfold ofOne at h
    by_cases h1 : o.1 = 6
    · rw [if_pos h1] at h
      by_cases h2 : a.1 = 2
      · rw [if_pos h2] at h; injection h with h; subst h
        refine fine_num ?_
        rcases fine_cases ha with ⟨n, rfl, _⟩ | ⟨s, rfl, hs⟩
        · cases h2
        · show _ ≤ (s.size : Int) ∧ (s.size : Int) ≤ _; omega
      · rw [if_neg h2] at h; cases h
    rw [if_neg h1] at h
    by_cases h2 : a.1 = 1
    · rw [if_pos h2] at h
      by_cases h3 : o.1 = 5
      · rw [if_pos h3] at h; injection h with h; subst h; exact fine_tru _
      · rw [if_neg h3] at h; exact (exN_fine h fun _ => okF_in _).1
    · rw [if_neg h2] at h; cases h
  | a :: b :: t, hx, h =>
    have ha := hx a (by simp)
    have h : ofTwo o.1 a b = .ok u := h
    unfold ofTwo at h
    by_cases h1 : o.1 = 12
    · rw [if_pos h1] at h
      by_cases h2 : a.1 = 2 ∧ b.1 = 2
      · rw [if_pos h2] at h
        by_cases h3 : 64 < a.2.2.size + b.2.2.size
        · rw [if_pos h3] at h; cases h
        · rw [if_neg h3] at h; injection h with h; subst h; exact fine_text (by rw [size_app]; omega)
      · rw [if_neg h2] at h; cases h
    rw [if_neg h1] at h
    by_cases h2 : 13 ≤ o.1 ∧ o.1 ≤ 18
    · rw [if_pos h2] at h
      by_cases h3 : a.1 = b.1
      · rw [if_pos h3] at h; injection h with h; subst h; exact fine_tru _
      · rw [if_neg h3] at h; cases h
    rw [if_neg h2] at h
    by_cases h3 : a.1 = 1 ∧ b.1 = 1
    · rw [if_pos h3] at h; exact (ofNums_fine ha.2 h).1
    · rw [if_neg h3] at h; cases h
/-- All words of a tree are of 64 bits. -/
def Tr.inw : Tr → Prop
  | .leaf o => inW o
  | .one o a => inW o ∧ a.inw
  | .two o a b => inW o ∧ a.inw ∧ b.inw
theorem Tr.inw_of : ∀ (t : Tr), (∀ o ∈ t.flat, inW o) → t.inw
  | .leaf o, h => h o (by simp [Tr.flat])
  | .one o a, h => ⟨h o (by simp [Tr.flat]), Tr.inw_of a fun p hp => h p (by simp [Tr.flat, hp])⟩
  | .two o a b, h => ⟨h o (by simp [Tr.flat]), Tr.inw_of a fun p hp => h p (by simp [Tr.flat, hp]), Tr.inw_of b fun p hp => h p (by simp [Tr.flat, hp])⟩
theorem evT_fine {r : List Vl} (hr : ∀ v ∈ r, fine v) : ∀ (t : Tr), t.good → t.inw → ∀ u, evT (evF r) t = .ok u → fine u
  | .leaf o, g, i, u, h => evF_fine hr g.1 i (by simp) (xs := []) h
  | .one o a, g, i, u, h => by
    simp only [evT] at h
    cases e : evT (evF r) a with
    | error z => rw [e] at h; cases h
    | ok x => rw [e] at h; exact evF_fine hr g.1 i.1 (by simpa using evT_fine hr a g.2.2 i.2 x e) h
  | .two o a b, g, i, u, h => by
    simp only [evT] at h
    cases e : evT (evF r) a with
    | error z => rw [e] at h; cases h
    | ok x =>
      rw [e] at h
      simp only at h
      cases e2 : evT (evF r) b with
      | error z => rw [e2] at h; cases h
      | ok y =>
        rw [e2] at h
        exact evF_fine hr g.1 i.1 (by
          intro v hv
          simp only [List.mem_cons, List.not_mem_nil, or_false] at hv
          rcases hv with rfl | rfl
          · exact evT_fine hr a g.2.2.1 i.2.1 _ e
          · exact evT_fine hr b g.2.2.2 i.2.2 _ e2) h
end Go.Proofs.YtljkneajdndgjabGreat
set_option linter.unusedVariables false
set_option linter.unusedSimpArgs false
namespace Go.Proofs.YtljkneajdndgjabGreat
open Go.RowKit
attribute [local go_sem] GW.cell GW.frozen In.eq_true In.le_true In.ne In.ne' In.ne_add In.ne_add' In.lt_add Upto.le_true Upto.le_add Upto.lt_add
theorem nanN_c (n : Int) (w : World) : Calls Tryz.prog 237 #[.int .i64 n] w fun e w' => e = .returned (.bool false) ∧ Ext w w' := by
  go_enter Tryz.func237, Tryz.ntmps237
  go_wp2_with fail
  go_returns
  exact ⟨rfl, Ext.refl w⟩
theorem nanT_c (s : ByteArray) (w : World) : Calls Tryz.prog 244 #[.string s] w fun e w' => e = .returned (.bool false) ∧ Ext w w' := by
  go_enter Tryz.func244, Tryz.ntmps244
  go_wp2_with fail
  go_returns
  exact ⟨rfl, Ext.refl w⟩
set_option maxHeartbeats 1000000 in
theorem cmpNum_c (n m : Int) (w : World) : Calls Tryz.prog 234 #[.int .i64 n, .int .i64 m] w fun e w' => e = .returned (.int .i64 (cmpN n m)) ∧ Ext w w' := by
  obtain ⟨r, hr⟩ : ∃ r, r = cmpN n m := ⟨_, rfl⟩
  rw [← hr]
  unfold cmpN at hr
  by_cases h1 : n < m
  · rw [if_pos h1] at hr
    subst hr
    go_enter Tryz.func234, Tryz.ntmps234
    go_wp2_with (go_at_call 237; (first | (with_reducible refine seq_gw' (nanN_c _ _) ?_) | (with_reducible refine seq_gw (nanN_c _ _) ?_)); intro g)
    go_returns
    exact ⟨rfl, g.grown⟩
  · by_cases h2 : m < n
    · rw [if_neg h1, if_pos h2] at hr
      subst hr
      go_enter Tryz.func234, Tryz.ntmps234
      go_wp2_with (go_at_call 237; (first | (with_reducible refine seq_gw' (nanN_c _ _) ?_) | (with_reducible refine seq_gw (nanN_c _ _) ?_)); intro g)
      go_returns
      exact ⟨rfl, g.grown⟩
    · rw [if_neg h1, if_neg h2] at hr
      subst hr
      have e : n = m := by omega
      subst e
      go_enter Tryz.func234, Tryz.ntmps234
      go_wp2_with (go_at_call 237; (first | (with_reducible refine seq_gw' (nanN_c _ _) ?_) | (with_reducible refine seq_gw (nanN_c _ _) ?_)); intro g)
      go_returns
      exact ⟨rfl, g.grown⟩
set_option maxHeartbeats 1000000 in
theorem cmpText_c (s t : ByteArray) (w : World) : Calls Tryz.prog 242 #[.string s, .string t] w fun e w' => e = .returned (.int .i64 (cmpL s.data.toList t.data.toList)) ∧ Ext w w' := by
  have key : ∀ r, cmpL s.data.toList t.data.toList = r → Calls Tryz.prog 242 #[.string s, .string t] w fun e w' => e = .returned (.int .i64 r) ∧ Ext w w' := by
    intro r hr
    have hlt := less_iff s.data.toList t.data.toList
    rw [hr, ← Lib.toList_data, ← Lib.toList_data] at hlt
    have heq : (s.toList == t.toList) = decide (r = 0) := by
      have := cmpL_zero s.data.toList t.data.toList
      rw [hr] at this
      rw [Lib.toList_data, Lib.toList_data]
      by_cases h : r = 0
      · simp [h, this.1 h]
      · simp [h]; intro e; exact h (this.2 (by rw [e]))
    rcases cmpL_range s.data.toList t.data.toList with e | e | e <;> rw [hr] at e <;> subst e <;> clear hr
    · replace hlt : Op.bytesLess s.toList t.toList = true := hlt
      clear heq
      go_enter Tryz.func242, Tryz.ntmps242
      go_wp2_with (go_at_call 244; (first | (with_reducible refine seq_gw' (nanT_c _ _) ?_) | (with_reducible refine seq_gw (nanT_c _ _) ?_)); intro g)
      go_returns
      exact ⟨rfl, g.grown⟩
    · replace hlt : Op.bytesLess s.toList t.toList = false := hlt
      replace heq : (s.toList == t.toList) = true := heq
      have hgt : ∀ w, (binOp .gtr 212 (.string s) (.string t)).run Tryz.prog w = .ok (.bool false) w := fun w => by simp [binOp, Op.stringOp, hlt, heq]
      go_enter Tryz.func242, Tryz.ntmps242
      go_wp2_with (go_at_call 244; (first | (with_reducible refine seq_gw' (nanT_c _ _) ?_) | (with_reducible refine seq_gw (nanT_c _ _) ?_)); intro g)
      go_returns
      exact ⟨rfl, g.grown⟩
    · replace hlt : Op.bytesLess s.toList t.toList = false := hlt
      replace heq : (s.toList == t.toList) = false := heq
      have hgt : ∀ w, (binOp .gtr 212 (.string s) (.string t)).run Tryz.prog w = .ok (.bool true) w := fun w => by simp [binOp, Op.stringOp, hlt, heq]
      go_enter Tryz.func242, Tryz.ntmps242
      go_wp2_with (go_at_call 244; (first | (with_reducible refine seq_gw' (nanT_c _ _) ?_) | (with_reducible refine seq_gw (nanT_c _ _) ?_)); intro g)
      go_returns
      exact ⟨rfl, g.grown⟩
  exact key _ rfl
theorem as_nn (m : Int) (w : World) : (Instr.typeAssert (.iface 211 (.int .i64 m)) 178 211 true).run Tryz.prog w = .ok (.tuple #[.int .i64 m, .bool true]) w := by kernel_rfl
theorem as_nt (s : ByteArray) (w : World) : (Instr.typeAssert (.iface 212 (.string s)) 178 211 true).run Tryz.prog w = .ok (.tuple #[.int .i64 0, .bool false]) w := by kernel_rfl
theorem as_tt (s : ByteArray) (w : World) : (Instr.typeAssert (.iface 212 (.string s)) 178 212 true).run Tryz.prog w = .ok (.tuple #[.string s, .bool true]) w := by kernel_rfl
theorem as_tn (m : Int) (w : World) : (Instr.typeAssert (.iface 211 (.int .i64 m)) 178 212 true).run Tryz.prog w = .ok (.tuple #[.string ⟨#[]⟩, .bool false]) w := by kernel_rfl
theorem as_n (m : Int) (w : World) : (Instr.typeAssert (.iface 211 (.int .i64 m)) 178 211 false).run Tryz.prog w = .ok (.int .i64 m) w := by kernel_rfl
theorem as_t (s : ByteArray) (w : World) : (Instr.typeAssert (.iface 212 (.string s)) 178 212 false).run Tryz.prog w = .ok (.string s) w := by kernel_rfl
set_option maxHeartbeats 1000000 in
set_option maxRecDepth 100000 in
theorem numNum_c (n m : Int) (w : World) : Calls Tryz.prog 231 #[.int .i64 n, .iface 211 (.int .i64 m)] w fun e w' => e = .returned (.int .i64 (cmpN n m)) ∧ Ext w w' := by
  have hc := hide (fun w => cmpNum_c n m w)
  generalize cmpN n m = r at hc
  have t1 := as_nn m
  have t2 := as_n m
  go_enter Tryz.func231, Tryz.ntmps231
  go_wp2_with (go_at_call 234; refine seq_gw (hc.out _) ?_; intro g)
  go_returns
  exact ⟨rfl, g.grown⟩
set_option maxHeartbeats 1000000 in
set_option maxRecDepth 100000 in
theorem numText_c (n : Int) (t : ByteArray) (w : World) : Calls Tryz.prog 231 #[.int .i64 n, .iface 212 (.string t)] w fun e w' => e = .returned (.int .i64 (-1)) ∧ Ext w w' := by
  have t1 := as_nt t
  go_enter Tryz.func231, Tryz.ntmps231
  go_wp2_with fail
  go_returns
  exact ⟨rfl, Ext.refl w⟩
set_option maxHeartbeats 1000000 in
set_option maxRecDepth 100000 in
theorem textText_c (s t : ByteArray) (w : World) : Calls Tryz.prog 239 #[.string s, .iface 212 (.string t)] w fun e w' => e = .returned (.int .i64 (cmpL s.data.toList t.data.toList)) ∧ Ext w w' := by
  have hc := hide (fun w => cmpText_c s t w)
  generalize cmpL s.data.toList t.data.toList = r at hc
  have t1 := as_tt t
  have t2 := as_t t
  go_enter Tryz.func239, Tryz.ntmps239
  go_wp2_with (go_at_call 242; refine seq_gw (hc.out _) ?_; intro g)
  go_returns
  exact ⟨rfl, g.grown⟩
set_option maxHeartbeats 1000000 in
set_option maxRecDepth 100000 in
theorem textNum_c (s : ByteArray) (m : Int) (w : World) : Calls Tryz.prog 239 #[.string s, .iface 211 (.int .i64 m)] w fun e w' => e = .returned (.int .i64 1) ∧ Ext w w' := by
  have t1 := as_tn m
  go_enter Tryz.func239, Tryz.ntmps239
  go_wp2_with fail
  go_returns
  exact ⟨rfl, Ext.refl w⟩
set_option maxHeartbeats 1000000 in
set_option maxRecDepth 100000 in
theorem cmpNN_c (n m : Int) (s t : ByteArray) (hs : s.size = 0) (ht : t.size = 0) (w : World) : Calls Tryz.prog 142 #[val 1 n s, val 1 m t] w fun e w' => e = .returned (.int .i64 (cmpN n m)) ∧ Ext w w' := by
  have h1 := hide (fun w => inner_num n s hs w)
  have h2 := hide (fun w => inner_num m t ht w)
  have hc := hide (fun w => numNum_c n m w)
  obtain ⟨r, hr⟩ : ∃ r, r = cmpN n m := ⟨_, rfl⟩
  rw [← hr] at hc ⊢
  clear hr
  clear hs ht
  go_enter Tryz.func142, Tryz.ntmps142
  go_wp2_with (first | (go_at_call 165; (first | (with_reducible refine seq_gw' (h2.out _) ?_) | (with_reducible refine seq_gw (h1.out _) ?_)); intro g) | (go_at_call 231; with_reducible refine seq_gw' (hc.out _) ?_; intro g))
  go_returns
  exact ⟨rfl, (((Ext.refl w).alloc _).alloc _).trans g.grown⟩
set_option maxHeartbeats 1000000 in
set_option maxRecDepth 100000 in
theorem cmpNT_c (n : Int) (s t : ByteArray) (hs : s.size = 0) (ht : t.size ≤ 64) (w : World) : Calls Tryz.prog 142 #[val 1 n s, val 2 0 t] w fun e w' => e = .returned (.int .i64 (-1)) ∧ Ext w w' := by
  have h1 := hide (fun w => inner_num n s hs w)
  have h2 := hide (fun w => inner_text t ht w)
  have hc := hide (fun w => numText_c n t w)
  clear hs ht
  go_enter Tryz.func142, Tryz.ntmps142
  go_wp2_with (first | (go_at_call 165; (first | (with_reducible refine seq_gw' (h2.out _) ?_) | (with_reducible refine seq_gw (h1.out _) ?_)); intro g) | (go_at_call 231; with_reducible refine seq_gw' (hc.out _) ?_; intro g))
  go_returns
  exact ⟨rfl, (((Ext.refl w).alloc _).alloc _).trans g.grown⟩
set_option maxHeartbeats 1000000 in
set_option maxRecDepth 100000 in
theorem cmpTN_c (m : Int) (s t : ByteArray) (hs : s.size ≤ 64) (ht : t.size = 0) (w : World) : Calls Tryz.prog 142 #[val 2 0 s, val 1 m t] w fun e w' => e = .returned (.int .i64 (1)) ∧ Ext w w' := by
  have h1 := hide (fun w => inner_text s hs w)
  have h2 := hide (fun w => inner_num m t ht w)
  have hc := hide (fun w => textNum_c s m w)
  clear hs ht
  go_enter Tryz.func142, Tryz.ntmps142
  go_wp2_with (first | (go_at_call 165; (first | (with_reducible refine seq_gw' (h2.out _) ?_) | (with_reducible refine seq_gw (h1.out _) ?_)); intro g) | (go_at_call 239; with_reducible refine seq_gw' (hc.out _) ?_; intro g))
  go_returns
  exact ⟨rfl, (((Ext.refl w).alloc _).alloc _).trans g.grown⟩
set_option maxHeartbeats 1000000 in
set_option maxRecDepth 100000 in
theorem cmpTT_c (s t : ByteArray) (hs : s.size ≤ 64) (ht : t.size ≤ 64) (w : World) : Calls Tryz.prog 142 #[val 2 0 s, val 2 0 t] w fun e w' => e = .returned (.int .i64 (cmpL s.data.toList t.data.toList)) ∧ Ext w w' := by
  have h1 := hide (fun w => inner_text s hs w)
  have h2 := hide (fun w => inner_text t ht w)
  have hc := hide (fun w => textText_c s t w)
  obtain ⟨r, hr⟩ : ∃ r, r = cmpL s.data.toList t.data.toList := ⟨_, rfl⟩
  rw [← hr] at hc ⊢
  clear hr hs ht
  go_enter Tryz.func142, Tryz.ntmps142
  go_wp2_with (first | (go_at_call 165; (first | (with_reducible refine seq_gw' (h2.out _) ?_) | (with_reducible refine seq_gw (h1.out _) ?_)); intro g) | (go_at_call 239; with_reducible refine seq_gw' (hc.out _) ?_; intro g))
  go_returns
  exact ⟨rfl, (((Ext.refl w).alloc _).alloc _).trans g.grown⟩
theorem inner_some {k n : Int} {s : ByteArray} (h : mayB k n s = true) : ∃ v, ∀ w, Calls Tryz.prog 165 #[val k n s] w fun e w' => e = .returned (.tuple #[v, .bool true]) ∧ Ext w w' := by
  rcases may_cases (k := k) (n := n) (s := s) with ⟨rfl, h'⟩ | ⟨rfl, rfl, h'⟩ | ⟨hm, _⟩
  · exact ⟨_, fun w => inner_num n s h' w⟩
  · exact ⟨_, fun w => inner_text s h' w⟩
  · rw [h] at hm; cases hm
theorem inner_no {k n : Int} {s : ByteArray} (h : mayB k n s = false) (w : World) : Calls Tryz.prog 165 #[val k n s] w fun e w' => e = .returned (.tuple #[.nilIface, .bool false]) ∧ Ext w w' := by
  rcases may_cases (k := k) (n := n) (s := s) with ⟨rfl, h'⟩ | ⟨rfl, rfl, h'⟩ | ⟨_, h'⟩
  · rw [may_num h'] at h; cases h
  · rw [may_text h'] at h; cases h
  · exact inner_none k n s h' w
set_option maxHeartbeats 1000000 in
set_option maxRecDepth 100000 in
theorem cmpNo1_c (k n k' m : Int) (s t : ByteArray) (h : mayB k n s = false) (w : World) : Calls Tryz.prog 142 #[val k n s, val k' m t] w fun e w' => e = .returned (.int .i64 0) ∧ Ext w w' := by
  have h1 := hide (fun w => inner_no h w)
  clear h
  go_enter Tryz.func142, Tryz.ntmps142
  go_wp2_with (first | (go_at_call 165; with_reducible refine seq_gw (h1.out _) ?_; intro g))
  go_returns
  exact ⟨rfl, (((Ext.refl w).alloc _).alloc _).trans g.grown⟩
set_option maxHeartbeats 1000000 in
set_option maxRecDepth 100000 in
theorem cmpNo2_c (k n k' m : Int) (s t : ByteArray) (h : mayB k n s = true) (h' : mayB k' m t = false) (w : World) : Calls Tryz.prog 142 #[val k n s, val k' m t] w fun e w' => e = .returned (.int .i64 0) ∧ Ext w w' := by
  obtain ⟨v, h1⟩ := inner_some h
  replace h1 := hide h1
  have h2 := hide (fun w => inner_no h' w)
  clear h h'
  go_enter Tryz.func142, Tryz.ntmps142
  go_wp2_with (first | (go_at_call 165; (first | (with_reducible refine seq_gw' (h2.out _) ?_) | (with_reducible refine seq_gw (h1.out _) ?_)); intro g))
  go_returns
  exact ⟨rfl, (((Ext.refl w).alloc _).alloc _).trans g.grown⟩
/-- How a value stands to another. -/
theorem compare_c (k n k' m : Int) (s t : ByteArray) (w : World) : Calls Tryz.prog 142 #[val k n s, val k' m t] w fun e w' => e = .returned (.int .i64 (cmpV (k, n, s) (k', m, t))) ∧ Ext w w' := by
  unfold cmpV may
  simp only
  rcases may_cases (k := k) (n := n) (s := s) with ⟨rfl, h⟩ | ⟨rfl, rfl, h⟩ | ⟨hm, h⟩ <;> rcases may_cases (k := k') (n := m) (s := t) with ⟨rfl, h'⟩ | ⟨rfl, rfl, h'⟩ | ⟨hm', h'⟩
  · rw [may_num h, may_num h']; exact cmpNN_c n m s t h h' w
  · rw [may_num h, may_text h']; exact cmpNT_c n s t h h' w
  · rw [may_num h, hm']; exact cmpNo2_c _ _ _ _ _ _ (may_num h) hm' w
  · rw [may_text h, may_num h']; exact cmpTN_c m s t h h' w
  · rw [may_text h, may_text h']; exact cmpTT_c s t h h' w
  · rw [may_text h, hm']; exact cmpNo2_c _ _ _ _ _ _ (may_text h) hm' w
  · rw [hm]; exact cmpNo1_c _ _ _ _ _ _ hm w
  · rw [hm]; exact cmpNo1_c _ _ _ _ _ _ hm w
  · rw [hm]; exact cmpNo1_c _ _ _ _ _ _ hm w
end Go.Proofs.YtljkneajdndgjabGreat

/-
  A helper of ours: no claim of its own. Layer 9 (step): the document's side: places, what is told by values, jumps put together.
-/
import Derived.Test.YtljkneajdndgjabGreatStepE
import Derived.Test.YtljkneajdndgjabGreatReg
import Derived.Test.YtljkneajdndgjabGreatReg3
set_option linter.unusedVariables false
set_option linter.unusedSimpArgs false
namespace Go.Proofs.YtljkneajdndgjabGreat
open Go.RowKit
attribute [local go_sem] GW.cell GW.frozen In.eq_true In.le_true In.ne In.ne' In.ne_add In.ne_add' In.lt_add Upto.le_true Upto.le_add Upto.lt_add
/-- Whole numbers as cells. -/
def zc (l : List Int) : List Value := l.map fun x => .int .i64 x
theorem zc_append (l m : List Int) : zc (l ++ m) = zc l ++ zc m := by simp [zc]
abbrev Zw (w : World) (S : List Nat) (v : Value) (l : List Int) : Prop := Sl w S 1 v l.length (zc l)
abbrev OwnZ (w : World) (base : Nat) (v : Value) (l : List Int) : Prop := w.ownsRow base 3 1 v l.length (zc l)
theorem zw_form {w : World} {S : List Nat} {v : Value} {l : List Int} (h : Zw w S v l) : ∃ A cap, v = .slice A l.length cap ∧ l.length ≤ cap ∧ cap ≤ maxLen ∧
    ∀ (i : Nat) (x : Int), l[i]? = some x → ∃ b o, A = some ⟨b, o, none⟩ ∧ b ∉ S ∧ b < w.heap.size ∧ w.cell? ⟨b, o + i, none⟩ = some (.int .i64 x) := by
  obtain ⟨A, cap, rfl, h1, h2, h3, h4⟩ := h
  refine ⟨A, cap, rfl, h1, h2, fun i x hx => ?_⟩
  have hg : (zc l)[i]? = some (.int .i64 x) := by simp [zc, hx]
  rcases h4 with h4 | ⟨b, o, rfl, hb, hc⟩
  · rw [h4] at hg; cases hg
  · have c0 := hc _ _ hg
    exact ⟨b, o, rfl, hb, block_lt_of_cell c0, c0⟩
theorem tZ : ElemT Tryz.prog 111 3 (.int .i64 0) 1 8 := ElemT.mk' Tryz.underlying111 (by kernel_rfl) rfl (by omega)
theorem own_appZ {w : World} {B : Nat} {v : Value} {l : List Int} {x : Int} (h : w.ownsRow B 3 1 v (l.length + 1) (zc l ++ [.int .i64 x])) : OwnZ w B v (l ++ [x]) := by
  unfold OwnZ; rw [List.length_append, zc_append]; exact h
theorem own_zw {w : World} {B : Nat} {v : Value} {l : List Int} (h : OwnZ w B v l) : Zw w [] v l := Sl.own h (by simp)
theorem src_z {P : Program} {tx e' : TypeId} (hk : P.underlying tx = some (.slice e')) (w : World) (B : Nat) (hB : B = w.heap.size) (x : Int) (E : TypeId) : Src P 1 tx (.slice (some ⟨B, 0, none⟩) 1 1) 1 [.int .i64 x] (w.alloc (.cells #[.int .i64 x] E)) := by
  subst hB; exact src_one hk w (.int .i64 x) E rfl
/-- What is in hand while a place is looked for. -/
def wi (p : Bool) (t : Int) (m : List Int) : List Int := if p then m.filter (fun x => decide (x < t)) ++ t :: m.filter (fun x => decide (t < x)) else m
theorem wi_len (p : Bool) (t : Int) (m : List Int) : (wi p t m).length ≤ 2 * m.length + 1 := by
  unfold wi
  split
  · have h1 := List.length_filter_le (fun x => decide (x < t)) m
    have h2 := List.length_filter_le (fun x => decide (t < x)) m
    simp only [List.length_append, List.length_cons]; omega
  · omega
theorem all_lt {m : List Int} {t : Int} (h : ∀ x ∈ m, x < t) : m.filter (fun x => decide (x < t)) = m ∧ m.filter (fun x => decide (t < x)) = [] := by
  constructor
  · exact List.filter_eq_self.2 fun y hy => by simpa using h y hy
  · exact List.filter_eq_nil_iff.2 fun y hy => by have := h y hy; simp; omega
theorem lt_of_asc {l : List Int} (h : l.Pairwise (· < ·)) {k : Nat} {x : Int} (hx : l[k]? = some x) : ∀ y ∈ l.take k, y < x := by
  have e : l = l.take k ++ x :: l.drop (k + 1) := by rw [← jdrop_cons hx, List.take_append_drop]
  rw [e] at h
  intro y hy
  exact (List.pairwise_append.1 h).2.2 y hy x (by simp)
set_option maxHeartbeats 8000000 in
set_option maxRecDepth 100000 in
theorem with_c (l : List Int) (ha : l.Pairwise (· < ·)) (hn : l.length ≤ 4096) (t : Int) (v : Value) (w : World) (h : Zw w [] v l) : Calls Tryz.prog 130 #[v, .int .i64 t] w fun e w' => ∃ v', e = .returned v' ∧ Zw w' [] v' (ins l t) ∧ Ext w w' := by
  have hv := hide h
  obtain ⟨A, cap, rfl, hl, hm, hat⟩ := zw_form h
  unfold maxLen at hm
  replace hat := hide hat
  have hnI : (l.length : Int) ≤ 4096 := by omega
  replace ha := hide ha
  clear h
  obtain ⟨R, hR⟩ : ∃ R, R = ins l t := ⟨_, rfl⟩
  rw [← hR]
  replace hR := hide hR
  have hlit := hide (World.ownsRow_lit (base := w.heap.size) (e := 3) (size := 1) w #[] 0 (Nat.le_refl _) (by decide) rfl)
  go_enter Tryz.func130, Tryz.ntmps130
  go_wp2_with fail
  go_loopg [5, 6, 7] l.length (fun gh u b i wr => ∃ (k : Nat) (p : Bool), i = .int .i64 k ∧ b = .bool p ∧ k + gh = l.length ∧ OwnZ wr w.heap.size u (wi p t (l.take k)) ∧ Hid (t ∉ l.take k) ∧ Hid (p = false → ∀ x ∈ l.take k, x < t) ∧ Hid (p = true → ∃ x ∈ l.take k, t < x) ∧ Ext w wr)
  case atStart => exact ⟨0, false, rfl, rfl, by omega, hlit.out, by simp [Hid], (fun _ x hx => by simp at hx), (fun h => by cases h), (Ext.refl w).alloc _⟩
  case round =>
    obtain ⟨k, p, rfl, rfl, hk, ho, hno, hf, ht, hX⟩ := hrel
    have hzX := hX.size
    have hwl := wi_len p t (l.take k)
    have htl : (l.take k).length ≤ k := by rw [List.length_take]; omega
    by_cases hlt : k < l.length
    · obtain ⟨x, hx⟩ : ∃ x, l[k]? = some x := ⟨_, List.getElem?_eq_getElem hlt⟩
      obtain ⟨b, o, rfl, -, hbl, c0⟩ := hat.out k x hx
      have k0 := jcell_later hX c0
      have hbr : b < wr.heap.size := block_lt_of_cell k0
      have hasc := hide (lt_of_asc ha.out hx)
      have hmem := List.mem_of_getElem? hx
      have hts := take_snoc hx
      have c0h := hide c0
      clear c0
      by_cases hxt : x = t
      · subst hxt
        have e : Hid (R = l) := by show _ = _; rw [hR.out]; unfold ins; rw [if_pos hmem]
        have hl' := hide (Sl.ext hv.out hX)
        clear hmem hts hwl htl
        go_wp2_with fail
        go_returns
        rw [e.out]
        exact ⟨_, rfl, hl'.out, hX⟩
      · have hxb : (x == t) = false := by simp [hxt]
        have hno' : Hid (t ∉ l.take (k + 1)) := by
          show ¬ _
          rw [hts]
          intro h'
          rcases List.mem_append.1 h' with h' | h'
          · exact hno.out h'
          · simp only [List.mem_singleton] at h'; exact hxt h'.symm
        by_cases hlt2 : t < x
        · have ht' : Hid (∃ y ∈ l.take (k + 1), t < y) := ⟨x, by rw [hts]; simp, hlt2⟩
          cases p
          · -- the place is put ahead of x
            have hall := hf.out rfl
            have e0 : wi false t (l.take k) = l.take k := rfl
            have e1 : wi true t (l.take (k + 1)) = (l.take k ++ [t]) ++ [x] := by
              unfold wi
              rw [if_pos rfl, hts, List.filter_append, List.filter_append, (all_lt hall).1, (all_lt hall).2]
              simp [hlt2, show ¬ x < t by omega]
            rw [e0] at ho
            obtain ⟨C, ccap, rfl⟩ := own_form ho
            have lk : (l.take k).length ≤ 4096 := by omega
            generalize l.take k = pre at *
            replace ho := hide ho
            replace e1 := hide e1
            replace hxt := hide hxt
            clear e0 hwl hts hall hmem hf ht
            go_wp2_with (first
              | (at_builtin; (refine wpl_app tZ rfl (.tmp 32) (.tmp 34) rfl rfl (own_ext ho.out ((Ext.refl wr).alloc _)) rfl (src_z Tryz.underlying111 wr _ rfl t _) (by unfold maxLen; omega) (by omega) (by simp only [World.size_alloc]; omega) ?_; intro v7 w7 ho7 hg7 _; have hX7 := hide (ext_grown (hX.alloc _) hg7 (fun k hk => (ho.out.lt k hk).1)); replace ho7 := hide (own_appZ ho7); have hz7 := hX7.out.size; have j0 := jcell_later hX7.out c0h.out))
              | (at_builtin; (refine wpl_app tZ rfl (.tmp 36) (.tmp 41) rfl rfl (own_ext ho7.out ((Ext.refl w7).alloc _)) rfl (src_z Tryz.underlying111 w7 _ rfl x _) (by unfold maxLen; simp only [List.length_append, List.length_singleton]; omega) (by simp only [List.length_append, List.length_singleton]; omega) (by simp only [World.size_alloc]; omega) ?_; intro v8 w8 ho8 hg8 _)))
            go_roundg (l.length - (k + 1))
            case measure => omega
            case rel => exact ⟨k + 1, true, by go_num, rfl, by omega, by rw [e1.out]; exact own_appZ ho8, hno', (fun h => by cases h), (fun _ => ht'.out), ext_grown (hX7.out.alloc _) hg8 (fun k hk => (ho7.out.lt k hk).1)⟩
          · have e1 : wi true t (l.take (k + 1)) = wi true t (l.take k) ++ [x] := by
              unfold wi
              rw [if_pos rfl, if_pos rfl, hts, List.filter_append, List.filter_append]
              simp [hlt2, show ¬ x < t by omega]
            obtain ⟨C, ccap, rfl⟩ := own_form ho
            generalize wi true t (l.take k) = acc at *
            replace ho := hide ho
            replace e1 := hide e1
            replace hxt := hide hxt
            clear hts hmem hf ht
            go_wp2_with (at_builtin; (refine wpl_app tZ rfl (.tmp 36) (.tmp 41) rfl rfl (own_ext ho.out ((Ext.refl wr).alloc _)) rfl (src_z Tryz.underlying111 wr _ rfl x _) (by unfold maxLen; omega) (by omega) (by simp only [World.size_alloc]; omega) ?_; intro v8 w8 ho8 hg8 _))
            go_roundg (l.length - (k + 1))
            case measure => omega
            case rel => exact ⟨k + 1, true, by go_num, rfl, by omega, by rw [e1.out]; exact own_appZ ho8, hno', (fun h => by cases h), (fun _ => ht'.out), ext_grown (hX.alloc _) hg8 (fun k hk => (ho.out.lt k hk).1)⟩
        · have hp : p = false := by
            cases p
            · rfl
            · obtain ⟨y, hy, hy2⟩ := ht.out rfl
              have := hasc.out y hy
              omega
          subst hp
          have d : decide (t < x) = false := by rw [decide_eq_false_iff_not]; exact hlt2
          have hall := hf.out rfl
          have hf' : Hid (∀ y ∈ l.take (k + 1), y < t) := fun y hy => by
            rw [hts] at hy
            rcases List.mem_append.1 hy with hy | hy
            · exact hall y hy
            · simp only [List.mem_singleton] at hy; subst hy; omega
          have e1 : wi false t (l.take (k + 1)) = wi false t (l.take k) ++ [x] := hts
          obtain ⟨C, ccap, rfl⟩ := own_form ho
          generalize wi false t (l.take k) = acc at *
          replace ho := hide ho
          replace e1 := hide e1
          replace hxt := hide hxt
          clear hts hmem hf ht hlt2 hall
          go_wp2_with (at_builtin; (refine wpl_app tZ rfl (.tmp 36) (.tmp 41) rfl rfl (own_ext ho.out ((Ext.refl wr).alloc _)) rfl (src_z Tryz.underlying111 wr _ rfl x _) (by unfold maxLen; omega) (by omega) (by simp only [World.size_alloc]; omega) ?_; intro v8 w8 ho8 hg8 _))
          go_roundg (l.length - (k + 1))
          case measure => omega
          case rel => exact ⟨k + 1, false, by go_num, rfl, by omega, by rw [e1.out]; exact own_appZ ho8, hno', (fun _ => hf'.out), (fun h => by cases h), ext_grown (hX.alloc _) hg8 (fun k hk => (ho.out.lt k hk).1)⟩
    · have hk' : k = l.length := by omega
      have hge : (l.length : Int) ≤ k := by omega
      have htk : l.take k = l := by rw [hk', List.take_length]
      rw [htk] at hno hf ht ho hwl
      have hnotin := hno.out
      replace hk' := hide hk'
      clear htk htl
      cases p
      · have hall := hf.out rfl
        have e1 : Hid (R = l ++ [t]) := by
          show _ = _
          rw [hR.out]
          unfold ins
          rw [if_neg hnotin, (all_lt hall).1, (all_lt hall).2]
        have e0 : wi false t l = l := rfl
        rw [e0] at ho
        obtain ⟨C, ccap, rfl⟩ := own_form ho
        replace ho := hide ho
        clear e0 hall hf ht hno hnotin hwl
        go_wp2_with (at_builtin; (refine wpl_app tZ rfl (.tmp 45) (.tmp 47) rfl rfl (own_ext ho.out ((Ext.refl wr).alloc _)) rfl (src_z Tryz.underlying111 wr _ rfl t _) (by unfold maxLen; omega) (by omega) (by simp only [World.size_alloc]; omega) ?_; intro v8 w8 ho8 hg8 _))
        go_returns
        rw [e1.out]
        exact ⟨_, rfl, own_zw (own_appZ ho8), ext_grown (hX.alloc _) hg8 (fun k hk => (ho.out.lt k hk).1)⟩
      · have e1 : Hid (R = wi true t l) := by
          show _ = _
          rw [hR.out]
          unfold ins wi
          rw [if_neg hnotin, if_pos rfl]
        obtain ⟨C, ccap, rfl⟩ := own_form ho
        replace ho := hide ho
        clear hf ht hno hnotin hwl
        go_wp2_with fail
        go_returns
        rw [e1.out]
        exact ⟨_, rfl, own_zw ho.out, hX⟩
theorem places_len (f g : List Jp) : (plc (plc [] f) g).length ≤ f.length + g.length := by
  have h1 := plc_length f [] Asc.nil'
  have h2 := plc_length g (plc [] f) (plc_asc _ _ Asc.nil')
  simp only [List.length_nil] at h1
  omega
theorem plc_next {l : List Jp} {k : Nat} {x : Jp} (a : List Int) (hx : l[k]? = some x) : plc a (l.take (k + 1)) = ins (plc a (l.take k)) x.1 := by rw [take_snoc hx, plc_snoc]
set_option maxHeartbeats 8000000 in
set_option maxRecDepth 100000 in
theorem places_c (l m : List Jp) (hn : l.length ≤ 1024) (hm : m.length ≤ 1024) (v u : Value) (w : World) (h : Jw w [] v l) (h2 : Jw w [] u m) : Calls Tryz.prog 85 #[v, u] w fun e w' => ∃ v', e = .returned v' ∧ Zw w' [] v' (plc (plc [] l) m) ∧ Ext w w' := by
  obtain ⟨A, cap, rfl, hl, hlm, hat⟩ := jw_form h
  obtain ⟨A2, cap2, rfl, hl2, hlm2, hbt⟩ := jw_form h2
  unfold maxLen at hlm hlm2
  replace hat := hide hat
  replace hbt := hide hbt
  have hnI : (l.length : Int) ≤ 4096 := by omega
  have hmI : (m.length : Int) ≤ 4096 := by omega
  have hstl := hide (show ([] : List Int).length + l.length ≤ 4096 by simp; omega)
  have hstm := hide (show (plc [] l).length + m.length ≤ 4096 by have := plc_length l [] Asc.nil'; simp only [List.length_nil] at this; omega)
  have hlit := hide (World.ownsRow_lit (base := w.heap.size) (e := 3) (size := 1) w #[] 0 (Nat.le_refl _) (by decide) rfl)
  clear h h2
  go_enter Tryz.func85, Tryz.ntmps85
  go_wp2_with fail
  go_loopg [5, 6] l.length (fun gh u i wr => ∃ (k : Nat), i = .int .i64 k ∧ k + gh = l.length ∧ Zw wr [] u (plc [] (l.take k)) ∧ Ext w wr)
  case atStart => exact ⟨0, rfl, by omega, own_zw hlit.out, (Ext.refl w).alloc _⟩
  case round =>
    obtain ⟨k, rfl, hk, hz, hX⟩ := hrel
    by_cases hlt : k < l.length
    · obtain ⟨x, hx⟩ : ∃ x, l[k]? = some x := ⟨_, List.getElem?_eq_getElem hlt⟩
      obtain ⟨b, o, rfl, -, hbl, c0, c1⟩ := hat.out k x hx
      have k0 := jcell_later hX c0
      have hbr : b < wr.heap.size := block_lt_of_cell k0
      have hnx := hide (plc_next [] hx)
      have hwt := hide (fun (pl : (plc [] (l.take k)).length ≤ 4096) => with_c (plc [] (l.take k)) (plc_asc _ _ Asc.nil') pl x.1 _ wr hz)
      have hpl : (plc [] (l.take k)).length ≤ 4096 := by
        have h1 := plc_length (l.take k) [] Asc.nil'
        have h2 : (l.take k).length ≤ l.length := by rw [List.length_take]; omega
        have h3 := hstl.out
        omega
      have hwt2 := hide (hwt.out hpl)
      obtain ⟨C, ccap, rfl, -, -, -⟩ := zw_form hz
      obtain ⟨xp, xn⟩ := x
      simp only at k0
      replace hpl := hide hpl
      clear c0 c1 hwt hz hx
      go_wp2_with (go_at_call 130; refine hwt2.out.mono ?_; rintro ee w7 ⟨v7, rfl, hz7, hx7⟩)
      go_roundg (l.length - (k + 1))
      case measure => omega
      case rel => exact ⟨k + 1, by go_num, by omega, by rw [hnx.out]; exact hz7, hX.trans hx7⟩
    · have hk' : k = l.length := by omega
      have hge : (l.length : Int) ≤ k := by omega
      rw [hk', List.take_length] at hz
      replace hk' := hide hk'
      have hz0 := hide hz
      have hX0 := hide hX
      have dk : decide (k < l.length) = false := by rw [decide_eq_false_iff_not]; exact hlt
      obtain ⟨C, ccap, rfl, -, -, -⟩ := zw_form hz
      clear hz hX hlt
      go_wp2_with fail
      go_loopg [5, 7] m.length (fun gh u i wr => ∃ (k : Nat), i = .int .i64 k ∧ k + gh = m.length ∧ Zw wr [] u (plc (plc [] l) (m.take k)) ∧ Ext w wr)
      case atStart => exact ⟨0, rfl, by omega, hz0.out, hX0.out⟩
      case round =>
        obtain ⟨k, rfl, hk, hz, hX⟩ := hrel
        by_cases hlt : k < m.length
        · obtain ⟨x, hx⟩ : ∃ x, m[k]? = some x := ⟨_, List.getElem?_eq_getElem hlt⟩
          obtain ⟨b, o, rfl, -, hbl, c0, c1⟩ := hbt.out k x hx
          have k0 := jcell_later hX c0
          have hbr : b < wr.heap.size := block_lt_of_cell k0
          have hnx := hide (plc_next (plc [] l) hx)
          have hwt := hide (fun (pl : (plc (plc [] l) (m.take k)).length ≤ 4096) => with_c (plc (plc [] l) (m.take k)) (plc_asc _ _ (plc_asc _ _ Asc.nil')) pl x.1 _ wr hz)
          have hpl : (plc (plc [] l) (m.take k)).length ≤ 4096 := by
            have h1 := plc_length (m.take k) (plc [] l) (plc_asc _ _ Asc.nil')
            have h2 : (m.take k).length ≤ m.length := by rw [List.length_take]; omega
            have h3 := hstm.out
            omega
          have hwt2 := hide (hwt.out hpl)
          obtain ⟨C, ccap, rfl, -, -, -⟩ := zw_form hz
          obtain ⟨xp, xn⟩ := x
          simp only at k0
          replace hpl := hide hpl
          clear c0 c1 hwt hz hx
          go_wp2_with (go_at_call 130; refine hwt2.out.mono ?_; rintro ee w7 ⟨v7, rfl, hz7, hx7⟩)
          go_roundg (m.length - (k + 1))
          case measure => omega
          case rel => exact ⟨k + 1, by go_num, by omega, by rw [hnx.out]; exact hz7, hX.trans hx7⟩
        · have hk' : k = m.length := by omega
          have hge : (m.length : Int) ≤ k := by omega
          rw [hk', List.take_length] at hz
          replace hk' := hide hk'
          obtain ⟨C2, ccap2, rfl, -, -, -⟩ := zw_form hz
          replace hz := hide hz
          clear hlt
          go_wp2_with fail
          go_returns
          exact ⟨_, rfl, hz.out, hX⟩
theorem buildJ1 (x : Jp) (w : World) : (Instr.buildSlice 39 1 #[(0, jm x)]).run Tryz.prog w = .ok (.slice (some ⟨w.heap.size, 0, none⟩) 1 1) (w.alloc (.cells #[.int .i64 x.1, .int .i64 x.2] 80)) := by
  simp [go_sem]
def oneJ (x : Jp) : Fact := .st (fun u w => Jw w [] u [x]) (fun _ _ _ h k => Sl.ext h k)
theorem oneJ_new (x : Jp) (w : World) : Jw (w.alloc (.cells #[.int .i64 x.1, .int .i64 x.2] 80)) [] (.slice (some ⟨w.heap.size, 0, none⟩) 1 1) [x] :=
  Sl.own (World.ownsRow_lit (base := w.heap.size) (e := 80) (size := 2) w #[.int .i64 x.1, .int .i64 x.2] 1 (Nat.le_refl _) (by decide) rfl) (by simp)
theorem tell_next (v : Int → Int) {ps : List Int} {k : Nat} {p : Int} (hp : ps[k]? = some p) (was : Int) : tell v (ps.drop k) was = if v p = was then tell v (ps.drop (k + 1)) (v p) else (p, v p - was) :: tell v (ps.drop (k + 1)) (v p) := by
  rw [jdrop_cons hp, tell]
set_option maxHeartbeats 8000000 in
set_option maxRecDepth 100000 in
theorem told_c (ps : List Int) (vf : Int → Int) (hb : ∀ p ∈ ps, -1152921504606846976 ≤ vf p ∧ vf p ≤ 1152921504606846976) (hn : ps.length ≤ 4096) (v u : Value) (w : World) (h : Zw w [] v ps) (h2 : Zw w [] u (ps.map vf)) : Calls Tryz.prog 86 #[v, u] w fun e w' => ∃ v', e = .returned (.tuple #[v', .int .i64 (full (tell vf ps 0))]) ∧ OwnJ w' w.heap.size v' (kept (tell vf ps 0)) ∧ Ext w w' := by
  obtain ⟨A, cap, rfl, hl, hm, hat⟩ := zw_form h
  obtain ⟨A2, cap2, rfl, hl2, hm2, hbt⟩ := zw_form h2
  rw [List.length_map] at hl2 ⊢
  unfold maxLen at hm hm2
  replace hat := hide hat
  replace hbt := hide hbt
  have hnI : (ps.length : Int) ≤ 4096 := by omega
  replace hb := hide hb
  clear h h2
  obtain ⟨F, hF⟩ : ∃ F, F = tell vf ps 0 := ⟨_, rfl⟩
  rw [← hF]
  replace hF := hide hF
  obtain ⟨E, hE⟩ : ∃ E, E = full F := ⟨_, rfl⟩
  obtain ⟨R, hR⟩ : ∃ R, R = kept F := ⟨_, rfl⟩
  rw [← hE, ← hR]
  replace hE := hide hE
  replace hR := hide hR
  have hlit := hide (World.ownsRow_lit (base := w.heap.size) (e := 80) (size := 2) w #[] 0 (Nat.le_refl _) (by decide) rfl)
  go_enter Tryz.func86, Tryz.ntmps86
  go_wp2_with fail
  go_loopg [6, 7, 8] ps.length (fun gh uf uw i wr => ∃ (k : Nat) (acc : List Jp) (z : Int), i = .int .i64 k ∧ uw = .int .i64 z ∧ k + gh = ps.length ∧ OwnJ wr w.heap.size uf acc ∧ acc.length ≤ k ∧ (-1152921504606846976 ≤ z ∧ z ≤ 1152921504606846976) ∧ Hid (F = acc ++ tell vf (ps.drop k) z) ∧ Ext w wr)
  case atStart => exact ⟨0, [], 0, rfl, rfl, by omega, hlit.out, Nat.le_refl _, by omega, hF.out, (Ext.refl w).alloc _⟩
  case round =>
    obtain ⟨k, acc, z, rfl, rfl, hk, ho, hak, ⟨z1, z2⟩, hacc, hX⟩ := hrel
    have hzX := hX.size
    by_cases hlt : k < ps.length
    · obtain ⟨p, hp⟩ : ∃ p, ps[k]? = some p := ⟨_, List.getElem?_eq_getElem hlt⟩
      obtain ⟨b0, o0, rfl, -, hbl, c0⟩ := hat.out k p hp
      obtain ⟨b1, o1, rfl, -, hbl', d0⟩ := hbt.out k (vf p) (by rw [List.getElem?_map, hp]; rfl)
      have k0 := jcell_later hX c0
      have j0 := jcell_later hX d0
      have hbr : b0 < wr.heap.size := block_lt_of_cell k0
      have hbr' : b1 < wr.heap.size := block_lt_of_cell j0
      obtain ⟨n1, n2⟩ := hb.out p (List.mem_of_getElem? hp)
      have hnx := hacc.out
      rw [tell_next vf hp] at hnx
      generalize hvp : vf p = x at *
      replace hvp := hide hvp
      have d0h := hide d0
      clear c0 d0 hp hacc
      by_cases hxz : x = z
      · subst hxz
        rw [if_pos rfl] at hnx
        replace hnx := hide hnx
        go_wp2_with fail
        go_roundg (ps.length - (k + 1))
        case measure => omega
        case rel => exact ⟨k + 1, acc, x, by go_num, rfl, by omega, ho, by omega, by omega, hnx.out, hX⟩
      · have hxb : (x != z) = true := by simp [hxz]
        rw [if_neg hxz] at hnx
        replace hnx := hide hnx
        replace hxz := hide hxz
        have hws : IntKind.i64.wrap (x - z) = x - z := by simp [IntKind.wrap, IntKind.bits, IntKind.signed]; omega
        obtain ⟨C, ccap, rfl⟩ := own_form ho
        replace ho := hide ho
        replace k0 := hide k0
        have j0h := hide j0
        go_wp2_with fail
        replace j0 := hide j0
        refine wp_region_list_tail 13 [(.is (.slice C acc.length ccap)), (.is (.slice (some ⟨b0, o0, none⟩) ps.length cap)), (.is (.int .i64 k)), (.is (.pointer (some ⟨b0, o0 + k, none⟩))), (.is (.int .i64 p)), (.is (.slice (some ⟨b1, o1, none⟩) ps.length cap2)), (.is (.int .i64 k)), (.is (.pointer (some ⟨b1, o1 + k, none⟩))), (.is (.int .i64 x)), (.is (.int .i64 z)), (.is (.int .i64 (x - z))), (.is (jm (p, x - z))), oneJ (p, x - z)] (by kernel_rfl) (by kernel_rfl) (by kernel_rfl) (by kernel_rfl) (by kernel_rfl) (by kernel_rfl) (by kernel_rfl) ?_ ?_
        · refine ⟨?_, ?_, ?_, ?_, ?_, ?_, ?_, ?_, ?_, ?_, ?_, ?_, ?_, trivial⟩
          · intro b w' h hE
            have f6 : b.tmps.getD 6 undef = .slice C acc.length ccap := hE 6 (of_decide_eq_true (by kernel_rfl))
            exact good_move (wanted_none rfl) rfl f6
          · intro b w' h hE
            have f0 : b.tmps.getD 0 undef = .slice (some ⟨b0, o0, none⟩) ps.length cap := hE 0 (of_decide_eq_true (by kernel_rfl))
            exact good_move (wanted_none rfl) rfl f0
          · intro b w' h hE
            have f8 : b.tmps.getD 8 undef = .int .i64 k := hE 8 (of_decide_eq_true (by kernel_rfl))
            exact good_move (wanted_none rfl) rfl f8
          · intro b w' h hE
            have f23 : b.tmps.getD 23 undef = .slice (some ⟨b0, o0, none⟩) ps.length cap := h.dep 1 _ 23 (by kernel_rfl) rfl rfl
            have f24 : b.tmps.getD 24 undef = .int .i64 k := h.dep 2 _ 24 (by kernel_rfl) rfl rfl
            exact good_index (wanted_none rfl) rfl f23 f24 (by simp [go_sem, hlt]) rfl
          · intro b w' h hE
            have f25 : b.tmps.getD 25 undef = .pointer (some ⟨b0, o0 + k, none⟩) := h.dep 3 _ 25 (by kernel_rfl) rfl rfl
            have c0 := jcell_later h.ext k0.out
            exact good_load (wanted_none rfl) rfl f25 (by simp [go_sem, c0]) rfl
          · intro b w' h hE
            have f1 : b.tmps.getD 1 undef = .slice (some ⟨b1, o1, none⟩) ps.length cap2 := hE 1 (of_decide_eq_true (by kernel_rfl))
            exact good_move (wanted_none rfl) rfl f1
          · intro b w' h hE
            have f8 : b.tmps.getD 8 undef = .int .i64 k := hE 8 (of_decide_eq_true (by kernel_rfl))
            exact good_move (wanted_none rfl) rfl f8
          · intro b w' h hE
            have f27 : b.tmps.getD 27 undef = .slice (some ⟨b1, o1, none⟩) ps.length cap2 := h.dep 5 _ 27 (by kernel_rfl) rfl rfl
            have f28 : b.tmps.getD 28 undef = .int .i64 k := h.dep 6 _ 28 (by kernel_rfl) rfl rfl
            exact good_index (wanted_none rfl) rfl f27 f28 (by simp [go_sem, hlt]) rfl
          · intro b w' h hE
            have f29 : b.tmps.getD 29 undef = .pointer (some ⟨b1, o1 + k, none⟩) := h.dep 7 _ 29 (by kernel_rfl) rfl rfl
            have c0 := jcell_later h.ext j0.out
            exact good_load (wanted_none rfl) rfl f29 (by simp [go_sem, c0]) rfl
          · intro b w' h hE
            have f7 : b.tmps.getD 7 undef = .int .i64 z := hE 7 (of_decide_eq_true (by kernel_rfl))
            exact good_move (wanted_none rfl) rfl f7
          · intro b w' h hE
            have f30 : b.tmps.getD 30 undef = .int .i64 x := h.dep 8 _ 30 (by kernel_rfl) rfl rfl
            have f31 : b.tmps.getD 31 undef = .int .i64 z := h.dep 9 _ 31 (by kernel_rfl) rfl rfl
            exact good_bin (wanted_none rfl) rfl f30 f31 (by rfl) (by simp [go_sem, hws]) rfl
          · intro b w' h hE
            have f26 : b.tmps.getD 26 undef = .int .i64 p := h.dep 4 _ 26 (by kernel_rfl) rfl rfl
            have f32 : b.tmps.getD 32 undef = .int .i64 (x - z) := h.dep 10 _ 32 (by kernel_rfl) rfl rfl
            have g26 : b.tmps[26]?.getD undef = .int .i64 p := by rw [← Array.getD_eq_getD_getElem?]; exact f26
            have g32 : b.tmps[32]?.getD undef = .int .i64 (x - z) := by rw [← Array.getD_eq_getD_getElem?]; exact f32
            exact good_run (wanted_none rfl) (by simp [execOp, Act.eval, go_sem, g26, g32, Sem.run_bind, Sem.run_pure, Result.andThen_ok]) rfl
          · intro b w' h hE
            have f33 : b.tmps.getD 33 undef = jm (p, x - z) := h.dep 11 _ 33 (by kernel_rfl) rfl rfl
            have g33 : b.tmps[33]?.getD undef = jm (p, x - z) := by rw [← Array.getD_eq_getD_getElem?]; exact f33
            have := buildJ1 (p, x - z) w'
            refine good_grow (w' := w'.alloc (.cells #[.int .i64 ((p, x - z)).1, .int .i64 ((p, x - z)).2] 80)) (v := .slice (some ⟨w'.heap.size, 0, none⟩) 1 1) (wanted_none rfl) ?_ (oneJ_new (p, x - z) w') ((Ext.refl _).alloc _)
            simp [execOp, Act.eval, g33, this, Sem.run_bind, Sem.run_pure, Result.andThen_ok]
        · intro b w2 hX2 hd hz he' hf
          have e22 : b.tmps.getD 22 undef = .slice C acc.length ccap := hf 0 _ 22 (by omega) rfl rfl
          have e23 : b.tmps.getD 23 undef = .slice (some ⟨b0, o0, none⟩) ps.length cap := hf 1 _ 23 (by omega) rfl rfl
          have e24 : b.tmps.getD 24 undef = .int .i64 k := hf 2 _ 24 (by omega) rfl rfl
          have e25 : b.tmps.getD 25 undef = .pointer (some ⟨b0, o0 + k, none⟩) := hf 3 _ 25 (by omega) rfl rfl
          have e26 : b.tmps.getD 26 undef = .int .i64 p := hf 4 _ 26 (by omega) rfl rfl
          have e27 : b.tmps.getD 27 undef = .slice (some ⟨b1, o1, none⟩) ps.length cap2 := hf 5 _ 27 (by omega) rfl rfl
          have e28 : b.tmps.getD 28 undef = .int .i64 k := hf 6 _ 28 (by omega) rfl rfl
          have e29 : b.tmps.getD 29 undef = .pointer (some ⟨b1, o1 + k, none⟩) := hf 7 _ 29 (by omega) rfl rfl
          have e30 : b.tmps.getD 30 undef = .int .i64 x := hf 8 _ 30 (by omega) rfl rfl
          have e31 : b.tmps.getD 31 undef = .int .i64 z := hf 9 _ 31 (by omega) rfl rfl
          have e32 : b.tmps.getD 32 undef = .int .i64 (x - z) := hf 10 _ 32 (by omega) rfl rfl
          have e33 : b.tmps.getD 33 undef = jm (p, x - z) := hf 11 _ 33 (by omega) rfl rfl
          have f9 : Jw w2 [] (b.tmps.getD 34 undef) [(p, x - z)] := hf 12 _ 34 (by omega) rfl rfl
          have e := frame_puts hd hz he'
          obtain ⟨X, hXx⟩ : ∃ X : Nat → Value, ∀ d, b.tmps.getD d undef = X d := ⟨_, fun _ => rfl⟩
          rw [hXx] at e22 e23 e24 e25 e26 e27 e28 e29 e30 e31 e32 e33 f9
          obtain ⟨A9, c9, e99, -, -, -⟩ := jw_form f9
          rw [show dstsOf _ = [22, 23, 24, 25, 26, 27, 28, 29, 30, 31, 32, 33, 34] from rfl] at e
          simp only [List.foldl_cons, List.foldl_nil, hXx, Act.put, List.setIfInBounds_toArray, List.set_cons_succ, List.set_cons_zero] at e
          rw [e22, e23, e24, e25, e26, e27, e28, e29, e30, e31, e32, e33, e99] at e
          rw [e99] at f9
          replace f9 := hide f9
          clear hf he' hz hd hXx e22 e23 e24 e25 e26 e27 e28 e29 e30 e31 e32 e33 e99
          subst e
          have hzw := hX2.size
          simp only [List.drop_succ_cons, List.drop_zero]
          go_wp2_with (at_builtin; (refine wpl_app tJmp rfl (.tmp 22) (.tmp 34) rfl rfl (own_ext ho.out hX2) rfl (src_sl Tryz.underlying39 f9.out (ps_one _) (by omega)) (by unfold maxLen; simp only [List.length_singleton]; omega) (by simp only [List.length_singleton]; omega) (by omega) ?_; intro v8 w8 ho8 hg8 _; have hX8 := hide (ext_grown (hX.trans hX2) hg8 (fun q hq => (ho.out.lt q hq).1)); have j8 := jcell_later hX8.out d0h.out; have hb8 := block_lt_of_cell j8))
          clear hws
          go_roundg (ps.length - (k + 1))
          case measure => omega
          case rel => exact ⟨k + 1, acc ++ [(p, x - z)], x, by go_num, rfl, by omega, own_appJ ho8, by rw [List.length_append, List.length_singleton]; omega, by omega, by rw [List.append_assoc]; exact hnx.out, hX8.out⟩
    · have hk' : k = ps.length := by omega
      have hge : (ps.length : Int) ≤ k := by omega
      have hR2 : F = acc := by have := hacc.out; rw [hk', List.drop_length, tell, List.append_nil] at this; exact this
      rw [← hR2] at ho
      have hmm := hide (refStepMay_c F _ wr (own_jw (S := []) ho (by simp)))
      obtain ⟨C, ccap, rfl⟩ := own_form ho
      replace ho := hide ho
      replace hk' := hide hk'
      clear hacc hF hR2 hak
      cases hmF : mayJ F
      · rw [hmF] at hmm
        have e1 : Hid (E = 7 ∧ R = []) := by show _ ∧ _; rw [hE.out, hR.out]; unfold full kept; rw [hmF]; exact ⟨rfl, rfl⟩
        replace hmF := hide hmF
        go_wp2_with (go_at_call 57; (with_reducible refine seq_gw hmm.out ?_); intro g9)
        go_returns
        rw [e1.out.1, e1.out.2]
        exact ⟨_, rfl, World.ownsRow_nil _ _ _ _, hX.trans g9.grown⟩
      · rw [hmF] at hmm
        have e1 : Hid (E = 0 ∧ R = F) := by show _ ∧ _; rw [hE.out, hR.out]; unfold full kept; rw [hmF]; exact ⟨rfl, rfl⟩
        replace hmF := hide hmF
        go_wp2_with (go_at_call 57; (with_reducible refine seq_gw hmm.out ?_); intro g9)
        go_returns
        rw [e1.out.1, e1.out.2]
        exact ⟨_, rfl, own_ext ho.out g9.grown, hX.trans g9.grown⟩
end Go.Proofs.YtljkneajdndgjabGreat

/-
  A helper of ours: no claim of its own. Layer 9 (step): the document's side: jumps put together.
-/
import Derived.Test.YtpiehlfpkfbckaaGreatStepE
import Derived.Test.YtpiehlfpkfbckaaGreatReg3
import Derived.Test.YtpiehlfpkfbckaaGreatStepD
import Derived.Test.YtpiehlfpkfbckaaGreatStepV
set_option linter.unusedVariables false
set_option linter.unusedSimpArgs false
namespace Go.Proofs.YtpiehlfpkfbckaaGreat
open Go.RowKit
attribute [local go_sem] GW.cell GW.frozen In.eq_true In.le_true In.ne In.ne' In.ne_add In.ne_add' In.lt_add Upto.le_true Upto.le_add Upto.lt_add
/-- Whole numbers as cells. -/
def zc (l : List Int) : List Value := l.map fun x => .int .i64 x
theorem zc_len (l : List Int) : (zc l).length = l.length := by unfold zc; rw [List.length_map]
theorem zc_append (l m : List Int) : zc (l ++ m) = zc l ++ zc m := by simp [zc]
abbrev Zw (w : World) (S : List Nat) (v : Value) (l : List Int) : Prop := Sl w S 1 v l.length (zc l)
abbrev OwnZ (w : World) (base : Nat) (v : Value) (l : List Int) : Prop := w.ownsRow base 3 1 v l.length (zc l)
theorem zw_form {w : World} {S : List Nat} {v : Value} {l : List Int} (h : Zw w S v l) : ∃ A cap, v = .slice A l.length cap ∧ l.length ≤ cap ∧ cap ≤ maxLen ∧
    ∀ (i : Nat) (x : Int), l[i]? = some x → ∃ b o, A = some ⟨b, o, none⟩ ∧ b ∉ S ∧ b < w.heap.size ∧ w.cell? ⟨b, o + i, none⟩ = some (.int .i64 x) := by
  obtain ⟨A, cap, rfl, h1, h2, h3, h4⟩ := h
  refine ⟨A, cap, rfl, h1, h2, fun i x hx => ?_⟩
  have hg : (zc l)[i]? = some (.int .i64 x) := by simp [zc, hx]
  rcases h4 with h4 | ⟨b, o, rfl, hb, hc⟩
  · rw [h4] at hg; cases hg
  · have c0 := hc _ _ hg
    exact ⟨b, o, rfl, hb, block_lt_of_cell c0, c0⟩
theorem tZ : ElemT Tryz.prog 92 3 (.int .i64 0) 1 8 := ElemT.mk' Tryz.underlying92 (by kernel_rfl) rfl (by omega)
theorem own_appZ {w : World} {B : Nat} {v : Value} {l : List Int} {x : Int} (h : w.ownsRow B 3 1 v (l.length + 1) (zc l ++ [.int .i64 x])) : OwnZ w B v (l ++ [x]) := by
  unfold OwnZ; rw [List.length_append, zc_append]; exact h
theorem own_zw {w : World} {B : Nat} {v : Value} {l : List Int} (h : OwnZ w B v l) : Zw w [] v l := Sl.own h (by simp)
theorem src_z {P : Program} {tx e' : TypeId} (hk : P.underlying tx = some (.slice e')) (w : World) (B : Nat) (hB : B = w.heap.size) (x : Int) (E : TypeId) : Src P 1 tx (.slice (some ⟨B, 0, none⟩) 1 1) 1 [.int .i64 x] (w.alloc (.cells #[.int .i64 x] E)) := by
  subst hB; exact src_one hk w (.int .i64 x) E rfl
/-- What is in hand while a place is looked for. -/
def wi (p : Bool) (t : Int) (m : List Int) : List Int := if p then m.filter (fun x => decide (x < t)) ++ t :: m.filter (fun x => decide (t < x)) else m
theorem wi_len (p : Bool) (t : Int) (m : List Int) : (wi p t m).length ≤ 2 * m.length + 1 := by
  unfold wi
  split
  · have h1 := List.length_filter_le (fun x => decide (x < t)) m
    have h2 := List.length_filter_le (fun x => decide (t < x)) m
    simp only [List.length_append, List.length_cons]; omega
  · omega
theorem all_lt {m : List Int} {t : Int} (h : ∀ x ∈ m, x < t) : m.filter (fun x => decide (x < t)) = m ∧ m.filter (fun x => decide (t < x)) = [] := by
  constructor
  · exact List.filter_eq_self.2 fun y hy => by simpa using h y hy
  · exact List.filter_eq_nil_iff.2 fun y hy => by have := h y hy; simp; omega
theorem lt_of_asc {l : List Int} (h : l.Pairwise (· < ·)) {k : Nat} {x : Int} (hx : l[k]? = some x) : ∀ y ∈ l.take k, y < x := by
  have e : l = l.take k ++ x :: l.drop (k + 1) := by rw [← jdrop_cons hx, List.take_append_drop]
  rw [e] at h
  intro y hy
  exact (List.pairwise_append.1 h).2.2 y hy x (by simp)
set_option maxHeartbeats 8000000 in
set_option maxRecDepth 100000 in
theorem with_c (l : List Int) (ha : l.Pairwise (· < ·)) (hn : l.length ≤ 4096) (t : Int) (v : Value) (w : World) (h : Zw w [] v l) : Calls Tryz.prog 91 #[v, .int .i64 t] w fun e w' => ∃ v', e = .returned v' ∧ Zw w' [] v' (ins l t) ∧ Ext w w' := by
  have hv := hide h
  obtain ⟨A, cap, rfl, hl, hm, hat⟩ := zw_form h
  unfold maxLen at hm
  replace hat := hide hat
  have hnI : (l.length : Int) ≤ 4096 := by omega
  replace ha := hide ha
  clear h
  obtain ⟨R, hR⟩ : ∃ R, R = ins l t := ⟨_, rfl⟩
  rw [← hR]
  replace hR := hide hR
  have hlit := hide (World.ownsRow_lit (base := w.heap.size) (e := 3) (size := 1) w #[] 0 (Nat.le_refl _) (by decide) rfl)
  go_enter Tryz.func91, Tryz.ntmps91
  go_wp2_with fail
  go_loopg [5, 6, 7] l.length (fun gh u b i wr => ∃ (k : Nat) (p : Bool), i = .int .i64 k ∧ b = .bool p ∧ k + gh = l.length ∧ OwnZ wr w.heap.size u (wi p t (l.take k)) ∧ Hid (t ∉ l.take k) ∧ Hid (p = false → ∀ x ∈ l.take k, x < t) ∧ Hid (p = true → ∃ x ∈ l.take k, t < x) ∧ Ext w wr)
  case atStart => exact ⟨0, false, rfl, rfl, by omega, hlit.out, by simp [Hid], (fun _ x hx => by simp at hx), (fun h => by cases h), (Ext.refl w).alloc _⟩
  case round =>
    obtain ⟨k, p, rfl, rfl, hk, ho, hno, hf, ht, hX⟩ := hrel
    have hzX := hX.size
    have hwl := wi_len p t (l.take k)
    have htl : (l.take k).length ≤ k := by rw [List.length_take]; omega
    by_cases hlt : k < l.length
    · obtain ⟨x, hx⟩ : ∃ x, l[k]? = some x := ⟨_, List.getElem?_eq_getElem hlt⟩
      obtain ⟨b, o, rfl, -, hbl, c0⟩ := hat.out k x hx
      have k0 := jcell_later hX c0
      have hbr : b < wr.heap.size := block_lt_of_cell k0
      have hasc := hide (lt_of_asc ha.out hx)
      have hmem := List.mem_of_getElem? hx
      have hts := take_snoc hx
      have c0h := hide c0
      clear c0
      by_cases hxt : x = t
      · subst hxt
        have e : Hid (R = l) := by show _ = _; rw [hR.out]; unfold ins; rw [if_pos hmem]
        have hl' := hide (Sl.ext hv.out hX)
        clear hmem hts hwl htl
        go_wp2_with fail
        go_returns
        rw [e.out]
        exact ⟨_, rfl, hl'.out, hX⟩
      · have hxb : (x == t) = false := by simp [hxt]
        have hno' : Hid (t ∉ l.take (k + 1)) := by
          show ¬ _
          rw [hts]
          intro h'
          rcases List.mem_append.1 h' with h' | h'
          · exact hno.out h'
          · simp only [List.mem_singleton] at h'; exact hxt h'.symm
        by_cases hlt2 : t < x
        · have ht' : Hid (∃ y ∈ l.take (k + 1), t < y) := ⟨x, by rw [hts]; simp, hlt2⟩
          cases p
          · -- the place is put ahead of x
            have hall := hf.out rfl
            have e0 : wi false t (l.take k) = l.take k := rfl
            have e1 : wi true t (l.take (k + 1)) = (l.take k ++ [t]) ++ [x] := by
              unfold wi
              rw [if_pos rfl, hts, List.filter_append, List.filter_append, (all_lt hall).1, (all_lt hall).2]
              simp [hlt2, show ¬ x < t by omega]
            rw [e0] at ho
            obtain ⟨C, ccap, rfl⟩ := own_form ho
            have lk : (l.take k).length ≤ 4096 := by omega
            generalize l.take k = pre at *
            replace ho := hide ho
            replace e1 := hide e1
            replace hxt := hide hxt
            clear e0 hwl hts hall hmem hf ht
            go_wp2_with (first
              | (at_builtin; (refine wpl_app tZ rfl (.tmp 32) (.tmp 34) rfl rfl (own_ext ho.out ((Ext.refl wr).alloc _)) rfl (src_z Tryz.underlying92 wr _ rfl t _) (by unfold maxLen; omega) (by omega) (by simp only [World.size_alloc]; omega) ?_; intro v7 w7 ho7 hg7 _; have hX7 := hide (ext_grown (hX.alloc _) hg7 (fun k hk => (ho.out.lt k hk).1)); replace ho7 := hide (own_appZ ho7); have hz7 := hX7.out.size; have j0 := jcell_later hX7.out c0h.out))
              | (at_builtin; (refine wpl_app tZ rfl (.tmp 36) (.tmp 41) rfl rfl (own_ext ho7.out ((Ext.refl w7).alloc _)) rfl (src_z Tryz.underlying92 w7 _ rfl x _) (by unfold maxLen; simp only [List.length_append, List.length_singleton]; omega) (by simp only [List.length_append, List.length_singleton]; omega) (by simp only [World.size_alloc]; omega) ?_; intro v8 w8 ho8 hg8 _)))
            go_roundg (l.length - (k + 1))
            case measure => omega
            case rel => exact ⟨k + 1, true, by go_num, rfl, by omega, by rw [e1.out]; exact own_appZ ho8, hno', (fun h => by cases h), (fun _ => ht'.out), ext_grown (hX7.out.alloc _) hg8 (fun k hk => (ho7.out.lt k hk).1)⟩
          · have e1 : wi true t (l.take (k + 1)) = wi true t (l.take k) ++ [x] := by
              unfold wi
              rw [if_pos rfl, if_pos rfl, hts, List.filter_append, List.filter_append]
              simp [hlt2, show ¬ x < t by omega]
            obtain ⟨C, ccap, rfl⟩ := own_form ho
            generalize wi true t (l.take k) = acc at *
            replace ho := hide ho
            replace e1 := hide e1
            replace hxt := hide hxt
            clear hts hmem hf ht
            go_wp2_with (at_builtin; (refine wpl_app tZ rfl (.tmp 36) (.tmp 41) rfl rfl (own_ext ho.out ((Ext.refl wr).alloc _)) rfl (src_z Tryz.underlying92 wr _ rfl x _) (by unfold maxLen; omega) (by omega) (by simp only [World.size_alloc]; omega) ?_; intro v8 w8 ho8 hg8 _))
            go_roundg (l.length - (k + 1))
            case measure => omega
            case rel => exact ⟨k + 1, true, by go_num, rfl, by omega, by rw [e1.out]; exact own_appZ ho8, hno', (fun h => by cases h), (fun _ => ht'.out), ext_grown (hX.alloc _) hg8 (fun k hk => (ho.out.lt k hk).1)⟩
        · have hp : p = false := by
            cases p
            · rfl
            · obtain ⟨y, hy, hy2⟩ := ht.out rfl
              have := hasc.out y hy
              omega
          subst hp
          have d : decide (t < x) = false := by rw [decide_eq_false_iff_not]; exact hlt2
          have hall := hf.out rfl
          have hf' : Hid (∀ y ∈ l.take (k + 1), y < t) := fun y hy => by
            rw [hts] at hy
            rcases List.mem_append.1 hy with hy | hy
            · exact hall y hy
            · simp only [List.mem_singleton] at hy; subst hy; omega
          have e1 : wi false t (l.take (k + 1)) = wi false t (l.take k) ++ [x] := hts
          obtain ⟨C, ccap, rfl⟩ := own_form ho
          generalize wi false t (l.take k) = acc at *
          replace ho := hide ho
          replace e1 := hide e1
          replace hxt := hide hxt
          clear hts hmem hf ht hlt2 hall
          go_wp2_with (at_builtin; (refine wpl_app tZ rfl (.tmp 36) (.tmp 41) rfl rfl (own_ext ho.out ((Ext.refl wr).alloc _)) rfl (src_z Tryz.underlying92 wr _ rfl x _) (by unfold maxLen; omega) (by omega) (by simp only [World.size_alloc]; omega) ?_; intro v8 w8 ho8 hg8 _))
          go_roundg (l.length - (k + 1))
          case measure => omega
          case rel => exact ⟨k + 1, false, by go_num, rfl, by omega, by rw [e1.out]; exact own_appZ ho8, hno', (fun _ => hf'.out), (fun h => by cases h), ext_grown (hX.alloc _) hg8 (fun k hk => (ho.out.lt k hk).1)⟩
    · have hk' : k = l.length := by omega
      have hge : (l.length : Int) ≤ k := by omega
      have htk : l.take k = l := by rw [hk', List.take_length]
      rw [htk] at hno hf ht ho hwl
      have hnotin := hno.out
      replace hk' := hide hk'
      clear htk htl
      cases p
      · have hall := hf.out rfl
        have e1 : Hid (R = l ++ [t]) := by
          show _ = _
          rw [hR.out]
          unfold ins
          rw [if_neg hnotin, (all_lt hall).1, (all_lt hall).2]
        have e0 : wi false t l = l := rfl
        rw [e0] at ho
        obtain ⟨C, ccap, rfl⟩ := own_form ho
        replace ho := hide ho
        clear e0 hall hf ht hno hnotin hwl
        go_wp2_with (at_builtin; (refine wpl_app tZ rfl (.tmp 45) (.tmp 47) rfl rfl (own_ext ho.out ((Ext.refl wr).alloc _)) rfl (src_z Tryz.underlying92 wr _ rfl t _) (by unfold maxLen; omega) (by omega) (by simp only [World.size_alloc]; omega) ?_; intro v8 w8 ho8 hg8 _))
        go_returns
        rw [e1.out]
        exact ⟨_, rfl, own_zw (own_appZ ho8), ext_grown (hX.alloc _) hg8 (fun k hk => (ho.out.lt k hk).1)⟩
      · have e1 : Hid (R = wi true t l) := by
          show _ = _
          rw [hR.out]
          unfold ins wi
          rw [if_neg hnotin, if_pos rfl]
        obtain ⟨C, ccap, rfl⟩ := own_form ho
        replace ho := hide ho
        clear hf ht hno hnotin hwl
        go_wp2_with fail
        go_returns
        rw [e1.out]
        exact ⟨_, rfl, own_zw ho.out, hX⟩
theorem places_len (f g : List Jp) : (plc (plc [] f) g).length ≤ f.length + g.length := by
  have h1 := plc_length f [] Asc.nil'
  have h2 := plc_length g (plc [] f) (plc_asc _ _ Asc.nil')
  simp only [List.length_nil] at h1
  omega
theorem plc_next {l : List Jp} {k : Nat} {x : Jp} (a : List Int) (hx : l[k]? = some x) : plc a (l.take (k + 1)) = ins (plc a (l.take k)) x.1 := by rw [take_snoc hx, plc_snoc]
set_option maxHeartbeats 8000000 in
set_option maxRecDepth 100000 in
theorem places_c (l m : List Jp) (hn : l.length ≤ 1024) (hm : m.length ≤ 1024) (v u : Value) (w : World) (h : Jw w [] v l) (h2 : Jw w [] u m) : Calls Tryz.prog 104 #[v, u] w fun e w' => ∃ v', e = .returned v' ∧ Zw w' [] v' (plc (plc [] l) m) ∧ Ext w w' := by
  obtain ⟨A, cap, rfl, hl, hlm, hat⟩ := jw_form h
  obtain ⟨A2, cap2, rfl, hl2, hlm2, hbt⟩ := jw_form h2
  unfold maxLen at hlm hlm2
  replace hat := hide hat
  replace hbt := hide hbt
  have hnI : (l.length : Int) ≤ 4096 := by omega
  have hmI : (m.length : Int) ≤ 4096 := by omega
  have hstl := hide (show ([] : List Int).length + l.length ≤ 4096 by simp; omega)
  have hstm := hide (show (plc [] l).length + m.length ≤ 4096 by have := plc_length l [] Asc.nil'; simp only [List.length_nil] at this; omega)
  have hlit := hide (World.ownsRow_lit (base := w.heap.size) (e := 3) (size := 1) w #[] 0 (Nat.le_refl _) (by decide) rfl)
  clear h h2
  go_enter Tryz.func104, Tryz.ntmps104
  go_wp2_with fail
  go_loopg [5, 6] l.length (fun gh u i wr => ∃ (k : Nat), i = .int .i64 k ∧ k + gh = l.length ∧ Zw wr [] u (plc [] (l.take k)) ∧ Ext w wr)
  case atStart => exact ⟨0, rfl, by omega, own_zw hlit.out, (Ext.refl w).alloc _⟩
  case round =>
    obtain ⟨k, rfl, hk, hz, hX⟩ := hrel
    by_cases hlt : k < l.length
    · obtain ⟨x, hx⟩ : ∃ x, l[k]? = some x := ⟨_, List.getElem?_eq_getElem hlt⟩
      obtain ⟨b, o, rfl, -, hbl, c0, c1⟩ := hat.out k x hx
      have k0 := jcell_later hX c0
      have hbr : b < wr.heap.size := block_lt_of_cell k0
      have hnx := hide (plc_next [] hx)
      have hwt := hide (fun (pl : (plc [] (l.take k)).length ≤ 4096) => with_c (plc [] (l.take k)) (plc_asc _ _ Asc.nil') pl x.1 _ wr hz)
      have hpl : (plc [] (l.take k)).length ≤ 4096 := by
        have h1 := plc_length (l.take k) [] Asc.nil'
        have h2 : (l.take k).length ≤ l.length := by rw [List.length_take]; omega
        have h3 := hstl.out
        omega
      have hwt2 := hide (hwt.out hpl)
      obtain ⟨C, ccap, rfl, -, -, -⟩ := zw_form hz
      obtain ⟨xp, xn⟩ := x
      simp only at k0
      replace hpl := hide hpl
      clear c0 c1 hwt hz hx
      go_wp2_with (go_at_call 91; refine hwt2.out.mono ?_; rintro ee w7 ⟨v7, rfl, hz7, hx7⟩)
      go_roundg (l.length - (k + 1))
      case measure => omega
      case rel => exact ⟨k + 1, by go_num, by omega, by rw [hnx.out]; exact hz7, hX.trans hx7⟩
    · have hk' : k = l.length := by omega
      have hge : (l.length : Int) ≤ k := by omega
      rw [hk', List.take_length] at hz
      replace hk' := hide hk'
      have hz0 := hide hz
      have hX0 := hide hX
      have dk : decide (k < l.length) = false := by rw [decide_eq_false_iff_not]; exact hlt
      obtain ⟨C, ccap, rfl, -, -, -⟩ := zw_form hz
      clear hz hX hlt
      go_wp2_with fail
      go_loopg [5, 7] m.length (fun gh u i wr => ∃ (k : Nat), i = .int .i64 k ∧ k + gh = m.length ∧ Zw wr [] u (plc (plc [] l) (m.take k)) ∧ Ext w wr)
      case atStart => exact ⟨0, rfl, by omega, hz0.out, hX0.out⟩
      case round =>
        obtain ⟨k, rfl, hk, hz, hX⟩ := hrel
        by_cases hlt : k < m.length
        · obtain ⟨x, hx⟩ : ∃ x, m[k]? = some x := ⟨_, List.getElem?_eq_getElem hlt⟩
          obtain ⟨b, o, rfl, -, hbl, c0, c1⟩ := hbt.out k x hx
          have k0 := jcell_later hX c0
          have hbr : b < wr.heap.size := block_lt_of_cell k0
          have hnx := hide (plc_next (plc [] l) hx)
          have hwt := hide (fun (pl : (plc (plc [] l) (m.take k)).length ≤ 4096) => with_c (plc (plc [] l) (m.take k)) (plc_asc _ _ (plc_asc _ _ Asc.nil')) pl x.1 _ wr hz)
          have hpl : (plc (plc [] l) (m.take k)).length ≤ 4096 := by
            have h1 := plc_length (m.take k) (plc [] l) (plc_asc _ _ Asc.nil')
            have h2 : (m.take k).length ≤ m.length := by rw [List.length_take]; omega
            have h3 := hstm.out
            omega
          have hwt2 := hide (hwt.out hpl)
          obtain ⟨C, ccap, rfl, -, -, -⟩ := zw_form hz
          obtain ⟨xp, xn⟩ := x
          simp only at k0
          replace hpl := hide hpl
          clear c0 c1 hwt hz hx
          go_wp2_with (go_at_call 91; refine hwt2.out.mono ?_; rintro ee w7 ⟨v7, rfl, hz7, hx7⟩)
          go_roundg (m.length - (k + 1))
          case measure => omega
          case rel => exact ⟨k + 1, by go_num, by omega, by rw [hnx.out]; exact hz7, hX.trans hx7⟩
        · have hk' : k = m.length := by omega
          have hge : (m.length : Int) ≤ k := by omega
          rw [hk', List.take_length] at hz
          replace hk' := hide hk'
          obtain ⟨C2, ccap2, rfl, -, -, -⟩ := zw_form hz
          replace hz := hide hz
          clear hlt
          go_wp2_with fail
          go_returns
          exact ⟨_, rfl, hz.out, hX⟩
theorem buildJ1 (x : Jp) (w : World) : (Instr.buildSlice 36 1 #[(0, jm x)]).run Tryz.prog w = .ok (.slice (some ⟨w.heap.size, 0, none⟩) 1 1) (w.alloc (.cells #[.int .i64 x.1, .int .i64 x.2] 72)) := by
  simp [go_sem]
def oneJ (x : Jp) : Fact := .st (fun u w => Jw w [] u [x]) (fun _ _ _ h k => Sl.ext h k)
theorem oneJ_new (x : Jp) (w : World) : Jw (w.alloc (.cells #[.int .i64 x.1, .int .i64 x.2] 72)) [] (.slice (some ⟨w.heap.size, 0, none⟩) 1 1) [x] :=
  Sl.own (World.ownsRow_lit (base := w.heap.size) (e := 72) (size := 2) w #[.int .i64 x.1, .int .i64 x.2] 1 (Nat.le_refl _) (by decide) rfl) (by simp)
theorem neq_jmp (a b c d : Int) (w : World) : (binOp .neq 72 (jm (a, b)) (jm (c, d))).run Tryz.prog w = .ok (.bool (!(a == c && b == d))) w := by
  by_cases h1 : a = c <;> by_cases h2 : b = d <;> simp [go_sem, h1, h2]
theorem neq_jsame (x : Jp) (w : World) : (binOp .neq 72 (jm x) (jm x)).run Tryz.prog w = .ok (.bool false) w := by
  rw [neq_jmp]; simp
theorem neq_jother {x y : Jp} (h : ¬ x = y) (w : World) : (binOp .neq 72 (jm x) (jm y)).run Tryz.prog w = .ok (.bool true) w := by
  rw [neq_jmp]
  congr 2
  rw [Bool.not_eq_true', ← Bool.not_eq_true]
  intro h'
  simp only [Bool.and_eq_true, beq_iff_eq] at h'
  exact h (Prod.ext h'.1 h'.2)
theorem cons_eq_decJ {x y : Jp} (a b : List Jp) (h : x = y) : decide (x :: a = y :: b) = decide (a = b) := by
  subst h; simp
theorem cons_ne_decJ {x y : Jp} (a b : List Jp) (h : ¬ x = y) : decide (x :: a = y :: b) = false := by
  rw [decide_eq_false_iff_not]; intro e; injection e with e1 _; exact h e1
set_option maxHeartbeats 4000000 in
set_option maxRecDepth 100000 in
theorem refStepSame_c (l m : List Jp) (v u : Value) (w : World) (hl : Jw w [] v l) (hm : Jw w [] u m) : Calls Tryz.prog 28 #[v, u] w fun e w' => e = .returned (.bool (decide (l = m))) ∧ Ext w w' := by
  obtain ⟨A, cap, rfl, hlc, hlm, hat⟩ := jw_form hl
  obtain ⟨B, cap2, rfl, hmc, hmm, hbt⟩ := jw_form hm
  unfold maxLen at hlm hmm
  clear hl hm
  replace hat := hide hat
  replace hbt := hide hbt
  obtain ⟨R, hR⟩ : ∃ R, R = decide (l = m) := ⟨_, rfl⟩
  rw [← hR]
  by_cases hn : l.length = m.length
  · replace hR := hide hR
    have hnI : (l.length : Int) = m.length := by omega
    obtain ⟨n, hln⟩ : ∃ n, n = l.length := ⟨_, rfl⟩
    have hmn : n = m.length := by omega
    rw [← hln] at hlc ⊢
    rw [← hmn] at hmc ⊢
    have hlI := hide hln
    have hmI := hide hmn
    clear hn hnI hln hmn
    go_enter Tryz.func28, Tryz.ntmps28
    go_wp2_with fail
    go_loopg [5] n (fun gh i wr => ∃ (k : Nat), i = .int .i64 k ∧ k + gh = n ∧ Hid (R = decide (l.drop k = m.drop k)) ∧ Ext w wr)
    case atStart => exact ⟨0, rfl, by omega, hR, Ext.refl w⟩
    case round =>
      obtain ⟨k, rfl, hk, hRk, hX⟩ := hrel
      clear hR
      by_cases hlt : k < n
      · obtain ⟨x, hx⟩ : ∃ x, l[k]? = some x := ⟨_, List.getElem?_eq_getElem (by have := hlI.out; omega)⟩
        obtain ⟨y, hy⟩ : ∃ y, m[k]? = some y := ⟨_, List.getElem?_eq_getElem (by have := hmI.out; omega)⟩
        obtain ⟨b, o, rfl, -, hb, c0, c1⟩ := hat.out k x hx
        obtain ⟨b', o', rfl, -, hb', d0, d1⟩ := hbt.out k y hy
        have k0 := jcell_later hX c0
        have k1 := jcell_later hX c1
        have j0 := jcell_later hX d0
        have j1 := jcell_later hX d1
        have hbr : b < wr.heap.size := block_lt_of_cell k0
        have hbr' : b' < wr.heap.size := block_lt_of_cell j0
        have hR2 := hRk.out
        rw [jdrop_cons hx, jdrop_cons hy] at hR2
        obtain ⟨xp, xn⟩ := x
        obtain ⟨yp, yn⟩ := y
        clear c0 c1 d0 d1 hat hbt hx hy hlI hmI hRk
        by_cases hxy : ((xp, xn) : Jp) = (yp, yn)
        · rw [cons_eq_decJ _ _ hxy] at hR2
          replace hR2 := hide hR2
          cases hxy
          have hns := neq_jsame (xp, xn)
          go_wp2_with fail
          go_quiet (fail)
          go_wp2_with fail
          go_roundg (n - (k + 1))
          case measure => omega
          case rel => exact ⟨k + 1, by go_num, by omega, hR2, hX.drewN _⟩
        · rw [cons_ne_decJ _ _ hxy] at hR2
          replace hR2 := hide hR2
          have hns := neq_jother hxy
          replace hxy := hide hxy
          go_wp2_with fail
          go_quiet (fail)
          go_wp2_with fail
          go_returns
          exact ⟨by rw [hR2.out]; rfl, hX.drewN _⟩
      · have hk' : k = n := by omega
        have hge : (n : Int) ≤ k := by omega
        have hR2 := hRk.out
        rw [List.drop_eq_nil_of_le (by have := hlI.out; omega), List.drop_eq_nil_of_le (by have := hmI.out; omega)] at hR2
        replace hR2 : R = true := by simpa using hR2
        replace hR2 := hide hR2
        replace hk' := hide hk'
        go_wp2_with fail
        go_returns
        exact ⟨by rw [hR2.out]; rfl, hX⟩
  · have hR2 : R = false := by rw [hR, decide_eq_false_iff_not]; rintro rfl; exact hn rfl
    replace hR2 := hide hR2
    have hnI : ¬ (l.length : Int) = m.length := by omega
    clear hR hn
    go_enter Tryz.func28, Tryz.ntmps28
    go_wp2_with fail
    go_returns
    exact ⟨by rw [hR2.out]; rfl, Ext.refl w⟩
theorem tell_next (v : Int → Int) {ps : List Int} {k : Nat} {p : Int} (hp : ps[k]? = some p) (was : Int) : tell v (ps.drop k) was = if v p = was then tell v (ps.drop (k + 1)) (v p) else (p, v p - was) :: tell v (ps.drop (k + 1)) (v p) := by
  rw [jdrop_cons hp, tell]
set_option maxHeartbeats 8000000 in
set_option maxRecDepth 100000 in
theorem told_c (ps : List Int) (vf : Int → Int) (hb : ∀ p ∈ ps, -1152921504606846976 ≤ vf p ∧ vf p ≤ 1152921504606846976) (hn : ps.length ≤ 4096) (v u : Value) (w : World) (h : Zw w [] v ps) (h2 : Zw w [] u (ps.map vf)) : Calls Tryz.prog 92 #[v, u] w fun e w' => ∃ v', e = .returned (.tuple #[v', .int .i64 (full (tell vf ps 0))]) ∧ OwnJ w' w.heap.size v' (kept (tell vf ps 0)) ∧ Ext w w' := by
  obtain ⟨A, cap, rfl, hl, hm, hat⟩ := zw_form h
  obtain ⟨A2, cap2, rfl, hl2, hm2, hbt⟩ := zw_form h2
  rw [List.length_map] at hl2 ⊢
  unfold maxLen at hm hm2
  replace hat := hide hat
  replace hbt := hide hbt
  have hnI : (ps.length : Int) ≤ 4096 := by omega
  replace hb := hide hb
  clear h h2
  obtain ⟨F, hF⟩ : ∃ F, F = tell vf ps 0 := ⟨_, rfl⟩
  rw [← hF]
  replace hF := hide hF
  obtain ⟨E, hE⟩ : ∃ E, E = full F := ⟨_, rfl⟩
  obtain ⟨R, hR⟩ : ∃ R, R = kept F := ⟨_, rfl⟩
  rw [← hE, ← hR]
  replace hE := hide hE
  replace hR := hide hR
  have hlit := hide (World.ownsRow_lit (base := w.heap.size) (e := 72) (size := 2) w #[] 0 (Nat.le_refl _) (by decide) rfl)
  go_enter Tryz.func92, Tryz.ntmps92
  go_wp2_with fail
  go_loopg [6, 7, 8] ps.length (fun gh uf uw i wr => ∃ (k : Nat) (acc : List Jp) (z : Int), i = .int .i64 k ∧ uw = .int .i64 z ∧ k + gh = ps.length ∧ OwnJ wr w.heap.size uf acc ∧ acc.length ≤ k ∧ (-1152921504606846976 ≤ z ∧ z ≤ 1152921504606846976) ∧ Hid (F = acc ++ tell vf (ps.drop k) z) ∧ Ext w wr)
  case atStart => exact ⟨0, [], 0, rfl, rfl, by omega, hlit.out, Nat.le_refl _, by omega, hF.out, (Ext.refl w).alloc _⟩
  case round =>
    obtain ⟨k, acc, z, rfl, rfl, hk, ho, hak, ⟨z1, z2⟩, hacc, hX⟩ := hrel
    have hzX := hX.size
    by_cases hlt : k < ps.length
    · obtain ⟨p, hp⟩ : ∃ p, ps[k]? = some p := ⟨_, List.getElem?_eq_getElem hlt⟩
      obtain ⟨b0, o0, rfl, -, hbl, c0⟩ := hat.out k p hp
      obtain ⟨b1, o1, rfl, -, hbl', d0⟩ := hbt.out k (vf p) (by rw [List.getElem?_map, hp]; rfl)
      have k0 := jcell_later hX c0
      have j0 := jcell_later hX d0
      have hbr : b0 < wr.heap.size := block_lt_of_cell k0
      have hbr' : b1 < wr.heap.size := block_lt_of_cell j0
      obtain ⟨n1, n2⟩ := hb.out p (List.mem_of_getElem? hp)
      have hnx := hacc.out
      rw [tell_next vf hp] at hnx
      generalize hvp : vf p = x at *
      replace hvp := hide hvp
      have d0h := hide d0
      clear c0 d0 hp hacc
      by_cases hxz : x = z
      · subst hxz
        rw [if_pos rfl] at hnx
        replace hnx := hide hnx
        go_wp2_with fail
        go_roundg (ps.length - (k + 1))
        case measure => omega
        case rel => exact ⟨k + 1, acc, x, by go_num, rfl, by omega, ho, by omega, by omega, hnx.out, hX⟩
      · have hxb : (x != z) = true := by simp [hxz]
        rw [if_neg hxz] at hnx
        replace hnx := hide hnx
        replace hxz := hide hxz
        have hws : IntKind.i64.wrap (x - z) = x - z := by simp [IntKind.wrap, IntKind.bits, IntKind.signed]; omega
        obtain ⟨C, ccap, rfl⟩ := own_form ho
        replace ho := hide ho
        replace k0 := hide k0
        have j0h := hide j0
        go_wp2_with fail
        replace j0 := hide j0
        refine wp_region_list_tail 13 [(.is (.slice C acc.length ccap)), (.is (.slice (some ⟨b0, o0, none⟩) ps.length cap)), (.is (.int .i64 k)), (.is (.pointer (some ⟨b0, o0 + k, none⟩))), (.is (.int .i64 p)), (.is (.slice (some ⟨b1, o1, none⟩) ps.length cap2)), (.is (.int .i64 k)), (.is (.pointer (some ⟨b1, o1 + k, none⟩))), (.is (.int .i64 x)), (.is (.int .i64 z)), (.is (.int .i64 (x - z))), (.is (jm (p, x - z))), oneJ (p, x - z)] (by kernel_rfl) (by kernel_rfl) (by kernel_rfl) (by kernel_rfl) (by kernel_rfl) (by kernel_rfl) (by kernel_rfl) ?_ ?_
        · refine ⟨?_, ?_, ?_, ?_, ?_, ?_, ?_, ?_, ?_, ?_, ?_, ?_, ?_, trivial⟩
          · intro b w' h hE
            have f6 : b.tmps.getD 6 undef = .slice C acc.length ccap := hE 6 (of_decide_eq_true (by kernel_rfl))
            exact good_move (wanted_none rfl) rfl f6
          · intro b w' h hE
            have f0 : b.tmps.getD 0 undef = .slice (some ⟨b0, o0, none⟩) ps.length cap := hE 0 (of_decide_eq_true (by kernel_rfl))
            exact good_move (wanted_none rfl) rfl f0
          · intro b w' h hE
            have f8 : b.tmps.getD 8 undef = .int .i64 k := hE 8 (of_decide_eq_true (by kernel_rfl))
            exact good_move (wanted_none rfl) rfl f8
          · intro b w' h hE
            have f23 : b.tmps.getD 23 undef = .slice (some ⟨b0, o0, none⟩) ps.length cap := h.dep 1 _ 23 (by kernel_rfl) rfl rfl
            have f24 : b.tmps.getD 24 undef = .int .i64 k := h.dep 2 _ 24 (by kernel_rfl) rfl rfl
            exact good_index (wanted_none rfl) rfl f23 f24 (by simp [go_sem, hlt]) rfl
          · intro b w' h hE
            have f25 : b.tmps.getD 25 undef = .pointer (some ⟨b0, o0 + k, none⟩) := h.dep 3 _ 25 (by kernel_rfl) rfl rfl
            have c0 := jcell_later h.ext k0.out
            exact good_load (wanted_none rfl) rfl f25 (by simp [go_sem, c0]) rfl
          · intro b w' h hE
            have f1 : b.tmps.getD 1 undef = .slice (some ⟨b1, o1, none⟩) ps.length cap2 := hE 1 (of_decide_eq_true (by kernel_rfl))
            exact good_move (wanted_none rfl) rfl f1
          · intro b w' h hE
            have f8 : b.tmps.getD 8 undef = .int .i64 k := hE 8 (of_decide_eq_true (by kernel_rfl))
            exact good_move (wanted_none rfl) rfl f8
          · intro b w' h hE
            have f27 : b.tmps.getD 27 undef = .slice (some ⟨b1, o1, none⟩) ps.length cap2 := h.dep 5 _ 27 (by kernel_rfl) rfl rfl
            have f28 : b.tmps.getD 28 undef = .int .i64 k := h.dep 6 _ 28 (by kernel_rfl) rfl rfl
            exact good_index (wanted_none rfl) rfl f27 f28 (by simp [go_sem, hlt]) rfl
          · intro b w' h hE
            have f29 : b.tmps.getD 29 undef = .pointer (some ⟨b1, o1 + k, none⟩) := h.dep 7 _ 29 (by kernel_rfl) rfl rfl
            have c0 := jcell_later h.ext j0.out
            exact good_load (wanted_none rfl) rfl f29 (by simp [go_sem, c0]) rfl
          · intro b w' h hE
            have f7 : b.tmps.getD 7 undef = .int .i64 z := hE 7 (of_decide_eq_true (by kernel_rfl))
            exact good_move (wanted_none rfl) rfl f7
          · intro b w' h hE
            have f30 : b.tmps.getD 30 undef = .int .i64 x := h.dep 8 _ 30 (by kernel_rfl) rfl rfl
            have f31 : b.tmps.getD 31 undef = .int .i64 z := h.dep 9 _ 31 (by kernel_rfl) rfl rfl
            exact good_bin (wanted_none rfl) rfl f30 f31 (by rfl) (by simp [go_sem, hws]) rfl
          · intro b w' h hE
            have f26 : b.tmps.getD 26 undef = .int .i64 p := h.dep 4 _ 26 (by kernel_rfl) rfl rfl
            have f32 : b.tmps.getD 32 undef = .int .i64 (x - z) := h.dep 10 _ 32 (by kernel_rfl) rfl rfl
            have g26 : b.tmps[26]?.getD undef = .int .i64 p := by rw [← Array.getD_eq_getD_getElem?]; exact f26
            have g32 : b.tmps[32]?.getD undef = .int .i64 (x - z) := by rw [← Array.getD_eq_getD_getElem?]; exact f32
            exact good_run (wanted_none rfl) (by simp [execOp, Act.eval, go_sem, g26, g32, Sem.run_bind, Sem.run_pure, Result.andThen_ok]) rfl
          · intro b w' h hE
            have f33 : b.tmps.getD 33 undef = jm (p, x - z) := h.dep 11 _ 33 (by kernel_rfl) rfl rfl
            have g33 : b.tmps[33]?.getD undef = jm (p, x - z) := by rw [← Array.getD_eq_getD_getElem?]; exact f33
            have := buildJ1 (p, x - z) w'
            refine good_grow (w' := w'.alloc (.cells #[.int .i64 ((p, x - z)).1, .int .i64 ((p, x - z)).2] 72)) (v := .slice (some ⟨w'.heap.size, 0, none⟩) 1 1) (wanted_none rfl) ?_ (oneJ_new (p, x - z) w') ((Ext.refl _).alloc _)
            simp [execOp, Act.eval, g33, this, Sem.run_bind, Sem.run_pure, Result.andThen_ok]
        · intro b w2 hX2 hd hz he' hf
          have e22 : b.tmps.getD 22 undef = .slice C acc.length ccap := hf 0 _ 22 (by omega) rfl rfl
          have e23 : b.tmps.getD 23 undef = .slice (some ⟨b0, o0, none⟩) ps.length cap := hf 1 _ 23 (by omega) rfl rfl
          have e24 : b.tmps.getD 24 undef = .int .i64 k := hf 2 _ 24 (by omega) rfl rfl
          have e25 : b.tmps.getD 25 undef = .pointer (some ⟨b0, o0 + k, none⟩) := hf 3 _ 25 (by omega) rfl rfl
          have e26 : b.tmps.getD 26 undef = .int .i64 p := hf 4 _ 26 (by omega) rfl rfl
          have e27 : b.tmps.getD 27 undef = .slice (some ⟨b1, o1, none⟩) ps.length cap2 := hf 5 _ 27 (by omega) rfl rfl
          have e28 : b.tmps.getD 28 undef = .int .i64 k := hf 6 _ 28 (by omega) rfl rfl
          have e29 : b.tmps.getD 29 undef = .pointer (some ⟨b1, o1 + k, none⟩) := hf 7 _ 29 (by omega) rfl rfl
          have e30 : b.tmps.getD 30 undef = .int .i64 x := hf 8 _ 30 (by omega) rfl rfl
          have e31 : b.tmps.getD 31 undef = .int .i64 z := hf 9 _ 31 (by omega) rfl rfl
          have e32 : b.tmps.getD 32 undef = .int .i64 (x - z) := hf 10 _ 32 (by omega) rfl rfl
          have e33 : b.tmps.getD 33 undef = jm (p, x - z) := hf 11 _ 33 (by omega) rfl rfl
          have f9 : Jw w2 [] (b.tmps.getD 34 undef) [(p, x - z)] := hf 12 _ 34 (by omega) rfl rfl
          have e := frame_puts hd hz he'
          obtain ⟨X, hXx⟩ : ∃ X : Nat → Value, ∀ d, b.tmps.getD d undef = X d := ⟨_, fun _ => rfl⟩
          rw [hXx] at e22 e23 e24 e25 e26 e27 e28 e29 e30 e31 e32 e33 f9
          obtain ⟨A9, c9, e99, -, -, -⟩ := jw_form f9
          rw [show dstsOf _ = [22, 23, 24, 25, 26, 27, 28, 29, 30, 31, 32, 33, 34] from rfl] at e
          simp only [List.foldl_cons, List.foldl_nil, hXx, Act.put, List.setIfInBounds_toArray, List.set_cons_succ, List.set_cons_zero] at e
          rw [e22, e23, e24, e25, e26, e27, e28, e29, e30, e31, e32, e33, e99] at e
          rw [e99] at f9
          replace f9 := hide f9
          clear hf he' hz hd hXx e22 e23 e24 e25 e26 e27 e28 e29 e30 e31 e32 e33 e99
          subst e
          have hzw := hX2.size
          simp only [List.drop_succ_cons, List.drop_zero]
          go_wp2_with (at_builtin; (refine wpl_app tJmp rfl (.tmp 22) (.tmp 34) rfl rfl (own_ext ho.out hX2) rfl (src_sl Tryz.underlying36 f9.out (ps_one _) (by omega)) (by unfold maxLen; simp only [List.length_singleton]; omega) (by simp only [List.length_singleton]; omega) (by omega) ?_; intro v8 w8 ho8 hg8 _; have hX8 := hide (ext_grown (hX.trans hX2) hg8 (fun q hq => (ho.out.lt q hq).1)); have j8 := jcell_later hX8.out d0h.out; have hb8 := block_lt_of_cell j8))
          clear hws
          go_roundg (ps.length - (k + 1))
          case measure => omega
          case rel => exact ⟨k + 1, acc ++ [(p, x - z)], x, by go_num, rfl, by omega, own_appJ ho8, by rw [List.length_append, List.length_singleton]; omega, by omega, by rw [List.append_assoc]; exact hnx.out, hX8.out⟩
    · have hk' : k = ps.length := by omega
      have hge : (ps.length : Int) ≤ k := by omega
      have hR2 : F = acc := by have := hacc.out; rw [hk', List.drop_length, tell, List.append_nil] at this; exact this
      rw [← hR2] at ho
      have hmm := hide (refStepMay_c F _ wr (own_jw (S := []) ho (by simp)))
      obtain ⟨C, ccap, rfl⟩ := own_form ho
      replace ho := hide ho
      replace hk' := hide hk'
      clear hacc hF hR2 hak
      cases hmF : mayJ F
      · rw [hmF] at hmm
        have e1 : Hid (E = 7 ∧ R = []) := by show _ ∧ _; rw [hE.out, hR.out]; unfold full kept; rw [hmF]; exact ⟨rfl, rfl⟩
        replace hmF := hide hmF
        go_wp2_with (go_at_call 26; (with_reducible refine seq_gw hmm.out ?_); intro g9)
        go_returns
        rw [e1.out.1, e1.out.2]
        exact ⟨_, rfl, World.ownsRow_nil _ _ _ _, hX.trans g9.grown⟩
      · rw [hmF] at hmm
        have e1 : Hid (E = 0 ∧ R = F) := by show _ ∧ _; rw [hE.out, hR.out]; unfold full kept; rw [hmF]; exact ⟨rfl, rfl⟩
        replace hmF := hide hmF
        go_wp2_with (go_at_call 26; (with_reducible refine seq_gw hmm.out ?_); intro g9)
        go_returns
        rw [e1.out.1, e1.out.2]
        exact ⟨_, rfl, own_ext ho.out g9.grown, hX.trans g9.grown⟩
end Go.Proofs.YtpiehlfpkfbckaaGreat
set_option linter.unusedVariables false
set_option linter.unusedSimpArgs false
namespace Go.Proofs.YtpiehlfpkfbckaaGreat
open Go.RowKit
attribute [local go_sem] GW.cell GW.frozen In.eq_true In.le_true In.ne In.ne' In.ne_add In.ne_add' In.lt_add Upto.le_true Upto.le_add Upto.lt_add
theorem map_next {ps : List Int} {k : Nat} {p : Int} (vf : Int → Int) (hp : ps[k]? = some p) : (ps.take (k + 1)).map vf = (ps.take k).map vf ++ [vf p] := by
  rw [take_snoc hp, List.map_append]; rfl
theorem mayJ_4096 {l : List Jp} (h : mayJ l = true) : l.length ≤ 4096 := by have := mayJ_len h; omega
theorem jv_60 {l : List Jp} (hb : ∀ j ∈ l, -1048576 ≤ j.2 ∧ j.2 ≤ 1048576) (hn : l.length ≤ 4096) (t : Int) : -4294967296 ≤ jv l t ∧ jv l t ≤ 4294967296 := by
  have := jv_small hb hn l.length t
  rwa [List.take_length] at this
end Go.Proofs.YtpiehlfpkfbckaaGreat
set_option linter.unusedVariables false
set_option linter.unusedSimpArgs false
namespace Go.Proofs.YtpiehlfpkfbckaaGreat
open Go.RowKit
attribute [local go_sem] GW.cell GW.frozen In.eq_true In.le_true In.ne In.ne' In.ne_add In.ne_add' In.lt_add Upto.le_true Upto.le_add Upto.lt_add
set_option maxHeartbeats 8000000 in
set_option maxRecDepth 100000 in
theorem refNeg_c (l : List Jp) (v : Value) (w : World) (h : Jw w [] v l) : Calls Tryz.prog 70 #[v] w fun e w' => ∃ v', e = .returned (.tuple #[v', .int .i64 (ngE l)]) ∧ OwnJ w' w.heap.size v' (ngR l) ∧ Ext w w' := by
  have hm := hide (refStepMay_c l v w h)
  obtain ⟨A, cap, rfl, hl, hmc, hat⟩ := jw_form h
  unfold maxLen at hmc
  replace hat := hide hat
  unfold ngE ngR
  clear h
  cases hb : mayJ l
  · rw [hb] at hm
    rw [if_neg (by decide), if_neg (by decide)]
    replace hb := hide hb
    clear hat
    go_enter Tryz.func70, Tryz.ntmps70
    go_wp2_with (go_at_call 26; (with_reducible refine seq_gw hm.out ?_); intro g)
    go_returns
    exact ⟨_, rfl, World.ownsRow_nil _ _ _ _, g.grown⟩
  · rw [hb] at hm
    rw [if_pos rfl, if_pos rfl]
    have hnet := hide (mayJ_net hb)
    have hn : l.length ≤ 1024 := mayJ_len hb
    have hnI : (l.length : Int) ≤ 4096 := by omega
    obtain ⟨R, hR⟩ : ∃ R, R = ngL l := ⟨_, rfl⟩
    rw [← hR]
    replace hR := hide hR
    replace hb := hide hb
    go_enter Tryz.func70, Tryz.ntmps70
    go_wp2_with (go_at_call 26; (with_reducible refine seq_gw hm.out ?_); intro g; have hlit := hide (World.ownsRow_lit (base := w.heap.size) (e := 72) (size := 2) g.val #[] 0 (GW.size g) (by decide) rfl))
    go_loopg [4, 5] l.length (fun gh s i wr => ∃ (k : Nat) (acc : List Jp), i = .int .i64 k ∧ k + gh = l.length ∧ OwnJ wr w.heap.size s acc ∧ acc.length ≤ k ∧ Hid (acc = ngL (l.take k)) ∧ Ext w wr)
    case atStart => exact ⟨0, [], rfl, by omega, hlit.out, Nat.le_refl _, rfl, g.grown.alloc _⟩
    case round =>
      obtain ⟨k, acc, rfl, hk, ho, hak, hacc, hX⟩ := hrel
      have hzX := hX.size
      by_cases hlt : k < l.length
      · obtain ⟨x, hx⟩ : ∃ x, l[k]? = some x := ⟨_, List.getElem?_eq_getElem hlt⟩
        obtain ⟨b0, o0, rfl, -, hbl, c0, c1⟩ := hat.out k x hx
        have k0 := jcell_later hX c0
        have k1 := jcell_later hX c1
        have hbr : b0 < wr.heap.size := block_lt_of_cell k0
        obtain ⟨n1, n2⟩ := hnet.out x (List.mem_of_getElem? hx)
        have hnx := ng_next hx
        rw [← hacc.out] at hnx
        replace hnx := hide hnx
        clear c0 c1 hx hacc
        obtain ⟨xp, xn⟩ := x
        simp only at n1 n2 k0 k1
        have hws : IntKind.i64.wrap (-xn) = -xn := by simp [IntKind.wrap, IntKind.bits, IntKind.signed]; omega
        obtain ⟨C, ccap, rfl⟩ := own_form ho
        replace ho := hide ho
        replace k0 := hide k0
        replace k1 := hide k1
        go_wp2_with fail
        refine wp_region_list_tail 14 [(.is (.slice C acc.length ccap)), (.is (.slice (some ⟨b0, o0, none⟩) l.length cap)), (.is (.int .i64 k)), (.is (.pointer (some ⟨b0, o0 + k * 2, none⟩))), (.is (.pointer (some ⟨b0, o0 + k * 2, none⟩))), (.is (.int .i64 xp)), (.is (.slice (some ⟨b0, o0, none⟩) l.length cap)), (.is (.int .i64 k)), (.is (.pointer (some ⟨b0, o0 + k * 2, none⟩))), (.is (.pointer (some ⟨b0, o0 + k * 2 + 1, none⟩))), (.is (.int .i64 xn)), (.is (.int .i64 (-xn))), (.is (jm (xp, -xn))), oneJ (xp, -xn)] (by kernel_rfl) (by kernel_rfl) (by kernel_rfl) (by kernel_rfl) (by kernel_rfl) (by kernel_rfl) (by kernel_rfl) ?_ ?_
        · refine ⟨?_, ?_, ?_, ?_, ?_, ?_, ?_, ?_, ?_, ?_, ?_, ?_, ?_, ?_, trivial⟩
          · intro b w' h hE
            have f4 : b.tmps.getD 4 undef = .slice C acc.length ccap := hE 4 (of_decide_eq_true (by kernel_rfl))
            exact good_move (wanted_none rfl) rfl f4
          · intro b w' h hE
            have f0 : b.tmps.getD 0 undef = .slice (some ⟨b0, o0, none⟩) l.length cap := hE 0 (of_decide_eq_true (by kernel_rfl))
            exact good_move (wanted_none rfl) rfl f0
          · intro b w' h hE
            have f5 : b.tmps.getD 5 undef = .int .i64 k := hE 5 (of_decide_eq_true (by kernel_rfl))
            exact good_move (wanted_none rfl) rfl f5
          · intro b w' h hE
            have f17 : b.tmps.getD 17 undef = .slice (some ⟨b0, o0, none⟩) l.length cap := h.dep 1 _ 17 (by kernel_rfl) rfl rfl
            have f18 : b.tmps.getD 18 undef = .int .i64 k := h.dep 2 _ 18 (by kernel_rfl) rfl rfl
            exact good_index (wanted_none rfl) rfl f17 f18 (by simp [go_sem, hlt]) rfl
          · intro b w' h hE
            have f19 : b.tmps.getD 19 undef = .pointer (some ⟨b0, o0 + k * 2, none⟩) := h.dep 3 _ 19 (by kernel_rfl) rfl rfl
            exact good_field (wanted_none rfl) rfl f19 (by simp [go_sem]) rfl
          · intro b w' h hE
            have f20 : b.tmps.getD 20 undef = .pointer (some ⟨b0, o0 + k * 2, none⟩) := h.dep 4 _ 20 (by kernel_rfl) rfl rfl
            have c0 := jcell_later h.ext k0.out
            exact good_load (wanted_none rfl) rfl f20 (by simp [go_sem, c0]) rfl
          · intro b w' h hE
            have f0 : b.tmps.getD 0 undef = .slice (some ⟨b0, o0, none⟩) l.length cap := hE 0 (of_decide_eq_true (by kernel_rfl))
            exact good_move (wanted_none rfl) rfl f0
          · intro b w' h hE
            have f5 : b.tmps.getD 5 undef = .int .i64 k := hE 5 (of_decide_eq_true (by kernel_rfl))
            exact good_move (wanted_none rfl) rfl f5
          · intro b w' h hE
            have f22 : b.tmps.getD 22 undef = .slice (some ⟨b0, o0, none⟩) l.length cap := h.dep 6 _ 22 (by kernel_rfl) rfl rfl
            have f23 : b.tmps.getD 23 undef = .int .i64 k := h.dep 7 _ 23 (by kernel_rfl) rfl rfl
            exact good_index (wanted_none rfl) rfl f22 f23 (by simp [go_sem, hlt]) rfl
          · intro b w' h hE
            have f24 : b.tmps.getD 24 undef = .pointer (some ⟨b0, o0 + k * 2, none⟩) := h.dep 8 _ 24 (by kernel_rfl) rfl rfl
            exact good_field (wanted_none rfl) rfl f24 (by simp [go_sem]) rfl
          · intro b w' h hE
            have f25 : b.tmps.getD 25 undef = .pointer (some ⟨b0, o0 + k * 2 + 1, none⟩) := h.dep 9 _ 25 (by kernel_rfl) rfl rfl
            have c0 := jcell_later h.ext k1.out
            exact good_load (wanted_none rfl) rfl f25 (by simp [go_sem, c0]) rfl
          · intro b w' h hE
            have f26 : b.tmps.getD 26 undef = .int .i64 xn := h.dep 10 _ 26 (by kernel_rfl) rfl rfl
            have g26 : b.tmps[26]?.getD undef = .int .i64 xn := by rw [← Array.getD_eq_getD_getElem?]; exact f26
            skip
            exact good_run (wanted_none rfl) (by simp [execOp, Act.eval, go_sem, g26, Sem.run_bind, Sem.run_pure, Result.andThen_ok, hws]) rfl
          · intro b w' h hE
            have f21 : b.tmps.getD 21 undef = .int .i64 xp := h.dep 5 _ 21 (by kernel_rfl) rfl rfl
            have f27 : b.tmps.getD 27 undef = .int .i64 (-xn) := h.dep 11 _ 27 (by kernel_rfl) rfl rfl
            have g21 : b.tmps[21]?.getD undef = .int .i64 xp := by rw [← Array.getD_eq_getD_getElem?]; exact f21
            have g27 : b.tmps[27]?.getD undef = .int .i64 (-xn) := by rw [← Array.getD_eq_getD_getElem?]; exact f27
            exact good_run (wanted_none rfl) (by simp [execOp, Act.eval, go_sem, g21, g27, Sem.run_bind, Sem.run_pure, Result.andThen_ok]) rfl
          · intro b w' h hE
            have f28 : b.tmps.getD 28 undef = jm (xp, -xn) := h.dep 12 _ 28 (by kernel_rfl) rfl rfl
            have g28 : b.tmps[28]?.getD undef = jm (xp, -xn) := by rw [← Array.getD_eq_getD_getElem?]; exact f28
            have := buildJ1 (xp, -xn) w'
            refine good_grow (w' := w'.alloc (.cells #[.int .i64 ((xp, -xn)).1, .int .i64 ((xp, -xn)).2] 72)) (v := .slice (some ⟨w'.heap.size, 0, none⟩) 1 1) (wanted_none rfl) ?_ (oneJ_new (xp, -xn) w') ((Ext.refl _).alloc _)
            simp [execOp, Act.eval, g28, this, Sem.run_bind, Sem.run_pure, Result.andThen_ok]
        · intro b w2 hX2 hd hz he' hf
          have e16 : b.tmps.getD 16 undef = .slice C acc.length ccap := hf 0 _ 16 (by omega) rfl rfl
          have e17 : b.tmps.getD 17 undef = .slice (some ⟨b0, o0, none⟩) l.length cap := hf 1 _ 17 (by omega) rfl rfl
          have e18 : b.tmps.getD 18 undef = .int .i64 k := hf 2 _ 18 (by omega) rfl rfl
          have e19 : b.tmps.getD 19 undef = .pointer (some ⟨b0, o0 + k * 2, none⟩) := hf 3 _ 19 (by omega) rfl rfl
          have e20 : b.tmps.getD 20 undef = .pointer (some ⟨b0, o0 + k * 2, none⟩) := hf 4 _ 20 (by omega) rfl rfl
          have e21 : b.tmps.getD 21 undef = .int .i64 xp := hf 5 _ 21 (by omega) rfl rfl
          have e22 : b.tmps.getD 22 undef = .slice (some ⟨b0, o0, none⟩) l.length cap := hf 6 _ 22 (by omega) rfl rfl
          have e23 : b.tmps.getD 23 undef = .int .i64 k := hf 7 _ 23 (by omega) rfl rfl
          have e24 : b.tmps.getD 24 undef = .pointer (some ⟨b0, o0 + k * 2, none⟩) := hf 8 _ 24 (by omega) rfl rfl
          have e25 : b.tmps.getD 25 undef = .pointer (some ⟨b0, o0 + k * 2 + 1, none⟩) := hf 9 _ 25 (by omega) rfl rfl
          have e26 : b.tmps.getD 26 undef = .int .i64 xn := hf 10 _ 26 (by omega) rfl rfl
          have e27 : b.tmps.getD 27 undef = .int .i64 (-xn) := hf 11 _ 27 (by omega) rfl rfl
          have e28 : b.tmps.getD 28 undef = jm (xp, -xn) := hf 12 _ 28 (by omega) rfl rfl
          have f9 : Jw w2 [] (b.tmps.getD 29 undef) [(xp, -xn)] := hf 13 _ 29 (by omega) rfl rfl
          have e := frame_puts hd hz he'
          obtain ⟨X, hXx⟩ : ∃ X : Nat → Value, ∀ d, b.tmps.getD d undef = X d := ⟨_, fun _ => rfl⟩
          rw [hXx] at e16 e17 e18 e19 e20 e21 e22 e23 e24 e25 e26 e27 e28 f9
          obtain ⟨A9, c9, e99, -, -, -⟩ := jw_form f9
          rw [show dstsOf _ = [16, 17, 18, 19, 20, 21, 22, 23, 24, 25, 26, 27, 28, 29] from rfl] at e
          simp only [List.foldl_cons, List.foldl_nil, hXx, Act.put, List.setIfInBounds_toArray, List.set_cons_succ, List.set_cons_zero] at e
          rw [e16, e17, e18, e19, e20, e21, e22, e23, e24, e25, e26, e27, e28, e99] at e
          rw [e99] at f9
          replace f9 := hide f9
          clear hf he' hz hd hXx e16 e17 e18 e19 e20 e21 e22 e23 e24 e25 e26 e27 e28 e99
          subst e
          have hzw := hX2.size
          simp only [List.drop_succ_cons, List.drop_zero]
          go_wp2_with (at_builtin; (refine wpl_app tJmp rfl (.tmp 16) (.tmp 29) rfl rfl (own_ext ho.out hX2) rfl (src_sl Tryz.underlying36 f9.out (ps_one _) (by omega)) (by unfold maxLen; simp only [List.length_singleton]; omega) (by simp only [List.length_singleton]; omega) (by omega) ?_; intro v8 w8 ho8 hg8 _; have hX8 := hide (ext_grown (hX.trans hX2) hg8 (fun q hq => (ho.out.lt q hq).1))))
          go_roundg (l.length - (k + 1))
          case measure => omega
          case rel => exact ⟨k + 1, acc ++ [(xp, -xn)], by go_num, by omega, own_appJ ho8, by rw [List.length_append, List.length_singleton]; omega, hnx.out.symm, hX8.out⟩
      · have hk' : k = l.length := by omega
        have hge : (l.length : Int) ≤ k := by omega
        have hR2 : Hid (R = acc) := by show _ = _; have := hacc.out; rw [hk', List.take_length] at this; rw [hR.out]; exact this.symm
        replace hk' := hide hk'
        clear hacc hR
        obtain ⟨C, ccap, rfl⟩ := own_form ho
        replace ho := hide ho
        go_wp2_with fail
        go_returns
        rw [hR2.out]
        exact ⟨_, rfl, ho.out, hX⟩
end Go.Proofs.YtpiehlfpkfbckaaGreat
set_option linter.unusedVariables false
set_option linter.unusedSimpArgs false
namespace Go.Proofs.YtpiehlfpkfbckaaGreat
open Go.RowKit
attribute [local go_sem] GW.cell GW.frozen In.eq_true In.le_true In.ne In.ne' In.ne_add In.ne_add' In.lt_add Upto.le_true Upto.le_add Upto.lt_add
set_option maxHeartbeats 8000000 in
set_option maxRecDepth 100000 in
theorem jrefAhead_c (l : List Jp) (t : Int) (v : Value) (w : World) (h : Jw w [] v l) : Calls Tryz.prog 71 #[v, .int .i64 t] w fun e w' => ∃ v', e = .returned (.tuple #[v', .int .i64 (ahE l t)]) ∧ OwnJ w' w.heap.size v' (ahR l t) ∧ Ext w w' := by
  have hm := hide (refStepMay_c l v w h)
  obtain ⟨E, hE⟩ : ∃ E, E = ahE l t := ⟨_, rfl⟩
  obtain ⟨R, hR⟩ : ∃ R, R = ahR l t := ⟨_, rfl⟩
  rw [← hE, ← hR]
  cases ha : mayJ l
  · have e1 : E = 2 := by rw [hE]; unfold ahE; rw [ha]; rfl
    have e2 : R = [] := by rw [hR]; unfold ahR; rw [← hE, e1, if_neg (by decide)]
    subst e1
    subst e2
    rw [ha] at hm
    obtain ⟨A, cap, rfl, -, -, -⟩ := jw_form h
    clear ha hE hR h
    go_enter Tryz.func71, Tryz.ntmps71
    go_wp2_with (go_at_call 26; (with_reducible refine seq_gw hm.out ?_); intro q)
    go_returns
    exact ⟨_, rfl, World.ownsRow_nil _ _ _ _, q.grown⟩
  rw [ha] at hm
  obtain ⟨vf, hvfe⟩ : ∃ vf : Int → Int, vf = ahV l t := ⟨_, rfl⟩
  obtain ⟨ps, hpse⟩ : ∃ ps, ps = ahP l t := ⟨_, rfl⟩
  have hFt : Hid (E = full (tell vf ps 0) ∧ R = kept (tell vf ps 0)) := by
    show _ ∧ _
    rw [hE, hR, hvfe, hpse]
    have e : ahE l t = full (ahL l t) := by unfold ahE; rw [ha]; rfl
    refine ⟨e, ?_⟩
    unfold ahR
    rw [e]
    show (if full (ahL l t) = 0 then ahL l t else []) = kept (ahL l t)
    unfold full kept
    cases mayJ (ahL l t) <;> rfl
  have hvf : Hid (∀ p, vf p = if p < t then jv l p else 0) := fun p => by rw [hvfe]; rfl
  have hpl : Hid (ps.length ≤ 4096) := by
    show _ ≤ _; rw [hpse]
    have h1 := plc_length l [] Asc.nil'
    have h2 := ins_length (plc [] l) t (plc_asc _ _ Asc.nil')
    have h3 := mayJ_len ha
    simp only [List.length_nil] at h1
    unfold ahP; split <;> omega
  have hb1 := hide (fun p => mayJ_jv ha p)
  have hbv : Hid (∀ p, -1152921504606846976 ≤ vf p ∧ vf p ≤ 1152921504606846976) := fun p => by have := hb1.out p; rw [hvf.out p]; split <;> omega
  have hbv' : Hid (∀ p ∈ ps, -1152921504606846976 ≤ vf p ∧ vf p ≤ 1152921504606846976) := fun p _ => hbv.out p
  have hpI : (ps.length : Int) ≤ 4096 := by have := hpl.out; omega
  have hv1 := hide (fun p w' (hX : Ext w w') => refValue_c l (mayJ_net ha) (mayJ_4096 ha) p v w' (Sl.ext h hX))
  have hplc := hide (fun w' (hX : Ext w w') => places_c l [] (mayJ_len ha) (by simp) v (.slice none 0 0) w' (Sl.ext h hX) (Sl.nil _ _ _))
  rw [show plc (plc [] l) [] = plc [] l from rfl] at hplc
  have hpl0 : Hid ((plc [] l).length ≤ 1024) := by show _ ≤ _; have := plc_length l [] Asc.nil'; have := mayJ_len ha; simp only [List.length_nil] at *; omega
  obtain ⟨A, cap, rfl, -, -, -⟩ := jw_form h
  by_cases hc1 : -1 ≤ t
  · by_cases hc2 : t < 1125899906842624
    · have hps2 : Hid (ps = ins (plc [] l) t) := by show _ = _; rw [hpse]; unfold ahP; rw [if_pos ⟨hc1, hc2⟩]
      clear ha hE hR h hpse hvfe
      go_enter Tryz.func71, Tryz.ntmps71
      go_wp2_with (first | (go_at_call 26; (with_reducible refine seq_gw hm.out ?_); intro q) | (go_at_call 104; refine (hplc.out _ q.grown).mono ?_; rintro ee wp0 ⟨vp0, rfl, hz0, hxp0⟩; have hX0 := hide (q.grown.trans hxp0); obtain ⟨P0, pcap0, rfl, -, -, -⟩ := zw_form hz0; replace hz0 := hide hz0) | (go_at_call 91; refine (with_c (plc [] l) (plc_asc _ _ Asc.nil') (by have := hpl0.out; omega) t _ wp0 hz0.out).mono ?_; rintro ee wp ⟨vp, rfl, hz, hxp⟩; rw [← hps2.out] at hz; have hXp := hide (hX0.out.trans hxp); have hXpB := hXp.out.size; obtain ⟨P, pcap, rfl, hpc1, hpc2, hpt⟩ := zw_form hz; unfold maxLen at hpc2; replace hpt := hide hpt; have hzp := hide hz; clear hz))
      clear hm hplc
      go_loopg [7, 8] ps.length (fun gh u i wr => ∃ (k : Nat), i = .int .i64 k ∧ k + gh = ps.length ∧ OwnZ wr wp.heap.size u ((ps.take k).map vf) ∧ Ext wp wr)
      case atStart => exact ⟨0, rfl, by omega, World.ownsRow_lit (base := wp.heap.size) (e := 3) (size := 1) wp #[] 0 (Nat.le_refl _) (by decide) rfl, (Ext.refl wp).alloc _⟩
      case round =>
        obtain ⟨k, rfl, hk, ho, hXr⟩ := hrel
        have hX := hXp.out.trans hXr
        have hzX := hX.size
        have hzX2 := hXr.size
        have htl : ((ps.take k).map vf).length ≤ k := by rw [List.length_map, List.length_take]; omega
        by_cases hlt : k < ps.length
        · obtain ⟨p, hp⟩ : ∃ p, ps[k]? = some p := ⟨_, List.getElem?_eq_getElem hlt⟩
          obtain ⟨pb, po, rfl, -, hpb, c0⟩ := hpt.out k p hp
          have k0 := jcell_later hXr c0
          have hbr : pb < wr.heap.size := block_lt_of_cell k0
          haveI : In pb wr := ⟨hbr⟩
          have hnx := map_next vf hp
          have hbp := hbv.out p
          obtain ⟨C, ccap, rfl⟩ := own_form ho
          replace ho := hide ho
          have hvp := hvf.out p
          generalize vf p = x at *
          generalize (ps.take k).map vf = acc at *
          replace hnx := hide hnx
          have c0h := hide c0
          clear c0 hp
          have hv1p := hide (hv1.out p)
          obtain ⟨a1, a2⟩ := hb1.out p
          generalize jv l p = a at *
          by_cases hpt : p < t
          · have hvx : x = a := hvp.trans (if_pos hpt)
            clear hvp
            subst hvx
            go_wp2_with (first | (go_at_call 61; (with_reducible refine seq_gw (hv1p.out _ hX) ?_); intro q1; have hz2 := GW.size q1) | (at_builtin; (refine wpl_app tZ rfl (.tmp 43) (.tmp 45) rfl rfl (own_ext ho.out ((q1.grown).alloc _)) rfl (src_z Tryz.underlying92 _ _ rfl x _) (by unfold maxLen; omega) (by omega) (by simp only [World.size_alloc]; omega) ?_; intro v8 w8 ho8 hg8 _)))
            go_roundg (ps.length - (k + 1))
            case measure => omega
            case rel => exact ⟨k + 1, by go_num, by omega, by rw [hnx.out]; exact own_appZ ho8, ext_grown ((hXr.trans q1.grown).alloc _) hg8 (fun q hq => (ho.out.lt q hq).1)⟩
          · have hvx : x = 0 := hvp.trans (if_neg hpt)
            have dpt : decide (p < t) = false := by rw [decide_eq_false_iff_not]; exact hpt
            clear hvp hpt
            subst hvx
            go_wp2_with (at_builtin; (refine wpl_app tZ rfl (.tmp 43) (.tmp 45) rfl rfl (own_ext ho.out (((Ext.refl wr)).alloc _)) rfl (src_z Tryz.underlying92 _ _ rfl 0 _) (by unfold maxLen; omega) (by omega) (by simp only [World.size_alloc]; omega) ?_; intro v8 w8 ho8 hg8 _))
            go_roundg (ps.length - (k + 1))
            case measure => omega
            case rel => exact ⟨k + 1, by go_num, by omega, by rw [hnx.out]; exact own_appZ ho8, ext_grown (hXr.alloc _) hg8 (fun q hq => (ho.out.lt q hq).1)⟩
        · have hk' : k = ps.length := by omega
          have hge : (ps.length : Int) ≤ k := by omega
          rw [hk', List.take_length] at ho
          have htd := hide (told_c ps vf hbv'.out hpl.out _ _ wr (Sl.ext hzp.out hXr) (own_zw ho))
          rw [← hFt.out.1, ← hFt.out.2] at htd
          obtain ⟨C, ccap, rfl⟩ := own_form ho
          rw [List.length_map] at htd ⊢
          replace hk' := hide hk'
          clear ho htl
          go_wp2_with (go_at_call 92; refine htd.out.mono ?_; rintro ee w9 ⟨v9, rfl, ho9, hx9⟩)
          go_returns
          exact ⟨_, rfl, own_base ho9 hzX, hX.trans hx9⟩
    · have hps2 : Hid (ps = plc [] l) := by show _ = _; rw [hpse]; unfold ahP; rw [if_neg (fun h => hc2 h.2)]
      have d2 : decide (t < 1125899906842624) = false := by rw [decide_eq_false_iff_not]; exact hc2
      clear ha hE hR h hpse hvfe hc2
      go_enter Tryz.func71, Tryz.ntmps71
      go_wp2_with (first | (go_at_call 26; (with_reducible refine seq_gw hm.out ?_); intro q) | (go_at_call 104; refine (hplc.out _ q.grown).mono ?_; rintro ee wp ⟨vp0, rfl, hz0, hxp0⟩; have hX0 := hide (q.grown.trans hxp0); rw [← hps2.out] at hz0; have hXp := hX0; have hXpB := hXp.out.size; obtain ⟨P, pcap, rfl, hpc1, hpc2, hpt⟩ := zw_form hz0; unfold maxLen at hpc2; replace hpt := hide hpt; have hzp := hide hz0; clear hz0))
      clear hm hplc
      go_loopg [7, 8] ps.length (fun gh u i wr => ∃ (k : Nat), i = .int .i64 k ∧ k + gh = ps.length ∧ OwnZ wr wp.heap.size u ((ps.take k).map vf) ∧ Ext wp wr)
      case atStart => exact ⟨0, rfl, by omega, World.ownsRow_lit (base := wp.heap.size) (e := 3) (size := 1) wp #[] 0 (Nat.le_refl _) (by decide) rfl, (Ext.refl wp).alloc _⟩
      case round =>
        obtain ⟨k, rfl, hk, ho, hXr⟩ := hrel
        have hX := hXp.out.trans hXr
        have hzX := hX.size
        have hzX2 := hXr.size
        have htl : ((ps.take k).map vf).length ≤ k := by rw [List.length_map, List.length_take]; omega
        by_cases hlt : k < ps.length
        · obtain ⟨p, hp⟩ : ∃ p, ps[k]? = some p := ⟨_, List.getElem?_eq_getElem hlt⟩
          obtain ⟨pb, po, rfl, -, hpb, c0⟩ := hpt.out k p hp
          have k0 := jcell_later hXr c0
          have hbr : pb < wr.heap.size := block_lt_of_cell k0
          haveI : In pb wr := ⟨hbr⟩
          have hnx := map_next vf hp
          have hbp := hbv.out p
          obtain ⟨C, ccap, rfl⟩ := own_form ho
          replace ho := hide ho
          have hvp := hvf.out p
          generalize vf p = x at *
          generalize (ps.take k).map vf = acc at *
          replace hnx := hide hnx
          have c0h := hide c0
          clear c0 hp
          have hv1p := hide (hv1.out p)
          obtain ⟨a1, a2⟩ := hb1.out p
          generalize jv l p = a at *
          by_cases hpt : p < t
          · have hvx : x = a := hvp.trans (if_pos hpt)
            clear hvp
            subst hvx
            go_wp2_with (first | (go_at_call 61; (with_reducible refine seq_gw (hv1p.out _ hX) ?_); intro q1; have hz2 := GW.size q1) | (at_builtin; (refine wpl_app tZ rfl (.tmp 43) (.tmp 45) rfl rfl (own_ext ho.out ((q1.grown).alloc _)) rfl (src_z Tryz.underlying92 _ _ rfl x _) (by unfold maxLen; omega) (by omega) (by simp only [World.size_alloc]; omega) ?_; intro v8 w8 ho8 hg8 _)))
            go_roundg (ps.length - (k + 1))
            case measure => omega
            case rel => exact ⟨k + 1, by go_num, by omega, by rw [hnx.out]; exact own_appZ ho8, ext_grown ((hXr.trans q1.grown).alloc _) hg8 (fun q hq => (ho.out.lt q hq).1)⟩
          · have hvx : x = 0 := hvp.trans (if_neg hpt)
            have dpt : decide (p < t) = false := by rw [decide_eq_false_iff_not]; exact hpt
            clear hvp hpt
            subst hvx
            go_wp2_with (at_builtin; (refine wpl_app tZ rfl (.tmp 43) (.tmp 45) rfl rfl (own_ext ho.out (((Ext.refl wr)).alloc _)) rfl (src_z Tryz.underlying92 _ _ rfl 0 _) (by unfold maxLen; omega) (by omega) (by simp only [World.size_alloc]; omega) ?_; intro v8 w8 ho8 hg8 _))
            go_roundg (ps.length - (k + 1))
            case measure => omega
            case rel => exact ⟨k + 1, by go_num, by omega, by rw [hnx.out]; exact own_appZ ho8, ext_grown (hXr.alloc _) hg8 (fun q hq => (ho.out.lt q hq).1)⟩
        · have hk' : k = ps.length := by omega
          have hge : (ps.length : Int) ≤ k := by omega
          rw [hk', List.take_length] at ho
          have htd := hide (told_c ps vf hbv'.out hpl.out _ _ wr (Sl.ext hzp.out hXr) (own_zw ho))
          rw [← hFt.out.1, ← hFt.out.2] at htd
          obtain ⟨C, ccap, rfl⟩ := own_form ho
          rw [List.length_map] at htd ⊢
          replace hk' := hide hk'
          clear ho htl
          go_wp2_with (go_at_call 92; refine htd.out.mono ?_; rintro ee w9 ⟨v9, rfl, ho9, hx9⟩)
          go_returns
          exact ⟨_, rfl, own_base ho9 hzX, hX.trans hx9⟩
  · have hps2 : Hid (ps = plc [] l) := by show _ = _; rw [hpse]; unfold ahP; rw [if_neg (fun h => hc1 h.1)]
    have d1 : decide (-1 ≤ t) = false := by rw [decide_eq_false_iff_not]; exact hc1
    clear ha hE hR h hpse hvfe hc1
    go_enter Tryz.func71, Tryz.ntmps71
    go_wp2_with (first | (go_at_call 26; (with_reducible refine seq_gw hm.out ?_); intro q) | (go_at_call 104; refine (hplc.out _ q.grown).mono ?_; rintro ee wp ⟨vp0, rfl, hz0, hxp0⟩; have hX0 := hide (q.grown.trans hxp0); rw [← hps2.out] at hz0; have hXp := hX0; have hXpB := hXp.out.size; obtain ⟨P, pcap, rfl, hpc1, hpc2, hpt⟩ := zw_form hz0; unfold maxLen at hpc2; replace hpt := hide hpt; have hzp := hide hz0; clear hz0))
    clear hm hplc
    go_loopg [7, 8] ps.length (fun gh u i wr => ∃ (k : Nat), i = .int .i64 k ∧ k + gh = ps.length ∧ OwnZ wr wp.heap.size u ((ps.take k).map vf) ∧ Ext wp wr)
    case atStart => exact ⟨0, rfl, by omega, World.ownsRow_lit (base := wp.heap.size) (e := 3) (size := 1) wp #[] 0 (Nat.le_refl _) (by decide) rfl, (Ext.refl wp).alloc _⟩
    case round =>
      obtain ⟨k, rfl, hk, ho, hXr⟩ := hrel
      have hX := hXp.out.trans hXr
      have hzX := hX.size
      have hzX2 := hXr.size
      have htl : ((ps.take k).map vf).length ≤ k := by rw [List.length_map, List.length_take]; omega
      by_cases hlt : k < ps.length
      · obtain ⟨p, hp⟩ : ∃ p, ps[k]? = some p := ⟨_, List.getElem?_eq_getElem hlt⟩
        obtain ⟨pb, po, rfl, -, hpb, c0⟩ := hpt.out k p hp
        have k0 := jcell_later hXr c0
        have hbr : pb < wr.heap.size := block_lt_of_cell k0
        haveI : In pb wr := ⟨hbr⟩
        have hnx := map_next vf hp
        have hbp := hbv.out p
        obtain ⟨C, ccap, rfl⟩ := own_form ho
        replace ho := hide ho
        have hvp := hvf.out p
        generalize vf p = x at *
        generalize (ps.take k).map vf = acc at *
        replace hnx := hide hnx
        have c0h := hide c0
        clear c0 hp
        have hv1p := hide (hv1.out p)
        obtain ⟨a1, a2⟩ := hb1.out p
        generalize jv l p = a at *
        by_cases hpt : p < t
        · have hvx : x = a := hvp.trans (if_pos hpt)
          clear hvp
          subst hvx
          go_wp2_with (first | (go_at_call 61; (with_reducible refine seq_gw (hv1p.out _ hX) ?_); intro q1; have hz2 := GW.size q1) | (at_builtin; (refine wpl_app tZ rfl (.tmp 43) (.tmp 45) rfl rfl (own_ext ho.out ((q1.grown).alloc _)) rfl (src_z Tryz.underlying92 _ _ rfl x _) (by unfold maxLen; omega) (by omega) (by simp only [World.size_alloc]; omega) ?_; intro v8 w8 ho8 hg8 _)))
          go_roundg (ps.length - (k + 1))
          case measure => omega
          case rel => exact ⟨k + 1, by go_num, by omega, by rw [hnx.out]; exact own_appZ ho8, ext_grown ((hXr.trans q1.grown).alloc _) hg8 (fun q hq => (ho.out.lt q hq).1)⟩
        · have hvx : x = 0 := hvp.trans (if_neg hpt)
          have dpt : decide (p < t) = false := by rw [decide_eq_false_iff_not]; exact hpt
          clear hvp hpt
          subst hvx
          go_wp2_with (at_builtin; (refine wpl_app tZ rfl (.tmp 43) (.tmp 45) rfl rfl (own_ext ho.out (((Ext.refl wr)).alloc _)) rfl (src_z Tryz.underlying92 _ _ rfl 0 _) (by unfold maxLen; omega) (by omega) (by simp only [World.size_alloc]; omega) ?_; intro v8 w8 ho8 hg8 _))
          go_roundg (ps.length - (k + 1))
          case measure => omega
          case rel => exact ⟨k + 1, by go_num, by omega, by rw [hnx.out]; exact own_appZ ho8, ext_grown (hXr.alloc _) hg8 (fun q hq => (ho.out.lt q hq).1)⟩
      · have hk' : k = ps.length := by omega
        have hge : (ps.length : Int) ≤ k := by omega
        rw [hk', List.take_length] at ho
        have htd := hide (told_c ps vf hbv'.out hpl.out _ _ wr (Sl.ext hzp.out hXr) (own_zw ho))
        rw [← hFt.out.1, ← hFt.out.2] at htd
        obtain ⟨C, ccap, rfl⟩ := own_form ho
        rw [List.length_map] at htd ⊢
        replace hk' := hide hk'
        clear ho htl
        go_wp2_with (go_at_call 92; refine htd.out.mono ?_; rintro ee w9 ⟨v9, rfl, ho9, hx9⟩)
        go_returns
        exact ⟨_, rfl, own_base ho9 hzX, hX.trans hx9⟩
end Go.Proofs.YtpiehlfpkfbckaaGreat
set_option linter.unusedVariables false
set_option linter.unusedSimpArgs false
namespace Go.Proofs.YtpiehlfpkfbckaaGreat
open Go.RowKit
attribute [local go_sem] GW.cell GW.frozen In.eq_true In.le_true In.ne In.ne' In.ne_add In.ne_add' In.lt_add Upto.le_true Upto.le_add Upto.lt_add
set_option maxHeartbeats 8000000 in
set_option maxRecDepth 100000 in
theorem jrefRest_c (l : List Jp) (t : Int) (v : Value) (w : World) (h : Jw w [] v l) : Calls Tryz.prog 72 #[v, .int .i64 t] w fun e w' => ∃ v', e = .returned (.tuple #[v', .int .i64 (reE l t)]) ∧ OwnJ w' w.heap.size v' (reR l t) ∧ Ext w w' := by
  have hm := hide (refStepMay_c l v w h)
  obtain ⟨E, hE⟩ : ∃ E, E = reE l t := ⟨_, rfl⟩
  obtain ⟨R, hR⟩ : ∃ R, R = reR l t := ⟨_, rfl⟩
  rw [← hE, ← hR]
  cases ha : mayJ l
  · have e1 : E = 2 := by rw [hE]; unfold reE; rw [ha]; rfl
    have e2 : R = [] := by rw [hR]; unfold reR; rw [← hE, e1, if_neg (by decide)]
    subst e1
    subst e2
    rw [ha] at hm
    obtain ⟨A, cap, rfl, -, -, -⟩ := jw_form h
    clear ha hE hR h
    go_enter Tryz.func72, Tryz.ntmps72
    go_wp2_with (go_at_call 26; (with_reducible refine seq_gw hm.out ?_); intro q)
    go_returns
    exact ⟨_, rfl, World.ownsRow_nil _ _ _ _, q.grown⟩
  rw [ha] at hm
  by_cases htF : 1125899906842624 ≤ t
  · have e0 : reL l t = [] := by unfold reL; rw [if_pos htF]
    have e1 : E = 0 := by rw [hE]; unfold reE; rw [ha, e0]; rfl
    have e2 : R = [] := by rw [hR]; unfold reR; rw [← hE, e1, if_pos rfl, e0]
    subst e1
    subst e2
    obtain ⟨A, cap, rfl, -, -, -⟩ := jw_form h
    clear e0 hE hR h ha
    go_enter Tryz.func72, Tryz.ntmps72
    go_wp2_with (go_at_call 26; (with_reducible refine seq_gw hm.out ?_); intro q)
    go_returns
    exact ⟨_, rfl, World.ownsRow_nil _ _ _ _, q.grown⟩
  have dF : decide (1125899906842624 ≤ t) = false := by rw [decide_eq_false_iff_not]; exact htF
  have htF' : t < 1125899906842624 := by omega
  obtain ⟨vf, hvfe⟩ : ∃ vf : Int → Int, vf = reV l t := ⟨_, rfl⟩
  obtain ⟨ps, hpse⟩ : ∃ ps, ps = reP l := ⟨_, rfl⟩
  have hFt : Hid (E = full (tell vf ps 0) ∧ R = kept (tell vf ps 0)) := by
    show _ ∧ _
    rw [hE, hR, hvfe, hpse]
    have e0 : reL l t = tell (reV l t) (reP l) 0 := by unfold reL; rw [if_neg htF]
    have e : reE l t = full (reL l t) := by unfold reE; rw [ha]; rfl
    rw [← e0]
    refine ⟨e, ?_⟩
    unfold reR
    rw [e]
    unfold full kept
    cases mayJ (reL l t) <;> rfl
  have hvf : Hid (∀ p, vf p = jv l (if -1 < t ∧ p < t then t - 1 else p)) := fun p => by rw [hvfe]; rfl
  have hpl : Hid (ps.length ≤ 4096) := by
    show _ ≤ _; rw [hpse]
    have h1 := plc_length l [] Asc.nil'
    have h2 := ins_length (plc [] l) (-1) (plc_asc _ _ Asc.nil')
    have h3 := mayJ_len ha
    simp only [List.length_nil] at h1
    unfold reP; omega
  have hb1 := hide (fun p => mayJ_jv ha p)
  have hbv : Hid (∀ p, -1152921504606846976 ≤ vf p ∧ vf p ≤ 1152921504606846976) := fun p => by rw [hvf.out p]; have := hb1.out (if -1 < t ∧ p < t then t - 1 else p); omega
  have hbv' : Hid (∀ p ∈ ps, -1152921504606846976 ≤ vf p ∧ vf p ≤ 1152921504606846976) := fun p _ => hbv.out p
  have hpI : (ps.length : Int) ≤ 4096 := by have := hpl.out; omega
  have hv1 := hide (fun p w' (hX : Ext w w') => refValue_c l (mayJ_net ha) (mayJ_4096 ha) p v w' (Sl.ext h hX))
  have hplc := hide (fun w' (hX : Ext w w') => places_c l [] (mayJ_len ha) (by simp) v (.slice none 0 0) w' (Sl.ext h hX) (Sl.nil _ _ _))
  rw [show plc (plc [] l) [] = plc [] l from rfl] at hplc
  have hpl0 : Hid ((plc [] l).length ≤ 1024) := by show _ ≤ _; have := plc_length l [] Asc.nil'; have := mayJ_len ha; simp only [List.length_nil] at *; omega
  obtain ⟨A, cap, rfl, -, -, -⟩ := jw_form h
  have hps2 : Hid (ps = ins (plc [] l) (-1)) := by show _ = _; rw [hpse]; rfl
  clear ha hE hR h hpse hvfe htF
  go_enter Tryz.func72, Tryz.ntmps72
  go_wp2_with (first | (go_at_call 26; (with_reducible refine seq_gw hm.out ?_); intro q) | (go_at_call 104; refine (hplc.out _ q.grown).mono ?_; rintro ee wp0 ⟨vp0, rfl, hz0, hxp0⟩; have hX0 := hide (q.grown.trans hxp0); obtain ⟨P0, pcap0, rfl, -, -, -⟩ := zw_form hz0; replace hz0 := hide hz0) | (go_at_call 91; refine (with_c (plc [] l) (plc_asc _ _ Asc.nil') (by have := hpl0.out; omega) (-1) _ wp0 hz0.out).mono ?_; rintro ee wp ⟨vp, rfl, hz, hxp⟩; rw [← hps2.out] at hz; have hXp := hide (hX0.out.trans hxp); have hXpB := hXp.out.size; obtain ⟨P, pcap, rfl, hpc1, hpc2, hpt⟩ := zw_form hz; unfold maxLen at hpc2; replace hpt := hide hpt; have hzp := hide hz; clear hz))
  clear hm hplc
  go_loopg [7, 8] ps.length (fun gh u i wr => ∃ (k : Nat), i = .int .i64 k ∧ k + gh = ps.length ∧ OwnZ wr wp.heap.size u ((ps.take k).map vf) ∧ Ext wp wr)
  case atStart => exact ⟨0, rfl, by omega, World.ownsRow_lit (base := wp.heap.size) (e := 3) (size := 1) wp #[] 0 (Nat.le_refl _) (by decide) rfl, (Ext.refl wp).alloc _⟩
  case round =>
    obtain ⟨k, rfl, hk, ho, hXr⟩ := hrel
    have hX := hXp.out.trans hXr
    have hzX := hX.size
    have hzX2 := hXr.size
    have htl : ((ps.take k).map vf).length ≤ k := by rw [List.length_map, List.length_take]; omega
    by_cases hlt : k < ps.length
    · obtain ⟨p, hp⟩ : ∃ p, ps[k]? = some p := ⟨_, List.getElem?_eq_getElem hlt⟩
      obtain ⟨pb, po, rfl, -, hpb, c0⟩ := hpt.out k p hp
      have k0 := jcell_later hXr c0
      have hbr : pb < wr.heap.size := block_lt_of_cell k0
      haveI : In pb wr := ⟨hbr⟩
      have hnx := map_next vf hp
      have hbp := hbv.out p
      obtain ⟨C, ccap, rfl⟩ := own_form ho
      replace ho := hide ho
      have hvp := hvf.out p
      generalize vf p = x at *
      generalize (ps.take k).map vf = acc at *
      replace hnx := hide hnx
      have c0h := hide c0
      clear c0 hp
      by_cases hin : -1 < t ∧ p < t
      · obtain ⟨hin1, hin2⟩ := hin
        have hv1p := hide (hv1.out (t - 1))
        have hvx : jv l (t - 1) = x := by rw [hvp, if_pos ⟨hin1, hin2⟩]
        rw [hvx] at hv1p
        clear hvp hvx
        go_wp2_with (first | (go_at_call 61; (with_reducible refine seq_gw (hv1p.out _ hX) ?_); intro q1; have hz2 := GW.size q1) | (at_builtin; (refine wpl_app tZ rfl (.tmp 38) (.tmp 42) rfl rfl (own_ext ho.out ((q1.grown).alloc _)) rfl (src_z Tryz.underlying92 _ _ rfl x _) (by unfold maxLen; omega) (by omega) (by simp only [World.size_alloc]; omega) ?_; intro v8 w8 ho8 hg8 _)))
        go_roundg (ps.length - (k + 1))
        case measure => omega
        case rel => exact ⟨k + 1, by go_num, by omega, by rw [hnx.out]; exact own_appZ ho8, ext_grown ((hXr.trans q1.grown).alloc _) hg8 (fun q hq => (ho.out.lt q hq).1)⟩
      · have hv1p := hide (hv1.out p)
        have hvx : jv l p = x := by rw [hvp, if_neg hin]
        rw [hvx] at hv1p
        clear hvp hvx
        by_cases hin1 : -1 < t
        · have d9 : decide (p < t) = false := by rw [decide_eq_false_iff_not]; exact fun h => hin ⟨hin1, h⟩
          clear hin
          go_wp2_with (first | (go_at_call 61; (with_reducible refine seq_gw (hv1p.out _ hX) ?_); intro q1; have hz2 := GW.size q1) | (at_builtin; (refine wpl_app tZ rfl (.tmp 38) (.tmp 42) rfl rfl (own_ext ho.out ((q1.grown).alloc _)) rfl (src_z Tryz.underlying92 _ _ rfl x _) (by unfold maxLen; omega) (by omega) (by simp only [World.size_alloc]; omega) ?_; intro v8 w8 ho8 hg8 _)))
          go_roundg (ps.length - (k + 1))
          case measure => omega
          case rel => exact ⟨k + 1, by go_num, by omega, by rw [hnx.out]; exact own_appZ ho8, ext_grown ((hXr.trans q1.grown).alloc _) hg8 (fun q hq => (ho.out.lt q hq).1)⟩
        · have d9 : decide (-1 < t) = false := by rw [decide_eq_false_iff_not]; exact hin1
          clear hin hin1
          go_wp2_with (first | (go_at_call 61; (with_reducible refine seq_gw (hv1p.out _ hX) ?_); intro q1; have hz2 := GW.size q1) | (at_builtin; (refine wpl_app tZ rfl (.tmp 38) (.tmp 42) rfl rfl (own_ext ho.out ((q1.grown).alloc _)) rfl (src_z Tryz.underlying92 _ _ rfl x _) (by unfold maxLen; omega) (by omega) (by simp only [World.size_alloc]; omega) ?_; intro v8 w8 ho8 hg8 _)))
          go_roundg (ps.length - (k + 1))
          case measure => omega
          case rel => exact ⟨k + 1, by go_num, by omega, by rw [hnx.out]; exact own_appZ ho8, ext_grown ((hXr.trans q1.grown).alloc _) hg8 (fun q hq => (ho.out.lt q hq).1)⟩
    · have hk' : k = ps.length := by omega
      have hge : (ps.length : Int) ≤ k := by omega
      rw [hk', List.take_length] at ho
      have htd := hide (told_c ps vf hbv'.out hpl.out _ _ wr (Sl.ext hzp.out hXr) (own_zw ho))
      rw [← hFt.out.1, ← hFt.out.2] at htd
      obtain ⟨C, ccap, rfl⟩ := own_form ho
      rw [List.length_map] at htd ⊢
      replace hk' := hide hk'
      clear ho htl
      go_wp2_with (go_at_call 92; refine htd.out.mono ?_; rintro ee w9 ⟨v9, rfl, ho9, hx9⟩)
      go_returns
      exact ⟨_, rfl, own_base ho9 hzX, hX.trans hx9⟩
end Go.Proofs.YtpiehlfpkfbckaaGreat
set_option linter.unusedVariables false
set_option linter.unusedSimpArgs false
namespace Go.Proofs.YtpiehlfpkfbckaaGreat
open Go.RowKit
attribute [local go_sem] GW.cell GW.frozen In.eq_true In.le_true In.ne In.ne' In.ne_add In.ne_add' In.lt_add Upto.le_true Upto.le_add Upto.lt_add
theorem inF_next {l : List Jp} {k : Nat} {x : Jp} (hx : l[k]? = some x) : inF (l.take (k + 1)) = if x.1 = 1125899906842624 then inF (l.take k) else inF (l.take k) ++ [x] := by
  unfold inF
  rw [take_snoc hx, List.filter_append]
  by_cases h : x.1 = 1125899906842624
  · rw [if_pos h]; simp [h]
  · rw [if_neg h]; simp [h]
theorem inF_len (l : List Jp) : (inF l).length ≤ l.length := List.length_filter_le _ _
theorem any_next {l : List Jp} {k : Nat} {x : Jp} {p : Jp → Bool} (h : (l.take k).any p = false) (hx : l[k]? = some x) (hp : p x = false) : (l.take (k + 1)).any p = false := by
  rw [take_snoc hx, List.any_append, h]; simp [hp]
theorem any_yes {l : List Jp} {k : Nat} {x : Jp} {p : Jp → Bool} (hx : l[k]? = some x) (hp : p x = true) : l.any p = true := List.any_eq_true.2 ⟨x, List.mem_of_getElem? hx, hp⟩
set_option maxHeartbeats 8000000 in
set_option maxRecDepth 100000 in
theorem refNorm_c (l : List Jp) (hn : l.length ≤ 1024) (v : Value) (w : World) (h : Jw w [] v l) : Calls Tryz.prog 48 #[v] w fun e w' => ∃ v', e = .returned (.tuple #[v', .int .i64 (nmE l)]) ∧ OwnJ w' w.heap.size v' (nmR l) ∧ Ext w w' := by
  have hv0 := hide (fun (hb : ∀ j ∈ l, -1048576 ≤ j.2 ∧ j.2 ≤ 1048576) p w' (hX : Ext w w') => refValue_c l hb (by omega) p v w' (Sl.ext h hX))
  obtain ⟨A, cap, rfl, hl, hm, hat⟩ := jw_form h
  unfold maxLen at hm
  replace hat := hide hat
  have hnI : (l.length : Int) ≤ 1024 := by omega
  have hnd := hide hn
  obtain ⟨E, hE⟩ : ∃ E, E = nmE l := ⟨_, rfl⟩
  obtain ⟨R, hR⟩ : ∃ R, R = nmR l := ⟨_, rfl⟩
  rw [← hE, ← hR]
  replace hE := hide hE
  replace hR := hide hR
  clear h
  go_enter Tryz.func48, Tryz.ntmps48
  go_wp2_with fail
  go_loopg [4] l.length (fun gh i wr => ∃ (k : Nat), i = .int .i64 k ∧ k + gh = l.length ∧ Hid ((l.take k).any tooJ = false) ∧ Ext w wr)
  case atStart => exact ⟨0, rfl, by omega, rfl, Ext.refl w⟩
  case round =>
    obtain ⟨k, rfl, hk, hno, hX⟩ := hrel
    by_cases hlt : k < l.length
    · obtain ⟨x, hx⟩ : ∃ x, l[k]? = some x := ⟨_, List.getElem?_eq_getElem hlt⟩
      obtain ⟨b, o, rfl, -, hbl, c0, c1⟩ := hat.out k x hx
      have k1 := jcell_later hX c1
      have hbr : b < wr.heap.size := block_lt_of_cell k1
      cases ht : tooJ x
      · have hno' : Hid ((l.take (k + 1)).any tooJ = false) := any_next hno.out hx ht
        unfold tooJ at ht
        rw [decide_eq_false_iff_not] at ht
        have d1 : decide (1048576 < x.2) = false := by rw [decide_eq_false_iff_not]; omega
        have d2 : decide (x.2 < -1048576) = false := by rw [decide_eq_false_iff_not]; omega
        obtain ⟨xp, xn⟩ := x
        simp only at k1 d1 d2
        clear c0 c1 hx ht hno hv0
        go_wp2_with fail
        go_roundg (l.length - (k + 1))
        case measure => omega
        case rel => exact ⟨k + 1, by go_num, by omega, hno', hX⟩
      · have e1 : Hid (E = 2 ∧ R = []) := by
          have h1 : nmE l = 2 := by unfold nmE; rw [any_yes hx ht]; rfl
          refine ⟨hE.out.trans h1, hR.out.trans ?_⟩
          unfold nmR; rw [h1, if_neg (by decide)]
        unfold tooJ at ht
        rw [decide_eq_true_iff] at ht
        obtain ⟨xp, xn⟩ := x
        simp only at k1 ht
        clear c0 c1 hx hno hv0
        by_cases h1 : 1048576 < xn
        · clear ht
          go_wp2_with fail
          go_returns
          rw [e1.out.1, e1.out.2]
          exact ⟨_, rfl, World.ownsRow_nil _ _ _ _, hX⟩
        · have d1 : decide (1048576 < xn) = false := by rw [decide_eq_false_iff_not]; exact h1
          have h2 := ht.resolve_left h1
          clear ht h1
          go_wp2_with fail
          go_returns
          rw [e1.out.1, e1.out.2]
          exact ⟨_, rfl, World.ownsRow_nil _ _ _ _, hX⟩
    · have hk' : k = l.length := by omega
      have hge : (l.length : Int) ≤ k := by omega
      have hall : Hid (l.any tooJ = false) := by show _ = _; have := hno.out; rwa [hk', List.take_length] at this
      have hb := hide (net_ok hall.out)
      have hv1 := hide (hv0.out hb.out)
      have dk : decide (k < l.length) = false := by rw [decide_eq_false_iff_not]; exact hlt
      replace hk' := hide hk'
      have hlit := hide (World.ownsRow_lit (base := wr.heap.size) (e := 3) (size := 1) wr #[] 0 (Nat.le_refl _) (by decide) rfl)
      obtain ⟨w1, hw1⟩ : ∃ w1, w1 = wr := ⟨_, rfl⟩
      rw [← hw1] at hX hlit ⊢
      clear hlt hno hv0 hw1
      go_wp2_with fail
      go_loopg [5, 6] l.length (fun gh u i wr => ∃ (j : Nat), i = .int .i64 j ∧ j + gh = l.length ∧ Zw wr [] u (plc [] (inF (l.take j))) ∧ Hid ((l.take j).any nowJ = false) ∧ Ext w wr)
      case atStart => exact ⟨0, rfl, by omega, own_zw hlit.out, rfl, hX.alloc _⟩
      case round =>
        clear hlit
        obtain ⟨j, rfl, hj, hz, hno, hX2⟩ := hrel
        by_cases hlt2 : j < l.length
        · obtain ⟨x, hx⟩ : ∃ x, l[j]? = some x := ⟨_, List.getElem?_eq_getElem hlt2⟩
          obtain ⟨b, o, rfl, -, hbl, c0, c1⟩ := hat.out j x hx
          have k0 := jcell_later hX2 c0
          have hbr : b < wr.heap.size := block_lt_of_cell k0
          cases ht : nowJ x
          · have hno' : Hid ((l.take (j + 1)).any nowJ = false) := any_next hno.out hx ht
            have hinf := inF_next hx
            unfold nowJ at ht
            rw [decide_eq_false_iff_not] at ht
            have d1 : decide (x.1 < -1) = false := by rw [decide_eq_false_iff_not]; omega
            have d2 : decide (1125899906842624 < x.1) = false := by rw [decide_eq_false_iff_not]; omega
            have hlen : (plc [] (inF (l.take j))).length ≤ 4096 := by
              have h1 := plc_length (inF (l.take j)) [] Asc.nil'
              have h2 := inF_len (l.take j)
              have h3 : (l.take j).length ≤ l.length := by rw [List.length_take]; omega
              have h4 := hnd.out
              simp only [List.length_nil] at h1
              omega
            by_cases hF : x.1 < 1125899906842624
            · rw [if_neg (by omega)] at hinf
              have hnx : Hid (plc [] (inF (l.take (j + 1))) = ins (plc [] (inF (l.take j))) x.1) := by show _ = _; rw [hinf, plc_snoc]
              have hwt := hide (with_c (plc [] (inF (l.take j))) (plc_asc _ _ Asc.nil') hlen x.1 _ wr hz)
              obtain ⟨C, ccap, rfl, -, -, -⟩ := zw_form hz
              obtain ⟨xp, xn⟩ := x
              simp only at k0 d1 d2 hF
              clear c0 c1 hx ht hno hinf hz hlen
              go_wp2_with (go_at_call 91; refine hwt.out.mono ?_; rintro ee w7 ⟨v7, rfl, hz7, hx7⟩)
              go_roundg (l.length - (j + 1))
              case measure => omega
              case rel => exact ⟨j + 1, by go_num, by omega, by rw [hnx.out]; exact hz7, hno', hX2.trans hx7⟩
            · have d3 : decide (x.1 < 1125899906842624) = false := by rw [decide_eq_false_iff_not]; exact hF
              rw [if_pos (by omega)] at hinf
              have hnx : Hid (inF (l.take (j + 1)) = inF (l.take j)) := hinf
              obtain ⟨C, ccap, rfl, -, -, -⟩ := zw_form hz
              obtain ⟨xp, xn⟩ := x
              simp only at k0 d1 d2 d3
              replace hz := hide hz
              clear c0 c1 hx ht hno hinf hlen hF
              go_wp2_with fail
              go_roundg (l.length - (j + 1))
              case measure => omega
              case rel => exact ⟨j + 1, by go_num, by omega, by rw [hnx.out]; exact hz.out, hno', hX2⟩
          · have e1 : Hid (E = 13 ∧ R = []) := by
              have h1 : nmE l = 13 := by unfold nmE; rw [hall.out, any_yes hx ht]; rfl
              refine ⟨hE.out.trans h1, hR.out.trans ?_⟩
              unfold nmR; rw [h1, if_neg (by decide)]
            unfold nowJ at ht
            rw [decide_eq_true_iff] at ht
            obtain ⟨C, ccap, rfl, -, -, -⟩ := zw_form hz
            obtain ⟨xp, xn⟩ := x
            simp only at k0 ht
            clear c0 c1 hx hno hz
            by_cases h1 : xp < -1
            · clear ht
              go_wp2_with fail
              go_returns
              rw [e1.out.1, e1.out.2]
              exact ⟨_, rfl, World.ownsRow_nil _ _ _ _, hX2⟩
            · have d1 : decide (xp < -1) = false := by rw [decide_eq_false_iff_not]; exact h1
              have h2 := ht.resolve_left h1
              clear ht h1
              go_wp2_with fail
              go_returns
              rw [e1.out.1, e1.out.2]
              exact ⟨_, rfl, World.ownsRow_nil _ _ _ _, hX2⟩
        · have hj' : j = l.length := by omega
          have hge2 : (l.length : Int) ≤ j := by omega
          have hall2 : Hid (l.any nowJ = false) := by show _ = _; have := hno.out; rwa [hj', List.take_length] at this
          rw [hj', List.take_length] at hz
          obtain ⟨vf, hvfe⟩ : ∃ vf : Int → Int, vf = jv l := ⟨_, rfl⟩
          obtain ⟨ps, hpse⟩ : ∃ ps, ps = plc [] (inF l) := ⟨_, rfl⟩
          have hFt : Hid (E = full (tell vf ps 0) ∧ R = kept (tell vf ps 0)) := by
            show _ ∧ _
            have e : nmE l = full (nmL l) := by unfold nmE; rw [hall.out, hall2.out]; rfl
            rw [hE.out, hR.out, hvfe, hpse]
            refine ⟨e, ?_⟩
            unfold nmR
            rw [e]
            show (if full (nmL l) = 0 then nmL l else []) = kept (nmL l)
            unfold full kept
            cases mayJ (nmL l) <;> rfl
          have hvf : Hid (∀ p, vf p = jv l p) := fun p => by rw [hvfe]
          have hbv : Hid (∀ p, -1152921504606846976 ≤ vf p ∧ vf p ≤ 1152921504606846976) := fun p => by rw [hvfe]; have := jv_60 hb.out (by have := hnd.out; omega) p; omega
          have hbv' : Hid (∀ p ∈ ps, -1152921504606846976 ≤ vf p ∧ vf p ≤ 1152921504606846976) := fun p _ => hbv.out p
          have hpl : Hid (ps.length ≤ 4096) := by
            show _ ≤ _; rw [hpse]
            have h1 := plc_length (inF l) [] Asc.nil'
            have h2 := inF_len l
            have h3 := hnd.out
            simp only [List.length_nil] at h1; omega
          have hpI : (ps.length : Int) ≤ 4096 := by have := hpl.out; omega
          rw [← hpse] at hz
          have dj : decide (j < l.length) = false := by rw [decide_eq_false_iff_not]; exact hlt2
          have hXp := hide hX2
          have hXpB := hXp.out.size
          obtain ⟨wp, hwp⟩ : ∃ wp, wp = wr := ⟨_, rfl⟩
          rw [← hwp] at hz hXp hXpB hX2 ⊢
          obtain ⟨P, pcap, rfl, hpc1, hpc2, hpt⟩ := zw_form hz
          unfold maxLen at hpc2
          replace hpt := hide hpt
          have hzp := hide hz
          replace hj' := hide hj'
          clear hz hno hvfe hpse hwp hlt2 hX hX2
          go_wp2_with fail
          go_loopg [7, 8] ps.length (fun gh u i wr => ∃ (k : Nat), i = .int .i64 k ∧ k + gh = ps.length ∧ OwnZ wr wp.heap.size u ((ps.take k).map vf) ∧ Ext wp wr)
          case atStart => exact ⟨0, rfl, by omega, World.ownsRow_lit (base := wp.heap.size) (e := 3) (size := 1) wp #[] 0 (Nat.le_refl _) (by decide) rfl, (Ext.refl wp).alloc _⟩
          case round =>
            obtain ⟨k, rfl, hk, ho, hXr⟩ := hrel
            have hX := hXp.out.trans hXr
            have hzX := hX.size
            have hzX2 := hXr.size
            have htl : ((ps.take k).map vf).length ≤ k := by rw [List.length_map, List.length_take]; omega
            by_cases hlt : k < ps.length
            · obtain ⟨p, hp⟩ : ∃ p, ps[k]? = some p := ⟨_, List.getElem?_eq_getElem hlt⟩
              obtain ⟨pb, po, rfl, -, hpb, c0⟩ := hpt.out k p hp
              have k0 := jcell_later hXr c0
              have hbr : pb < wr.heap.size := block_lt_of_cell k0
              haveI : In pb wr := ⟨hbr⟩
              have hnx := map_next vf hp
              have hbp := hbv.out p
              obtain ⟨C, ccap, rfl⟩ := own_form ho
              replace ho := hide ho
              have hvp := hvf.out p
              generalize vf p = x at *
              generalize (ps.take k).map vf = acc at *
              replace hnx := hide hnx
              have c0h := hide c0
              clear c0 hp
              have hv1p := hide (hv1.out p)
              rw [← hvp] at hv1p
              clear hvp
              go_wp2_with (first | (go_at_call 61; (with_reducible refine seq_gw (hv1p.out _ hX) ?_); intro q1; have hz2 := GW.size q1) | (at_builtin; (refine wpl_app tZ rfl (.tmp 70) (.tmp 77) rfl rfl (own_ext ho.out ((q1.grown).alloc _)) rfl (src_z Tryz.underlying92 _ _ rfl x _) (by unfold maxLen; omega) (by omega) (by simp only [World.size_alloc]; omega) ?_; intro v8 w8 ho8 hg8 _)))
              go_roundg (ps.length - (k + 1))
              case measure => omega
              case rel => exact ⟨k + 1, by go_num, by omega, by rw [hnx.out]; exact own_appZ ho8, ext_grown ((hXr.trans q1.grown).alloc _) hg8 (fun q hq => (ho.out.lt q hq).1)⟩
            · have hk' : k = ps.length := by omega
              have hge : (ps.length : Int) ≤ k := by omega
              rw [hk', List.take_length] at ho
              have htd := hide (told_c ps vf hbv'.out hpl.out _ _ wr (Sl.ext hzp.out hXr) (own_zw ho))
              rw [← hFt.out.1, ← hFt.out.2] at htd
              obtain ⟨C, ccap, rfl⟩ := own_form ho
              rw [List.length_map] at htd ⊢
              replace hk' := hide hk'
              clear ho htl
              go_wp2_with (go_at_call 92; refine htd.out.mono ?_; rintro ee w9 ⟨v9, rfl, ho9, hx9⟩)
              go_returns
              exact ⟨_, rfl, own_base ho9 hzX, hX.trans hx9⟩
end Go.Proofs.YtpiehlfpkfbckaaGreat

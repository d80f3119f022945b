/-
  A helper of ours: no claim of its own. Layer 12 (bag): how many edges a bag has with others in place, by the code.
-/
import Derived.Test.YtobmjcehgpmfgaaGreatMapV
import Derived.BigQuiet
set_option linter.unusedVariables false
set_option linter.unusedSimpArgs false
namespace Go.Proofs.YtobmjcehgpmfgaaGreat
open Go.RowKit
attribute [local go_sem] GW.cell GW.frozen In.eq_true In.le_true In.ne In.ne' In.ne_add In.ne_add' In.lt_add Upto.le_true Upto.le_add Upto.lt_add
/-- An entry: the slices of its row and of its jumps, the row, the jumps. -/
abbrev Fe := Value × Value × Gp
def fent (kf : List Vl → List UInt8) (p : Fe) : Lit × Value := (.string (kf p.2.2.1), .agg #[p.1, p.2.1])
theorem fnKey : Go.Maps.Keyed Tryz.prog 9 := Go.Maps.string_keyed Tryz.underlying9
def Fm (kf : List Vl → List UInt8) (w : World) (S : List Nat) (b n : Nat) (T : List Fe) : Prop := Mv w Tryz.prog 9 (fent kf) b n T ∧ ∀ p ∈ T, Rw w S p.1 p.2.2.1 ∧ Jw w S p.2.1 p.2.2.2
def Bg (kf : List Vl → List UInt8) (w : World) (S : List Nat) (B mb n : Nat) (mk : Int) (T : List Fe) : Prop := Ob w B 119 [.int .i64 mk, .map (some mb)] ∧ Fm kf w S mb n T
set_option maxHeartbeats 2000000 in
theorem bagNew_c (kf : List Vl → List UInt8) (w : World) : Calls Tryz.prog 15 #[] w fun e w' => ∃ B mb, e = .returned (.pointer (some ⟨B, 0, none⟩)) ∧ (w.heap.size ≤ B ∧ w.heap.size ≤ mb ∧ B ≠ mb ∧ Bg kf w' [] B mb 0 (-1) []) ∧ Ext w w' := by
  have h1 := hide (Mv.made (fent kf) w Tryz.prog 9)
  have h2 := hide (Ob.new (w.alloc (.map #[] 0)) 119 [.int .i64 (-1), .map (some w.heap.size)])
  have hmk : ∀ w, (Instr.makeMap 117 none).run Tryz.prog w = .ok (.map (some w.heap.size)) (w.alloc (.map #[] 0)) := fun _ => by kernel_rfl
  go_enter Tryz.func15, Tryz.ntmps15
  go_wp2_with fail
  go_returns
  refine ⟨_, _, rfl, ⟨?_, Nat.le_refl _, ?_, by first | exact h2.out | simpa using h2.out, h1.out.alloc _, by simp⟩, ((Ext.refl w).alloc _).alloc _⟩
  · first | omega | simp
  · first | omega | simp
set_option maxHeartbeats 2000000 in
theorem bagMark_c (kf : List Vl → List UInt8) (S : List Nat) (B mb n : Nat) (mk : Int) (T : List Fe) (w : World) (h : Bg kf w S B mb n mk T) : Calls Tryz.prog 21 #[.pointer (some ⟨B, 0, none⟩)] w fun e w' => e = .returned (.int .i64 mk) ∧ Ext w w' := by
  have c0 := h.1.cell 0 rfl
  have hlt := h.1.lt
  haveI : In B w := ⟨hlt⟩
  clear h
  go_enter Tryz.func21, Tryz.ntmps21
  go_wp2_with fail
  go_returns
  exact ⟨rfl, Ext.refl _⟩
theorem ext_by {w w' : World} (h : Ext w w') : w.grownBy w' none := ⟨h.os, h.tape, h.output, h.size, fun k hk _ => h.block k hk⟩
/-- How many pieces begin. -/
def begJ (f : List Jp) : Int := (f.map fun j => max j.2 0).sum
def begT (T : List Fe) : Int := (T.map fun p => begJ p.2.2.2).sum
theorem begJ_pos : ∀ f : List Jp, 0 ≤ begJ f
  | [] => Int.le_refl _
  | j :: f => by have := begJ_pos f; unfold begJ at *; rw [List.map_cons, List.sum_cons]; omega
theorem begT_pos : ∀ T : List Fe, 0 ≤ begT T
  | [] => Int.le_refl _
  | p :: T => by have h1 := begT_pos T; have h2 := begJ_pos p.2.2.2; unfold begT at *; rw [List.map_cons, List.sum_cons]; omega
theorem begT_perm {T T' : List Fe} (p : T.Perm T') : begT T = begT T' := by
  unfold begT
  induction p with
  | nil => rfl
  | cons x _ ih => rw [List.map_cons, List.map_cons, List.sum_cons, List.sum_cons, ih]
  | swap x y l => simp only [List.map_cons, List.sum_cons]; omega
  | trans _ _ h1 h2 => exact h1.trans h2
theorem begJ_split (f : List Jp) (k : Nat) : begJ f = begJ (f.take k) + begJ (f.drop k) := by
  unfold begJ
  rw [← List.sum_append, ← List.map_append, List.take_append_drop]
set_option maxHeartbeats 8000000 in
set_option maxRecDepth 100000 in
theorem bagCount_c (kf : List Vl → List UInt8) (S : List Nat) (B mb n : Nat) (mk : Int) (T : List Fe) (hC : begT T ≤ 1000000000000) (w : World) (h : Bg kf w S B mb n mk T) : Calls Tryz.prog 22 #[.pointer (some ⟨B, 0, none⟩)] w fun e w' => e = .returned (.int .i64 (begT T)) ∧ Ext w w' := by
  have c0 := h.1.cell 1 rfl
  have hlt := h.1.lt
  haveI : In B w := ⟨hlt⟩
  have hM := hide h.2.1
  have hT := hide h.2.2
  clear h
  obtain ⟨R, hR⟩ : ∃ R, R = begT T := ⟨_, rfl⟩
  rw [← hR]
  rw [← hR] at hC
  replace hR := hide hR
  go_enter Tryz.func22, Tryz.ntmps22
  go_wp2_with (at_range; refine wpl_range rfl (.tmp 13) rfl rfl fnKey Tryz.underlying117 hM.out ?_; intro w1 hr1 hg1 hs1)
  go_frame
  have hX1 := hide (ext_grown (Ext.refl w) hg1 (by simp))
  obtain ⟨r, hrr⟩ : ∃ r, r = w.heap.size := ⟨_, rfl⟩
  rw [← hrr] at hr1 ⊢
  have hrle : w.heap.size ≤ r := by omega
  replace hr1 := hide hr1
  clear hg1 hs1
  replace hrr := hide hrr
  go_loopg [3] T.length (fun gh z wr => ∃ (y : Int) (L : List Fe), z = .int .i64 y ∧ L.length = gh ∧ 0 ≤ y ∧ Hid (y + begT L = R) ∧ Hid (Rgv wr Tryz.prog 9 (fent kf) mb r n T L) ∧ Hid (Ext w wr))
  case atStart => exact ⟨0, T, rfl, rfl, Int.le_refl _, (by show _ = _; rw [hR.out]; omega), hr1, hX1⟩
  case round =>
    clear hr1 hX1
    obtain ⟨y, L, rfl, hL, hy0, hy, hRv, hX⟩ := hrel
    go_wp2_with (at_next; refine wpl_next rfl (.tmp 14) rfl rfl fnKey hRv.out ?_ ?_)
    · intro hl0
      subst hl0
      have hRy : Hid (R = y) := by show _ = _; rw [← hy.out]; simp [begT]
      clear hy hRv hM hT
      go_wp2_with fail
      go_returns
      rw [hRy.out]
      exact ⟨rfl, hX.out⟩
    · intro key vr vj q f L' w1 hkey hq hp hR1 hg1 hs1 hen
      have hE : (fent kf (vr, vj, q, f)).2 = .agg #[vr, vj] := rfl
      rw [hE] at hen ⊢
      obtain ⟨hrw, hjw⟩ := hT.out _ hq
      simp only at hrw hjw
      have hX1 := hide (ext_grown hX.out hg1 (fun z hz => by obtain rfl := Option.some.inj hz; exact hrle))
      have hbL : begT L = begJ f + begT L' := by rw [begT_perm hp]; simp [begT]
      have hy2 := hy.out
      rw [hbL] at hy2
      have hpos := begT_pos L'
      have hbf := begJ_pos f
      have hlen : L'.length + 1 = L.length := by rw [hp.length_eq]; rfl
      obtain ⟨VA, vcap, rfl⟩ := (show ∃ A cap, vr = .slice A q.length cap by obtain ⟨A, cap, e, _⟩ := hrw; exact ⟨A, cap, e⟩)
      obtain ⟨JA, jcap, rfl, hjl, hjm, hat⟩ := jw_form hjw
      unfold maxLen at hjm
      replace hat := hide hat
      replace hy2 := hide hy2
      have hR1h := hide hR1
      clear hkey hq hp hR1 hg1 hbL hrw hjw hy hRv hT hE
      go_wp2_with fail
      obtain ⟨wf, hwf⟩ : ∃ wf, wf = w1.alloc (.cells #[.slice VA q.length vcap, .slice JA f.length jcap] 128) := ⟨_, rfl⟩
      have hXf := hide (show Ext w wf by rw [hwf]; exact hX1.out.alloc _)
      have hRf := hide (show Rgv wf Tryz.prog 9 (fent kf) mb r n T L' by rw [hwf]; exact hR1h.out.kept (World.grownBy_alloc w1 _ none) (by simp) (by simp))
      rw [← hwf]
      clear hwf hR1h hen
      go_loopg [3, 22] f.length (fun gh z i wr => ∃ (j : Nat) (x : Int), z = .int .i64 x ∧ i = .int .i64 j ∧ j + gh = f.length ∧ Hid (x = y + begJ (f.take j)) ∧ Ext wf wr)
      case atStart => exact ⟨0, y, rfl, rfl, by omega, (by show _ = _; simp [begJ]), Ext.refl _⟩
      case round =>
        obtain ⟨j, x, rfl, rfl, hj, hx, hXj⟩ := hrel
        have hsp := begJ_split f j
        have hd0 := begJ_pos (f.drop j)
        have ht0 := begJ_pos (f.take j)
        have hxx := hx.out
        have hyy := hy2.out
        by_cases hjf : j < f.length
        · obtain ⟨e, he⟩ : ∃ e, f[j]? = some e := ⟨_, List.getElem?_eq_getElem hjf⟩
          obtain ⟨b0, o, rfl, -, hbl, c0, c1⟩ := hat.out j e he
          have k0 := jcell_later (hXf.out.trans hXj) c0
          have k1 := jcell_later (hXf.out.trans hXj) c1
          have hbr : b0 < wr.heap.size := block_lt_of_cell k0
          haveI : In b0 wr := ⟨hbr⟩
          have hjI : (j : Int) < f.length := by omega
          have dj : decide ((j : Int) < f.length) = true := decide_eq_true hjI
          have hnx := hide (show x + max e.2 0 = y + begJ (f.take (j + 1)) by rw [hxx, take_snoc he]; simp [begJ]; omega)
          have hb1 := begJ_split f (j + 1)
          have hb2 := begJ_pos (f.drop (j + 1))
          have hmx : x + max e.2 0 ≤ 1000000000000 := by rw [hnx.out]; omega
          obtain ⟨ea, en⟩ := e
          simp only at k0 k1 hnx hmx
          have hx0 : 0 ≤ x := by omega
          clear c0 c1 he hat hsp hd0 ht0 hxx hyy hx hb1 hb2 hy2
          by_cases hn0 : 0 ≤ en
          · rw [Int.max_eq_left hn0] at hnx hmx
            go_wp2_with fail
            go_roundg (f.length - (j + 1))
            case measure => omega
            case rel => exact ⟨j + 1, x + en, by first | go_num | (simp [Int.max_eq_left hn0]), by go_num, by omega, hnx, hXj.alloc _⟩
          · rw [Int.max_eq_right (by omega), Int.add_zero] at hnx hmx
            go_wp2_with fail
            go_roundg (f.length - (j + 1))
            case measure => omega
            case rel => exact ⟨j + 1, x, by first | go_num | (simp [Int.max_eq_right (show en ≤ 0 by omega)]), by go_num, by omega, hnx, hXj.alloc _⟩
        · have hjI : (f.length : Int) ≤ j := by omega
          have dj : decide ((j : Int) < f.length) = false := decide_eq_false (by omega)
          rw [List.take_of_length_le (by omega)] at hxx
          have hfin := hide (show x + begT L' = R by omega)
          have hx0 : 0 ≤ x := by omega
          clear hat hsp hd0 ht0 hxx hyy hx hy2
          go_wp2_with fail
          go_roundg L'.length
          case measure => omega
          case rel => exact ⟨x, L', rfl, rfl, hx0, hfin, hRf.out.kept (ext_by hXj) (by simp) (by simp), hXf.out.trans hXj⟩
end Go.Proofs.YtobmjcehgpmfgaaGreat
set_option linter.unusedVariables false
set_option linter.unusedSimpArgs false
namespace Go.Proofs.YtobmjcehgpmfgaaGreat
open Go.RowKit
attribute [local go_sem] GW.cell GW.frozen In.eq_true In.le_true In.ne In.ne' In.ne_add In.ne_add' In.lt_add Upto.le_true Upto.le_add Upto.lt_add
/-- How many edges. -/
def lenT (T : List Fe) : Int := (T.map fun p => (p.2.2.2.length : Int)).sum
theorem lenT_pos : ∀ T : List Fe, 0 ≤ lenT T
  | [] => Int.le_refl _
  | p :: T => by have := lenT_pos T; unfold lenT at *; rw [List.map_cons, List.sum_cons]; omega
theorem sumT_perm (h : Fe → Int) {T T' : List Fe} (p : T.Perm T') : (T.map h).sum = (T'.map h).sum := by
  induction p with
  | nil => rfl
  | cons x _ ih => rw [List.map_cons, List.map_cons, List.sum_cons, List.sum_cons, ih]
  | swap x y l => simp only [List.map_cons, List.sum_cons]; omega
  | trans _ _ h1 h2 => exact h1.trans h2
/-- How many jumps the bag has of an entry's row. -/
def lenAt (kf : List Vl → List UInt8) (T : List Fe) (p : Fe) : Nat := match getM (fent kf) T (fent kf p).1 with
  | some q => q.2.2.2.length
  | none => 0
def szW (kf : List Vl → List UInt8) (T U : List Fe) : Int := lenT T + (U.map fun p => (p.2.2.2.length : Int) - lenAt kf T p).sum
set_option maxHeartbeats 8000000 in
set_option maxRecDepth 100000 in
theorem bagSize_c (kf : List Vl → List UInt8) (S : List Nat) (B mb n ob n2 : Nat) (mk : Int) (T U : List Fe) (hT6 : lenT T ≤ 1000000) (hU6 : lenT U ≤ 1000000000) (hAt : ∀ p ∈ U, lenAt kf T p ≤ 1000000) (hUl : U.length ≤ 1000000) (w : World) (h : Bg kf w S B mb n mk T) (hU : Fm kf w S ob n2 U) : Calls Tryz.prog 74 #[.pointer (some ⟨B, 0, none⟩), .map (some ob)] w fun e w' => e = .returned (.int .i64 (szW kf T U)) ∧ Ext w w' := by
  have c0 := h.1.cell 1 rfl
  have hc0 := hide c0
  have hlt := h.1.lt
  haveI : In B w := ⟨hlt⟩
  have hM := hide h.2.1
  have hT := hide h.2.2
  have hTm := hide (fun q (hq : q ∈ T) => (h.2.2 q hq).2)
  have hMU := hide hU.1
  have hTU := hide hU.2
  clear h hU
  obtain ⟨R, hR⟩ : ∃ R, R = szW kf T U := ⟨_, rfl⟩
  rw [← hR]
  replace hR := hide hR
  replace hAt := hide hAt
  go_enter Tryz.func74, Tryz.ntmps74
  go_wp2_with (at_range; refine wpl_range rfl (.tmp 13) rfl rfl fnKey Tryz.underlying117 hM.out ?_; intro w1 hr1 hg1 hs1)
  go_frame
  have hX1 := hide (ext_grown (Ext.refl w) hg1 (by simp))
  obtain ⟨r, hrr⟩ : ∃ r, r = w.heap.size := ⟨_, rfl⟩
  rw [← hrr] at hr1 ⊢
  have hrle : w.heap.size ≤ r := by omega
  replace hr1 := hide hr1
  clear hg1 hs1 c0
  replace hrr := hide hrr
  go_loopg [5] T.length (fun gh z wr => ∃ (y : Int) (L : List Fe), z = .int .i64 y ∧ L.length = gh ∧ 0 ≤ y ∧ Hid (y + lenT L = lenT T) ∧ Hid (Rgv wr Tryz.prog 9 (fent kf) mb r n T L) ∧ Hid (Ext w wr))
  case atStart => exact ⟨0, T, rfl, rfl, Int.le_refl _, (by show _ = _; omega), hr1, hX1⟩
  case round =>
    clear hr1 hX1
    obtain ⟨y, L, rfl, hL, hy0, hy, hRv, hX⟩ := hrel
    go_wp2_with (at_next; refine wpl_next rfl (.tmp 14) rfl rfl fnKey hRv.out ?_ ?_)
    · intro hl0
      subst hl0
      have hyT : Hid (y = lenT T) := by show _ = _; rw [← hy.out]; simp [lenT]
      have hy9 : y ≤ 1000000 := by rw [hyT.out]; exact hT6
      have hMU2 := hide (hMU.out.kept (ext_by hX.out) (by simp))
      clear hy hRv hT
      obtain ⟨wq, hwq⟩ : ∃ wq, wq = wr := ⟨_, rfl⟩
      subst hwq
      go_wp2_with (at_range; refine wpl_range rfl (.tmp 24) rfl rfl fnKey Tryz.underlying117 hMU2.out ?_; intro w3 hr3 hg3 hs3)
      go_frame
      have hX3 := hide (ext_grown hX.out hg3 (by simp))
      obtain ⟨r2, hrr2⟩ : ∃ r2, r2 = wq.heap.size := ⟨_, rfl⟩
      rw [← hrr2] at hr3 ⊢
      have hzz := hX.out.size
      have hrle2 : w.heap.size ≤ r2 := by omega
      replace hr3 := hide hr3
      clear hg3 hs3
      replace hrr2 := hide hrr2
      go_loopg [5] U.length (fun gh z wr => ∃ (x : Int) (L : List Fe), z = .int .i64 x ∧ L.length = gh ∧ Hid (x + (L.map fun p => (p.2.2.2.length : Int) - lenAt kf T p).sum = R) ∧ (x + 1000000000 * (L.length : Int) ≤ 1000000 + 1000000000 * (U.length : Int) ∧ -x + 1000000000 * (L.length : Int) ≤ 1000000 + 1000000000 * (U.length : Int)) ∧ Hid (Rgv wr Tryz.prog 9 (fent kf) ob r2 n2 U L) ∧ Hid (Ext w wr))
      case atStart => exact ⟨y, U, rfl, rfl, (by show _ = _; rw [hR.out, hyT.out]; rfl), by omega, hr3, hX3⟩
      case round =>
        clear hr3 hX3
        obtain ⟨x, L, rfl, hL, hx, hxb, hRv, hX⟩ := hrel
        go_wp2_with (at_next; refine wpl_next rfl (.tmp 25) rfl rfl fnKey hRv.out ?_ ?_)
        · intro hl0
          subst hl0
          have hRx : Hid (R = x) := by show _ = _; rw [← hx.out]; simp
          clear hx hRv hTU hMU hAt
          go_wp2_with fail
          go_returns
          rw [hRx.out]
          exact ⟨rfl, hX.out⟩
        · intro key vr vj q f L' w4 hkey hq hp hR4 hg4 hs4 hen
          have hE : (fent kf (vr, vj, q, f)).2 = .agg #[vr, vj] := rfl
          rw [hE] at hen ⊢
          have hAp := hAt.out _ hq
          obtain ⟨hrw, hjw⟩ := hTU.out _ hq
          simp only at hrw hjw
          have hX4 := hide (ext_grown hX.out hg4 (fun z hz => by obtain rfl := Option.some.inj hz; exact hrle2))
          have hx2 := hx.out
          rw [sumT_perm _ hp, List.map_cons, List.sum_cons] at hx2
          simp only at hx2
          have hlen : L'.length + 1 = L.length := by rw [hp.length_eq]; rfl
          have hfU : (f.length : Int) ≤ 1000000000 := by
            refine Int.le_trans ?_ hU6
            obtain ⟨l1, l2, e2⟩ := List.append_of_mem hq
            have p1 := lenT_pos l1
            have p2 := lenT_pos l2
            unfold lenT at *
            rw [e2, List.map_append, List.sum_append, List.map_cons, List.sum_cons]
            simp only
            omega
          obtain ⟨VA, vcap, rfl⟩ := (show ∃ A cap, vr = .slice A q.length cap by obtain ⟨A, cap, e, _⟩ := hrw; exact ⟨A, cap, e⟩)
          obtain ⟨JA, jcap, rfl, hjl, hjm, -⟩ := jw_form hjw
          have cB := cell_later hX4.out hc0.out
          have cBl := block_lt_of_cell cB
          haveI : In B w4 := ⟨cBl⟩
          obtain ⟨wa, hwa⟩ : ∃ wa, wa = w4.alloc (.cells #[.slice VA q.length vcap, .slice JA f.length jcap] 128) := ⟨_, rfl⟩
          have hXa : Ext w wa := by rw [hwa]; exact hX4.out.alloc _
          obtain ⟨N, hN⟩ : ∃ N, N = lenAt kf T (.slice VA q.length vcap, .slice JA f.length jcap, q, f) := ⟨_, rfl⟩
          rw [← hN] at hAp hx2
          obtain ⟨v1, JB, jc, hlk0⟩ : ∃ v1 JB jc, ∀ g : GW wa, (Instr.lookup 117 (.map (some mb)) key false).run Tryz.prog g.val = .ok (.agg #[v1, .slice JB N jc]) g.val := by
            have hz : ∀ w', (zeroValue 128).run Tryz.prog w' = .ok (.agg #[.slice none 0 0, .slice none 0 0]) w' := fun _ => by kernel_rfl
            have key1 : ∀ g : GW wa, (Instr.lookup 117 (.map (some mb)) key false).run Tryz.prog g.val = .ok (((getM (fent kf) T (fent kf (.slice VA q.length vcap, .slice JA f.length jcap, q, f)).1).map fun q => (fent kf q).2).getD (.agg #[.slice none 0 0, .slice none 0 0])) g.val := fun g => (hM.out.kept (ext_by (hXa.trans g.grown)) (by simp)).lookup fnKey Tryz.underlying117 (hz _) hkey
            unfold lenAt at hN
            cases hgm : getM (fent kf) T (fent kf (.slice VA q.length vcap, .slice JA f.length jcap, q, f)).1 with
            | none =>
              rw [hgm] at hN key1
              exact ⟨.slice none 0 0, none, 0, fun g => by rw [hN]; exact key1 g⟩
            | some q2 =>
              rw [hgm] at hN key1
              have hmem := List.mem_of_find?_eq_some hgm
              obtain ⟨J2, c2, e2, -⟩ := jw_form (hTm.out q2 hmem)
              exact ⟨q2.1, J2, c2, fun g => by rw [hN, ← e2]; exact key1 g⟩
          have hfd : ∀ w' : World, (Instr.field 128 (.agg #[v1, .slice JB N jc]) 1).run Tryz.prog w' = .ok (.slice JB N jc) w' := fun _ => by first | kernel_rfl | simp [go_sem]
          have hRn := hide (show Rgv wa Tryz.prog 9 (fent kf) ob r2 n2 U L' by rw [hwa]; exact hR4.kept (World.grownBy_alloc w4 _ none) (by simp) (by simp))
          have hlk := hlk0
          rw [hwa] at hlk
          have hxn := hide (show x + ((f.length : Int) - N) + (L'.map fun p => (p.2.2.2.length : Int) - lenAt kf T p).sum = R by omega)
          replace hXa := hide hXa
          replace hwa := hide hwa
          clear hlk0 hs4 hkey hq hp hR4 hg4 hrw hjw hx hRv hTU hE hx2 hN hAt
          have hxb1 : x ≤ 1000001000000 * 1000000 ∧ -(1000001000000 * 1000000) ≤ x := by omega
          go_wp2_with fail
          refine wp_region_gw (by kernel_rfl) (by kernel_rfl) ?_
          repeat (go_big_quiet_step (fail))
          refine wpQuiet_nil ?_
          intro g
          go_wp2_with fail
          go_roundg L'.length
          case measure => omega
          case rel => exact ⟨x + ((f.length : Int) - N), L', by go_num, rfl, hxn, by omega, (by have := hRn.out; rw [hwa.out] at this; exact this.kept (ext_by g.grown) (by simp) (by simp)), (by have := hXa.out; rw [hwa.out] at this; exact this.trans g.grown)⟩
    · intro key vr vj q f L' w1 hkey hq hp hR1 hg1 hs1 hen
      have hE : (fent kf (vr, vj, q, f)).2 = .agg #[vr, vj] := rfl
      rw [hE] at hen ⊢
      obtain ⟨hrw, hjw⟩ := hT.out _ hq
      simp only at hrw hjw
      have hX1 := hide (ext_grown hX.out hg1 (fun z hz => by obtain rfl := Option.some.inj hz; exact hrle))
      have hbL : lenT L = f.length + lenT L' := by unfold lenT; rw [sumT_perm _ hp]; simp
      have hy2 := hy.out
      rw [hbL] at hy2
      have hpos := lenT_pos L'
      have hlen : L'.length + 1 = L.length := by rw [hp.length_eq]; rfl
      obtain ⟨VA, vcap, rfl⟩ := (show ∃ A cap, vr = .slice A q.length cap by obtain ⟨A, cap, e, _⟩ := hrw; exact ⟨A, cap, e⟩)
      obtain ⟨JA, jcap, rfl, hjl, hjm, -⟩ := jw_form hjw
      have hyf : y + f.length ≤ 1000000 := by omega
      have hR2 := hide (hR1.kept (World.grownBy_alloc w1 (.cells #[.slice VA q.length vcap, .slice JA f.length jcap] 128) none) (by simp) (by simp))
      have hyn := hide (show y + f.length + lenT L' = lenT T by omega)
      clear hkey hq hp hR1 hg1 hbL hrw hjw hy hRv hT hE hy2
      go_wp2_with fail
      go_roundg L'.length
      case measure => omega
      case rel => exact ⟨y + f.length, L', by go_num, rfl, by omega, hyn, hR2, hX1.out.alloc _⟩
end Go.Proofs.YtobmjcehgpmfgaaGreat

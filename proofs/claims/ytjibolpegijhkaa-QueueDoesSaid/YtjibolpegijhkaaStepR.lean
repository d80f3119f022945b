/-
  A helper of ours: no claim of its own. Layer 9 (step): the document's side: places, what is told by values, jumps put together.
-/
import Derived.Test.YtjibolpegijhkaaStepE
import Derived.Test.YtjibolpegijhkaaReg
import Derived.Test.YtjibolpegijhkaaReg3
set_option linter.unusedVariables false
set_option linter.unusedSimpArgs false
namespace Go.Proofs.Ytjibolpegijhkaa
open Go.RowKit
attribute [local go_sem] GW.cell GW.frozen In.eq_true In.le_true In.ne In.ne' In.ne_add In.ne_add' In.lt_add Upto.le_true Upto.le_add Upto.lt_add
/-- Whole numbers as cells. -/
def zc (l : List Int) : List Value := l.map fun x => .int .i64 x
theorem zc_len (l : List Int) : (zc l).length = l.length := by unfold zc; rw [List.length_map]
theorem zc_append (l m : List Int) : zc (l ++ m) = zc l ++ zc m := by simp [zc]
abbrev Zw (w : World) (S : List Nat) (v : Value) (l : List Int) : Prop := Sl w S 1 v l.length (zc l)
abbrev OwnZ (w : World) (base : Nat) (v : Value) (l : List Int) : Prop := w.ownsRow base 3 1 v l.length (zc l)
theorem zw_form {w : World} {S : List Nat} {v : Value} {l : List Int} (h : Zw w S v l) : ∃ A cap, v = .slice A l.length cap ∧ l.length ≤ cap ∧ cap ≤ maxLen ∧
    ∀ (i : Nat) (x : Int), l[i]? = some x → ∃ b o, A = some ⟨b, o, none⟩ ∧ b ∉ S ∧ b < w.heap.size ∧ w.cell? ⟨b, o + i, none⟩ = some (.int .i64 x) := by
  obtain ⟨A, cap, rfl, h1, h2, h3, h4⟩ := h
  refine ⟨A, cap, rfl, h1, h2, fun i x hx => ?_⟩
  have hg : (zc l)[i]? = some (.int .i64 x) := by simp [zc, hx]
  rcases h4 with h4 | ⟨b, o, rfl, hb, hc⟩
  · rw [h4] at hg; cases hg
  · have c0 := hc _ _ hg
    exact ⟨b, o, rfl, hb, block_lt_of_cell c0, c0⟩
theorem tZ : ElemT Try.prog 53 3 (.int .i64 0) 1 8 := ElemT.mk' Try.underlying53 (by kernel_rfl) rfl (by omega)
theorem own_appZ {w : World} {B : Nat} {v : Value} {l : List Int} {x : Int} (h : w.ownsRow B 3 1 v (l.length + 1) (zc l ++ [.int .i64 x])) : OwnZ w B v (l ++ [x]) := by
  unfold OwnZ; rw [List.length_append, zc_append]; exact h
theorem own_zw {w : World} {B : Nat} {v : Value} {l : List Int} (h : OwnZ w B v l) : Zw w [] v l := Sl.own h (by simp)
theorem src_z {P : Program} {tx e' : TypeId} (hk : P.underlying tx = some (.slice e')) (w : World) (B : Nat) (hB : B = w.heap.size) (x : Int) (E : TypeId) : Src P 1 tx (.slice (some ⟨B, 0, none⟩) 1 1) 1 [.int .i64 x] (w.alloc (.cells #[.int .i64 x] E)) := by
  subst hB; exact src_one hk w (.int .i64 x) E rfl
/-- What is in hand while a place is looked for. -/
def wi (p : Bool) (t : Int) (m : List Int) : List Int := if p then m.filter (fun x => decide (x < t)) ++ t :: m.filter (fun x => decide (t < x)) else m
theorem wi_len (p : Bool) (t : Int) (m : List Int) : (wi p t m).length ≤ 2 * m.length + 1 := by
  unfold wi
  split
  · have h1 := List.length_filter_le (fun x => decide (x < t)) m
    have h2 := List.length_filter_le (fun x => decide (t < x)) m
    simp only [List.length_append, List.length_cons]; omega
  · omega
theorem all_lt {m : List Int} {t : Int} (h : ∀ x ∈ m, x < t) : m.filter (fun x => decide (x < t)) = m ∧ m.filter (fun x => decide (t < x)) = [] := by
  constructor
  · exact List.filter_eq_self.2 fun y hy => by simpa using h y hy
  · exact List.filter_eq_nil_iff.2 fun y hy => by have := h y hy; simp; omega
theorem lt_of_asc {l : List Int} (h : l.Pairwise (· < ·)) {k : Nat} {x : Int} (hx : l[k]? = some x) : ∀ y ∈ l.take k, y < x := by
  have e : l = l.take k ++ x :: l.drop (k + 1) := by rw [← jdrop_cons hx, List.take_append_drop]
  rw [e] at h
  intro y hy
  exact (List.pairwise_append.1 h).2.2 y hy x (by simp)
theorem places_len (f g : List Jp) : (plc (plc [] f) g).length ≤ f.length + g.length := by
  have h1 := plc_length f [] Asc.nil'
  have h2 := plc_length g (plc [] f) (plc_asc _ _ Asc.nil')
  simp only [List.length_nil] at h1
  omega
theorem plc_next {l : List Jp} {k : Nat} {x : Jp} (a : List Int) (hx : l[k]? = some x) : plc a (l.take (k + 1)) = ins (plc a (l.take k)) x.1 := by rw [take_snoc hx, plc_snoc]
theorem buildJ1 (x : Jp) (w : World) : (Instr.buildSlice 30 1 #[(0, jm x)]).run Try.prog w = .ok (.slice (some ⟨w.heap.size, 0, none⟩) 1 1) (w.alloc (.cells #[.int .i64 x.1, .int .i64 x.2] 27)) := by
  simp [go_sem]
def oneJ (x : Jp) : Fact := .st (fun u w => Jw w [] u [x]) (fun _ _ _ h k => Sl.ext h k)
theorem oneJ_new (x : Jp) (w : World) : Jw (w.alloc (.cells #[.int .i64 x.1, .int .i64 x.2] 27)) [] (.slice (some ⟨w.heap.size, 0, none⟩) 1 1) [x] :=
  Sl.own (World.ownsRow_lit (base := w.heap.size) (e := 27) (size := 2) w #[.int .i64 x.1, .int .i64 x.2] 1 (Nat.le_refl _) (by decide) rfl) (by simp)
theorem neq_jmp (a b c d : Int) (w : World) : (binOp .neq 27 (jm (a, b)) (jm (c, d))).run Try.prog w = .ok (.bool (!(a == c && b == d))) w := by
  by_cases h1 : a = c <;> by_cases h2 : b = d <;> simp [go_sem, h1, h2]
theorem neq_jsame (x : Jp) (w : World) : (binOp .neq 27 (jm x) (jm x)).run Try.prog w = .ok (.bool false) w := by
  rw [neq_jmp]; simp
theorem neq_jother {x y : Jp} (h : ¬ x = y) (w : World) : (binOp .neq 27 (jm x) (jm y)).run Try.prog w = .ok (.bool true) w := by
  rw [neq_jmp]
  congr 2
  rw [Bool.not_eq_true', ← Bool.not_eq_true]
  intro h'
  simp only [Bool.and_eq_true, beq_iff_eq] at h'
  exact h (Prod.ext h'.1 h'.2)
theorem cons_eq_decJ {x y : Jp} (a b : List Jp) (h : x = y) : decide (x :: a = y :: b) = decide (a = b) := by
  subst h; simp
theorem cons_ne_decJ {x y : Jp} (a b : List Jp) (h : ¬ x = y) : decide (x :: a = y :: b) = false := by
  rw [decide_eq_false_iff_not]; intro e; injection e with e1 _; exact h e1
set_option maxHeartbeats 4000000 in
set_option maxRecDepth 100000 in
theorem refStepSame_c (l m : List Jp) (v u : Value) (w : World) (hl : Jw w [] v l) (hm : Jw w [] u m) : Calls Try.prog 17 #[v, u] w fun e w' => e = .returned (.bool (decide (l = m))) ∧ Ext w w' := by
  obtain ⟨A, cap, rfl, hlc, hlm, hat⟩ := jw_form hl
  obtain ⟨B, cap2, rfl, hmc, hmm, hbt⟩ := jw_form hm
  unfold maxLen at hlm hmm
  clear hl hm
  replace hat := hide hat
  replace hbt := hide hbt
  obtain ⟨R, hR⟩ : ∃ R, R = decide (l = m) := ⟨_, rfl⟩
  rw [← hR]
  by_cases hn : l.length = m.length
  · replace hR := hide hR
    have hnI : (l.length : Int) = m.length := by omega
    obtain ⟨n, hln⟩ : ∃ n, n = l.length := ⟨_, rfl⟩
    have hmn : n = m.length := by omega
    rw [← hln] at hlc ⊢
    rw [← hmn] at hmc ⊢
    have hlI := hide hln
    have hmI := hide hmn
    clear hn hnI hln hmn
    go_enter Try.func17, Try.ntmps17
    go_wp2_with fail
    go_loopg [5] n (fun gh i wr => ∃ (k : Nat), i = .int .i64 k ∧ k + gh = n ∧ Hid (R = decide (l.drop k = m.drop k)) ∧ Ext w wr)
    case atStart => exact ⟨0, rfl, by omega, hR, Ext.refl w⟩
    case round =>
      obtain ⟨k, rfl, hk, hRk, hX⟩ := hrel
      clear hR
      by_cases hlt : k < n
      · obtain ⟨x, hx⟩ : ∃ x, l[k]? = some x := ⟨_, List.getElem?_eq_getElem (by have := hlI.out; omega)⟩
        obtain ⟨y, hy⟩ : ∃ y, m[k]? = some y := ⟨_, List.getElem?_eq_getElem (by have := hmI.out; omega)⟩
        obtain ⟨b, o, rfl, -, hb, c0, c1⟩ := hat.out k x hx
        obtain ⟨b', o', rfl, -, hb', d0, d1⟩ := hbt.out k y hy
        have k0 := jcell_later hX c0
        have k1 := jcell_later hX c1
        have j0 := jcell_later hX d0
        have j1 := jcell_later hX d1
        have hbr : b < wr.heap.size := block_lt_of_cell k0
        have hbr' : b' < wr.heap.size := block_lt_of_cell j0
        have hR2 := hRk.out
        rw [jdrop_cons hx, jdrop_cons hy] at hR2
        obtain ⟨xp, xn⟩ := x
        obtain ⟨yp, yn⟩ := y
        clear c0 c1 d0 d1 hat hbt hx hy hlI hmI hRk
        by_cases hxy : ((xp, xn) : Jp) = (yp, yn)
        · rw [cons_eq_decJ _ _ hxy] at hR2
          replace hR2 := hide hR2
          cases hxy
          have hns := neq_jsame (xp, xn)
          go_wp2_with fail
          go_quiet (fail)
          go_wp2_with fail
          go_roundg (n - (k + 1))
          case measure => omega
          case rel => exact ⟨k + 1, by go_num, by omega, hR2, hX.drewN _⟩
        · rw [cons_ne_decJ _ _ hxy] at hR2
          replace hR2 := hide hR2
          have hns := neq_jother hxy
          replace hxy := hide hxy
          go_wp2_with fail
          go_quiet (fail)
          go_wp2_with fail
          go_returns
          exact ⟨by rw [hR2.out]; rfl, hX.drewN _⟩
      · have hk' : k = n := by omega
        have hge : (n : Int) ≤ k := by omega
        have hR2 := hRk.out
        rw [List.drop_eq_nil_of_le (by have := hlI.out; omega), List.drop_eq_nil_of_le (by have := hmI.out; omega)] at hR2
        replace hR2 : R = true := by simpa using hR2
        replace hR2 := hide hR2
        replace hk' := hide hk'
        go_wp2_with fail
        go_returns
        exact ⟨by rw [hR2.out]; rfl, hX⟩
  · have hR2 : R = false := by rw [hR, decide_eq_false_iff_not]; rintro rfl; exact hn rfl
    replace hR2 := hide hR2
    have hnI : ¬ (l.length : Int) = m.length := by omega
    clear hR hn
    go_enter Try.func17, Try.ntmps17
    go_wp2_with fail
    go_returns
    exact ⟨by rw [hR2.out]; rfl, Ext.refl w⟩
theorem tell_next (v : Int → Int) {ps : List Int} {k : Nat} {p : Int} (hp : ps[k]? = some p) (was : Int) : tell v (ps.drop k) was = if v p = was then tell v (ps.drop (k + 1)) (v p) else (p, v p - was) :: tell v (ps.drop (k + 1)) (v p) := by
  rw [jdrop_cons hp, tell]
end Go.Proofs.Ytjibolpegijhkaa

/-
  A helper of ours: no claim of its own. Layer 5 (value): values held against one another by Go's own ==.
-/
import Derived.Test.YtljkneajdndgjabGreatExpA
import Derived.Test.YtljkneajdndgjabGreatRowA
import Derived.Deep.LoopGhost
import Derived.BigQuiet
import Derived.Lib.AppendZerosOnto
import Derived.Lib.LazyBuf
import Derived.WalkLawsBesides
import Derived.Test.YtljkneajdndgjabGreatReg
import Derived.Test.YtljkneajdndgjabGreatSchS
import Derived.Test.YtljkneajdndgjabGreatRows
import Derived.Handy
import Derived.Lib.IndexBytes
import Derived.WalkSpells
import Derived.Lib.ConvBytes
set_option linter.unusedVariables false
set_option linter.unusedSimpArgs false
namespace Go.Proofs.YtljkneajdndgjabGreat
open Go.RowKit
attribute [local go_sem] GW.cell GW.frozen In.eq_true In.le_true In.ne In.ne' In.ne_add In.ne_add' In.lt_add Upto.le_true Upto.le_add Upto.lt_add
theorem fE_bad {o : Vl} {h : Int} (r : List Vl) (hb : okW o = false) : fE h (o :: r) = 18 := by rw [fE, if_neg (by rw [hb]; simp)]
theorem fE_more {o : Vl} {h : Int} (r : List Vl) (hb : ¬ tkI o.1 ≤ h) : fE h (o :: r) = 18 := by rw [fE, if_neg (fun x => hb x.2)]
theorem fE_go {o : Vl} {h : Int} (r : List Vl) (hb : okW o = true) (hk : tkI o.1 ≤ h) : fE h (o :: r) = fE (h + 1 - tkI o.1) r := by rw [fE, if_pos ⟨hb, hk⟩]
set_option maxHeartbeats 2000000 in
set_option maxRecDepth 100000 in
theorem form_c (l : List Vl) (v : Value) (w : World) (h : Rw w [] v l) : Calls Tryz.prog 32 #[v] w fun e w' => e = .returned (.int .i64 (formE l)) ∧ Ext w w' := by
  obtain ⟨A, cap, rfl, hl, hm, hat⟩ := rw_form h
  unfold maxLen at hm
  replace hat := hide hat
  clear h
  by_cases h64 : 64 < l.length
  · have e : formE l = 6 := if_pos h64
    rw [e]
    have hI : (64 : Int) < (l.length : Int) := by omega
    clear e h64
    go_enter Tryz.func32, Tryz.ntmps32
    go_wp2_with fail
    go_returns
    exact ⟨rfl, Ext.refl w⟩
  · have hI : ¬ (64 : Int) < (l.length : Int) := by omega
    obtain ⟨R, hR⟩ : ∃ R, R = formE l := ⟨_, rfl⟩
    rw [← hR]
    rw [show formE l = fE 0 l from if_neg h64] at hR
    replace hR := hide hR
    clear h64
    go_enter Tryz.func32, Tryz.ntmps32
    go_wp2_with fail
    go_loopg [3, 11] l.length (fun gh hv i wr => ∃ (k : Nat) (q : Int), hv = .int .i64 q ∧ i = .int .i64 k ∧ k + gh = l.length ∧ 0 ≤ q ∧ q ≤ k ∧ Hid (R = fE q (l.drop k)) ∧ Ext w wr)
    case atStart => exact ⟨0, 0, rfl, rfl, by omega, by omega, by omega, hR, Ext.refl w⟩
    case round =>
      obtain ⟨k, q, rfl, rfl, hk, hq0, hqk, hRk, hX⟩ := hrel
      clear hR
      by_cases hlt : k < l.length
      · obtain ⟨x, hx⟩ : ∃ x, l[k]? = some x := ⟨_, List.getElem?_eq_getElem hlt⟩
        obtain ⟨b, o, rfl, -, hb, c0, c1, c2⟩ := hat.out k x hx
        have k0 := cell_later hX c0
        have k1 := cell_later hX c1
        have k2 := cell_later hX c2
        have hbr : b < wr.heap.size := block_lt_of_cell k0
        have hin := hide (fun w => wordMay_c x.1 x.2.1 x.2.2 w)
        have htk := hide (fun w => takes_c x.1 w)
        have hR2 := hRk.out
        rw [drop_cons hx] at hR2
        have hcs := @okW_tk x
        have hmore := hide (fun hb => @fE_more x q (l.drop (k + 1)) hb)
        have hgo := hide (fun h1 h2 => @fE_go x q (l.drop (k + 1)) h1 h2)
        have hbad := hide (fun hb => @fE_bad x q (l.drop (k + 1)) hb)
        obtain ⟨xk, xn, xs⟩ := x
        clear c0 c1 c2 hat hx
        simp only at hin htk hcs hmore hgo
        generalize fE q ((xk, xn, xs) :: l.drop (k + 1)) = F at *
        generalize okW (xk, xn, xs) = ok at *
        generalize tkI xk = t at *
        cases ok
        · have hF := hide (hR2.trans (hbad.out rfl))
          clear hR2
          go_wp2_with (first | (go_at_call 66; (with_reducible refine seq_gw (hin.out _) ?_); intro g))
          go_returns
          exact ⟨by rw [hF.out]; rfl, (hX.alloc _).trans g.grown⟩
        · have ht3 := hcs rfl
          have ht0 : 0 ≤ t := by omega
          have ht2 : t ≤ 2 := by omega
          clear hcs ht3
          by_cases hle : t ≤ q
          · have hF := hide (hR2.trans (hgo.out rfl hle))
            have hle' : ¬ q < t := by omega
            clear hR2
            go_wp2_with (first | (go_at_call 66; (with_reducible refine seq_gw (hin.out _) ?_); intro g; clear hin) | (go_at_call 67; (with_reducible refine seq_gw' (htk.out _) ?_); intro g))
            go_roundg (l.length - (k + 1))
            case measure => omega
            case rel => exact ⟨k + 1, q + 1 - t, by go_num, by go_num, by omega, by omega, by omega, hF, (hX.alloc _).trans g.grown⟩
          · have hF := hide (hR2.trans (hmore.out hle))
            have hle' : q < t := by omega
            clear hR2
            go_wp2_with (first | (go_at_call 66; (with_reducible refine seq_gw (hin.out _) ?_); intro g; clear hin) | (go_at_call 67; (with_reducible refine seq_gw' (htk.out _) ?_); intro g))
            go_returns
            exact ⟨by rw [hF.out]; rfl, (hX.alloc _).trans g.grown⟩
      · have hk' : k = l.length := by omega
        have hge : (l.length : Int) ≤ k := by omega
        have hR2 := hRk.out
        rw [hk', List.drop_length] at hR2
        replace hR2 := hide hR2
        replace hk' := hide hk'
        by_cases h1 : q = 1
        · subst h1
          go_wp2_with fail
          go_returns
          exact ⟨by rw [hR2.out]; rfl, hX⟩
        · have hF : Hid (R = 18) := by show R = 18; rw [hR2.out]; unfold fE; rw [if_neg h1]
          have h1' : (q != 1) = true := by simpa using h1
          clear h1 hR2
          go_wp2_with fail
          go_returns
          exact ⟨by rw [hF.out]; rfl, hX⟩
end Go.Proofs.YtljkneajdndgjabGreat
set_option linter.unusedVariables false
set_option linter.unusedSimpArgs false
namespace Go.Proofs.YtljkneajdndgjabGreat
open Go.RowKit
attribute [-go_sem] sliced
attribute [local go_sem] sliced_eq
attribute [local go_sem] GW.cell GW.frozen In.eq_true In.le_true In.ne In.ne' In.ne_add In.ne_add' In.lt_add Upto.le_true Upto.le_add Upto.lt_add
end Go.Proofs.YtljkneajdndgjabGreat
set_option linter.unusedVariables false
set_option linter.unusedSimpArgs false
namespace Go.Proofs.YtljkneajdndgjabGreat
open Go.RowKit
attribute [local go_sem] GW.cell GW.frozen In.eq_true In.le_true In.ne In.ne' In.ne_add In.ne_add' In.lt_add Upto.le_true Upto.le_add Upto.lt_add
end Go.Proofs.YtljkneajdndgjabGreat
set_option linter.unusedVariables false
set_option linter.unusedSimpArgs false
namespace Go.Proofs.YtljkneajdndgjabGreat
open Go.RowKit

section
variable {P : Program} {ops : Array Oper} {Φ : Nat → Value → World → Prop} {Q : Exit → Act → World → Prop} {a : Act} {W : World} {G : World → World → Prop} {J : (Nat → Bool) → World → Prop} {K : List Nat}

def done (Lf : Nat → Bool) (i : Nat) : Nat → Bool := fun j => if j = i then true else Lf j
structure RAt2 (ops : Array Oper) (Φ : Nat → Value → World → Prop) (G : World → World → Prop) (J : (Nat → Bool) → World → Prop) (a : Act) (W : World) (i : Nat) (Lf : Nat → Bool) (b : Act) (w : World) : Prop where
  ext : G W w
  defers : b.defers = a.defers
  size : b.tmps.size = a.tmps.size
  else_ : ∀ t, t ∉ dstsOf ops → b.tmps.getD t undef = a.tmps.getD t undef
  dep : ∀ j o d, depB ops i j = true → ops[j]? = some o → o.dst = some d → Φ j (b.tmps.getD d undef) w
  deps : ∀ j, depB ops i j = true → Lf j = true
  fresh : Lf i = false
  obj : J Lf w
structure RInv2 (ops : Array Oper) (Φ : Nat → Value → World → Prop) (G : World → World → Prop) (J : (Nat → Bool) → World → Prop) (a : Act) (W : World) (listed : Array Bool) (b : Act) (w : World) : Prop where
  ext : G W w
  defers : b.defers = a.defers
  size : b.tmps.size = a.tmps.size
  len : listed.size = ops.size
  else_ : ∀ t, t ∉ dstsOf ops → b.tmps.getD t undef = a.tmps.getD t undef
  fact : ∀ j o d, ops[j]? = some o → listed.getD j false = true → o.dst = some d → Φ j (b.tmps.getD d undef) w
  obj : J (fun j => listed.getD j false) w

/-- Facts that stay where all but the blocks of S stay. -/
inductive FactS (S : List Nat) where
  | is (v : Value)
  | st (p : Value → World → Prop) (h : ∀ v w w', p v w → Fr S w w' → p v w')
  | any
end
end Go.Proofs.YtljkneajdndgjabGreat
set_option linter.unusedVariables false
set_option linter.unusedSimpArgs false
namespace Go.Proofs.YtljkneajdndgjabGreat
open Go.RowKit
attribute [local go_sem] GW.cell GW.frozen In.eq_true In.le_true In.ne In.ne' In.ne_add In.ne_add' In.lt_add Upto.le_true Upto.le_add Upto.lt_add
/-- The same, while the list may grow: no part lies in the list's own block. -/
structure PartsS (w : World) (base : Nat) (v : Value) (us : List Value) (L : List (List Vl)) : Prop where
  own : w.ownsRow base 24 1 v us.length us
  len : us.length = L.length
  at_ : ∀ (i : Nat) (u : Value) (l : List Vl), us[i]? = some u → L[i]? = some l → Rw w v.ownBlock.toList u l
section
variable {w w' W : World} {base : Nat} {v v' : Value} {us : List Value} {L : List (List Vl)}
end
end Go.Proofs.YtljkneajdndgjabGreat
set_option linter.unusedVariables false
set_option linter.unusedSimpArgs false
namespace Go.Proofs.YtljkneajdndgjabGreat
open Go.RowKit
attribute [-go_sem] sliced
attribute [local go_sem] sliced_eq
attribute [local go_sem] GW.cell GW.frozen In.eq_true In.le_true In.ne In.ne' In.ne_add In.ne_add' In.lt_add Upto.le_true Upto.le_add Upto.lt_add
end Go.Proofs.YtljkneajdndgjabGreat
set_option linter.unusedVariables false
set_option linter.unusedSimpArgs false
namespace Go.Proofs.YtljkneajdndgjabGreat
open Go.RowKit
attribute [local go_sem] GW.cell GW.frozen In.eq_true In.le_true In.ne In.ne' In.ne_add In.ne_add' In.lt_add Upto.le_true Upto.le_add Upto.lt_add
end Go.Proofs.YtljkneajdndgjabGreat
set_option linter.unusedVariables false
set_option linter.unusedSimpArgs false
namespace Go.Proofs.YtljkneajdndgjabGreat
open Go.RowKit
theorem neq_val (k n k' m : Int) (s t : ByteArray) (w : World) : (binOp .neq 53 (val k n s) (val k' m t)).run Tryz.prog w = .ok (.bool (!(k == k' && (n == m && s.toList == t.toList)))) w := by
  by_cases h1 : k = k' <;> by_cases h2 : n = m <;> by_cases h3 : s.toList = t.toList <;> simp [go_sem, h1, h2, h3]
theorem toList_iff {s t : ByteArray} : s.toList = t.toList ↔ s = t := by
  rw [Lib.toList_data, Lib.toList_data]
  exact ⟨text_eq, fun h => by rw [h]⟩
theorem neq_same (k n : Int) (s : ByteArray) (w : World) : (binOp .neq 53 (val k n s) (val k n s)).run Tryz.prog w = .ok (.bool false) w := by
  rw [neq_val]; simp
end Go.Proofs.YtljkneajdndgjabGreat

/- may, quote and within of the statements: what they answer. -/
import Derived.Test.YthoeehgnkolgpaaDoorQuoteMath
import Derived.Test.YthoeehgnkolgpaaDoorBegun
import Derived.Deep.LoopGhost
import Derived.Deep.Light
import Derived.OwnWalk
namespace Go.Proofs.YthoeehgnkolgpaaDoor
open Go.RowKit

/-- append in the text's order, by its run. -/
theorem wpList_append_eq {P : Program} {w w' : World} {ops : Array Oper} {rest : List Oper} {o : Oper} {a : Act} {Q : Exit → Act → World → Prop} (hgd : o.guard = none) (s x : Operand) (t : TypeId)
    (ho : o.op = .call { callee := .builtin .append, args := #[s, x], argTypes := #[t, t] }) (v u v' : Value) (hs : a.eval s = v) (hx : a.eval x = u)
    (hrun : (Builtin.append_ #[t, t] o.type #[v, u]).run P w = .ok v' w') (h : wpList P ops Q rest (a.put o.dst v') w') : wpList P ops Q (o :: rest) a w := by
  refine wpList_plain hgd fun K hK => ?_
  unfold Oper.wp
  simp [execOp, ho, resolve, invoke, builtin, hs, hx, hrun, Result.andThen]
  exact hK _ _ h
theorem info5 : (Tryd.prog.info? 5).map (fun i => (i.zero, i.size, i.bytes)) = some (some (.int .u8 0), 1, 1) := by kernel_rfl
theorem grown_below {w w' : World} {K : Nat} {v : Value} {e : TypeId} {n : Nat} {xs : List Value} {o : Obj} (h : w.ownsRow K e 1 v n xs) (hK : K ≤ w.heap.size) (hg : (w.alloc o).grownBy w' v.ownBlock) : Below K w w' :=
  ⟨hg.os, hg.tape, hg.output, Nat.le_trans (by simp) hg.size, fun k hk => by
    rw [hg.block k (by simp; omega) (fun e => by have := (World.ownsRow.lt h k e.symm).1; omega)]
    exact Below.heap_alloc _ _ _ (Nat.lt_of_lt_of_le hk hK)⟩
theorem app_byte {w : World} {K n : Nat} {v : Value} {xs : List Value} (h : w.ownsRow K 5 1 v n xs) (x : Int) (hb : n + 1 ≤ 140737488355328) (hK : K ≤ w.heap.size) (ty : TypeId) :
    ∃ v' w', (Builtin.append_ #[40, 40] ty #[v, .slice (some ⟨w.heap.size, 0, none⟩) 1 1]).run Tryd.prog (w.alloc (.cells #[.int .u8 x] 5)) = .ok v' w' ∧ w'.ownsRow K 5 1 v' (n + 1) (xs ++ [.int .u8 x]) ∧ Below K w w' := by
  obtain ⟨i0, hi, hz0, hz1, hz2⟩ := info_parts info5
  obtain ⟨v', w', h1, h2, h3, _⟩ := run_append_own (P := Tryd.prog) (w := w.alloc (.cells #[.int .u8 x] 5)) K 40 ty 5 i0 (.int .u8 0) 1 1 Tryd.underlying40 hi hz0 hz1 hz2 rfl (by decide) v n xs (h.alloc _) ⟨w.heap.size, 0, none⟩ 1 1 [.int .u8 x] rfl
    (fun j u hj => by
      obtain ⟨hj1, hj2⟩ := List.getElem?_eq_some_iff.1 hj
      have : j = 0 := by simpa using hj1
      subst this
      rw [← hj2]
      simp [Addr.add])
    (fun u hu => by simp at hu; subst hu; rfl) (by have : maxLen = 9223372036854775807 := rfl; omega) (by omega) (by simp; omega)
  exact ⟨v', w', h1, h2, grown_below h hK h3⟩
theorem app_text {w : World} {K n : Nat} {v : Value} {xs : List Value} (h : w.ownsRow K 9 1 v n xs) (S : ByteArray) (hb : (n + 1) * 16 ≤ 140737488355328) (hK : K ≤ w.heap.size) (ty : TypeId) :
    ∃ v' w', (Builtin.append_ #[22, 22] ty #[v, .slice (some ⟨w.heap.size, 0, none⟩) 1 1]).run Tryd.prog (w.alloc (.cells #[.string S] 9)) = .ok v' w' ∧ w'.ownsRow K 9 1 v' (n + 1) (xs ++ [.string S]) ∧ Below K w w' := by
  obtain ⟨i0, hi, hz0, hz1, hz2⟩ := info_parts info9
  obtain ⟨v', w', h1, h2, h3, _⟩ := run_append_own (P := Tryd.prog) (w := w.alloc (.cells #[.string S] 9)) K 22 ty 9 i0 (.string ⟨#[]⟩) 1 16 Tryd.underlying22 hi hz0 hz1 hz2 rfl (by decide) v n xs (h.alloc _) ⟨w.heap.size, 0, none⟩ 1 1 [.string S] rfl
    (fun j u hj => by
      obtain ⟨hj1, hj2⟩ := List.getElem?_eq_some_iff.1 hj
      have : j = 0 := by simpa using hj1
      subst this
      rw [← hj2]
      simp [Addr.add])
    (fun u hu => by simp at hu; subst hu; rfl) (by have : maxLen = 9223372036854775807 := rfl; omega) hb (by simp; omega)
  exact ⟨v', w', h1, h2, grown_below h hK h3⟩
theorem cells_one (b : UInt8) (l : List UInt8) : Lib.byteCells l ++ [Value.int .u8 (b.toNat : Int)] = Lib.byteCells (l ++ [b]) := by simp [Lib.byteCells]

set_option maxHeartbeats 3200000 in
set_option maxRecDepth 100000 in
theorem may_any (s : ByteArray) (w : World) (hmax : s.size ≤ 140737488355328) :
    Calls Tryd.prog 19 #[.string s] w fun e w' => e = .returned (.string ⟨(mayM s.data.toList).toArray⟩) ∧ Below w.heap.size w w' := by
  obtain ⟨ANS, hANS⟩ : ∃ A, A = mayM s.data.toList := ⟨_, rfl⟩
  rw [← hANS]
  have HANS := hide hANS
  clear hANS
  go_enter Tryd.func19, Tryd.ntmps19
  go_wp2_with fail
  go_loopg [3, 4] s.size (fun q s3 s4 wx => ∃ (i : Nat) (acc : List UInt8) (a : Option Addr) (c : Nat), i ≤ s.size ∧ q = s.size - i ∧ s3 = .slice a acc.length c ∧ s4 = .int .i64 i ∧ Hid (wx.ownsRow w.heap.size 5 1 (.slice a acc.length c) acc.length (Lib.byteCells acc)) ∧ Below w.heap.size w wx ∧ acc.length ≤ 40 ∧ Hid (acc ++ ((s.data.toList.drop i).filter okB).take (40 - acc.length) = ANS))
  case atStart => exact ⟨0, [], none, 0, Nat.zero_le _, rfl, rfl, rfl, hide (World.ownsRow_nil _ _ _ _), Below.refl _ _, by simp, hide (by rw [HANS.out]; rfl)⟩
  case round =>
    clear HANS
    obtain ⟨i, acc, a, c, hi, rfl, rfl, rfl, hO, hbw, h40, hr⟩ := hrel
    by_cases hlt : i < s.size
    · have hz : (i : Int) < (s.size : Int) := by omega
      by_cases hac : acc.length < 40
      · have haz : (acc.length : Int) < 40 := by omega
        obtain ⟨b, hb⟩ : ∃ b, s[i]'hlt = b := ⟨_, rfl⟩
        have hst : Hid (acc ++ ((b :: s.data.toList.drop (i + 1)).filter okB).take (40 - acc.length) = ANS) := hide (by rw [← hr.out, drop_at s i hlt, hb])
        clear hr
        have h256 := b.toNat_lt
        have hkeep : okB b = false → Hid (acc ++ ((s.data.toList.drop (i + 1)).filter okB).take (40 - acc.length) = ANS) := fun h => hide (by rw [← hst.out, List.filter_cons, h]; rfl)
        by_cases hlo : 32 ≤ b.toNat
        · have zlo : (32 : Int) ≤ (b.toNat : Int) := by omega
          by_cases hhi : b.toNat < 127
          · have zhi : (b.toNat : Int) < 127 := by omega
            have hok : okB b = true := by simp [okB, hlo, hhi]
            obtain ⟨v', w', hrun, hown, hbel⟩ := app_byte hO.out (b.toNat : Int) (by omega) hbw.size 40
            rw [cells_one] at hown
            obtain ⟨a', c', rfl⟩ := own_form hown
            have hst2 : Hid ((acc ++ [b]) ++ ((s.data.toList.drop (i + 1)).filter okB).take (40 - (acc ++ [b]).length) = ANS) := hide (by
              rw [← hst.out, List.filter_cons, hok]
              simp only [if_true, List.length_append, List.length_cons, List.length_nil, List.append_assoc]
              congr 1
              rw [show 40 - acc.length = (40 - (acc.length + (0 + 1))) + 1 by omega, List.take_succ_cons]
              rfl)
            have hO2 : Hid (w'.ownsRow w.heap.size 5 1 (.slice a' (acc ++ [b]).length c') (acc ++ [b]).length (Lib.byteCells (acc ++ [b]))) := hide (by rw [List.length_append]; exact hown)
            have H1 := hide hrun
            have B2 := hbw.trans hbel
            clear hrun hown hst hkeep hO hok hbel
            go_wp2_with (at_builtin; refine wpList_append_eq rfl _ _ 40 rfl _ _ _ (by rfl) (by rfl) (unhide H1) ?_)
            go_roundg (s.size - (i + 1))
            case measure => go_light; omega
            case rel => go_light; exact ⟨i + 1, acc ++ [b], a', c', by omega, rfl, by rw [List.length_append]; rfl, by simp, hO2, B2, by rw [List.length_append]; simp; omega, hst2⟩
          · have zhi : ¬ (b.toNat : Int) < 127 := by omega
            have hst2 := hkeep (by simp [okB]; omega)
            clear hst hkeep
            go_wp2_with fail
            go_roundg (s.size - (i + 1))
            case measure => go_light; omega
            case rel => go_light; exact ⟨i + 1, acc, a, c, by omega, rfl, rfl, by simp, hO, hbw, h40, hst2⟩
        · have zlo : ¬ (32 : Int) ≤ (b.toNat : Int) := by omega
          have hst2 := hkeep (by simp [okB]; omega)
          clear hst hkeep
          go_wp2_with fail
          go_roundg (s.size - (i + 1))
          case measure => go_light; omega
          case rel => go_light; exact ⟨i + 1, acc, a, c, by omega, rfl, rfl, by simp, hO, hbw, h40, hst2⟩
      · have haz : ¬ (acc.length : Int) < 40 := by omega
        have hfin : Hid (acc = ANS) := hide (by rw [← hr.out, show 40 - acc.length = 0 by omega]; simp)
        have hbk := back_own hO.out (W := wr) rfl
        clear hr
        go_wp2_with fail
        go_ret
        exact ⟨by rw [← hfin.out]; rfl, hbw⟩
    · have hz : ¬ (i : Int) < (s.size : Int) := by omega
      have hfin : Hid (acc = ANS) := hide (by rw [← hr.out, drop_end s i hlt]; simp)
      have hbk := back_own hO.out (W := wr) rfl
      clear hr
      go_wp2_with fail
      go_ret
      exact ⟨by rw [← hfin.out]; rfl, hbw⟩
end Go.Proofs.YthoeehgnkolgpaaDoor

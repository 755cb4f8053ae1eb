/- What Words answers of any line. -/
import Derived.Test.YthoeehgnkolgpaaDoorWords4
import Derived.WalkSmall
import Derived.Lib.TrimUEq
import Derived.Deep.Onto
namespace Go.Proofs.YthoeehgnkolgpaaDoor
open Go.RowKit

def partF : Nat → PSt → List UInt8 → Option PSt
  | 0, s, _ => some s
  | f + 1, s, l => if l = [] then some s else if mayStandR (Lib.decodeL l).1 = true then (match stp s.1 s.2.1 s.2.2 (Lib.decodeL l).1 with
    | some s' => partF f s' (l.drop (Lib.decodeL l).2)
    | none => none) else none
def ansM : Option PSt → Option (List (List UInt8))
  | some s => (match fin s with
    | some ws => if ws.length ≤ 16 then some ws else none
    | none => none)
  | none => none
/-- The words of a line; none: it is refused. -/
def wordsM (l : List UInt8) : Option (List (List UInt8)) :=
  if l.length ≤ 1024 ∧ Lib.validD l = true then ansM (partF l.length (0, [], []) l) else none
theorem decodeN_le (n b0 b1 b2 b3 : Nat) (hn : 1 ≤ n) : (Lib.decodeN n b0 b1 b2 b3).2 ≤ n := by
  unfold Lib.decodeN
  repeat' split
  all_goals (simp only; omega)
theorem decode_within (s : ByteArray) (pos : Nat) (h : pos < s.size) : pos + (Utf8.decode s pos).2 ≤ s.size := by
  rw [Lib.decode_at]
  have := decodeN_le (s.size - pos) (s.get! pos).toNat (s.get! (pos + 1)).toNat (s.get! (pos + 2)).toNat (s.get! (pos + 3)).toNat (by omega)
  omega
theorem encodeRune_le (r : Int) : (Lib.encodeRune r).length ≤ 4 := by have := Lib.runeCells_le r; rw [Lib.runeCells_length] at this; exact this.2
theorem stp_le {a r : Nat} {wd : List UInt8} {ws : List (List UInt8)} {s : PSt} (h : stp a wd ws r = some s) : s.1 ≤ 4 ∧ s.2.1.length ≤ wd.length + 4 ∧ s.2.2.length ≤ ws.length + 1 := by
  have he := encodeRune_le r
  unfold stp bareS at h
  repeat' split at h
  all_goals first
    | (cases h; done)
    | (cases h; simp; try omega)
theorem Part.iterAt {B K a : Nat} {wd : List UInt8} {ws : List (List UInt8)} {vw vs : Value} {w : World} (h : Part B K a wd ws vw vs w) {k : Nat} (hk : k < K) (hn : k ≠ B) (s : ByteArray) (p : Nat) : Part B K a wd ws vw vs (w.iterAt k s p) :=
  ⟨by rw [Lib.iterAt_other _ _ _ _ _ (fun e => hn e.symm)]; exact h.box, h.low, by rw [Lib.iterAt_size]; exact h.top, ownsRow_iterAt h.ow hk s p, ownsRow_iterAt h.os hk s p⟩
theorem Kp.below {B K : Nat} {w w' : World} (h : Kp B K w w') (hB : B ≤ K) : Below B w w' := ⟨h.os, h.tape, h.output, h.size, fun k hk => h.block k (by omega) (by omega)⟩
/-- What Words leaves: the list, its error. -/
def Told (w : World) (o : Option (List (List UInt8))) (e : Ending) (w' : World) : Prop :=
  Below w.heap.size w w' ∧ match o with
  | some ws => ∃ v, e = .returned (.tuple #[v, .int .i64 0]) ∧ w'.ownsRow w.heap.size 9 1 v ws.length (strs ws)
  | none => e = .returned (.tuple #[.slice none 0 0, .int .i64 23])

set_option maxHeartbeats 6400000 in
set_option maxRecDepth 100000 in
theorem words_any (s : ByteArray) (w : World) (hmax : s.size ≤ 9223372036854775807) (hT : Lib.Utf8Tabs 2 3 w) :
    Calls Tryd.prog 22 #[.string s] w fun e w' => Told w (wordsM s.data.toList) e w' := by
  have hv := Tryd.utf8_ValidString s w hmax hT
  unfold wordsM
  rw [list_size]
  by_cases hl : s.size ≤ 1024
  · have hlz : ¬ (1024 : Int) < (s.size : Int) := by omega
    cases hV : Lib.validD s.data.toList with
    | false =>
      rw [hV] at hv
      rw [if_neg (fun h => by cases h.2)]
      clear hV
      go_enter Tryd.func22, Tryd.ntmps22
      go_wp2_with (first
        | (go_at_call 39; refine hv.mono ?_; rintro e w1 ⟨rfl, hb⟩))
      go_ret2
      exact ⟨hb, rfl⟩
    | true =>
      rw [hV] at hv
      rw [if_pos ⟨hl, rfl⟩]
      clear hV
      obtain ⟨ANS, hANS⟩ : ∃ A, A = partF s.size (0, [], []) s.data.toList := ⟨_, rfl⟩
      rw [← hANS]
      have HANS := hide hANS
      clear hANS
      obtain ⟨RES, hRES⟩ : ∃ A, A = ansM ANS := ⟨_, rfl⟩
      rw [← hRES]
      have HRES := hide hRES
      clear hRES
      go_enter Tryd.func22, Tryd.ntmps22
      go_wp2_with (first
        | (go_at_call 39; refine hv.mono ?_; rintro e w1 ⟨rfl, hb1⟩))
      clear hv hT
      go_loopw [] (fun wr => ∃ (pos f : Nat) (st : PSt) (vw vs : Value), Part w1.heap.size (w1.heap.size + 2) st.1 st.2.1 st.2.2 vw vs wr ∧ wr.heap[w1.heap.size + 1]? = some (.stringIter s pos) ∧ Below w1.heap.size w1 wr ∧ Hid (partF f st (s.data.toList.drop pos) = ANS) ∧ s.size ≤ pos + f ∧ st.1 ≤ 4 ∧ st.2.1.length ≤ 4 * pos ∧ st.2.2.length ≤ pos ∧ pos ≤ s.size) (fun wr => s.size - wr.iterPos (w1.heap.size + 1))
      case atStart =>
        have hit := World.iter_heap (w1.alloc (.cells #[.int .i64 0, .slice none 0 0, .slice none 0 0] 79)) s 0
        refine ⟨0, s.size, (0, [], []), .slice none 0 0, .slice none 0 0, ⟨?_, by omega, ?_, World.ownsRow_nil _ _ _ _, World.ownsRow_nil _ _ _ _⟩, by simpa using hit, ((Below.refl _ w1).alloc (Nat.le_refl _) _).alloc (by simp) _, hide HANS.out.symm, by omega, by decide, by simp, by simp, by omega⟩
        · show ((w1.alloc (.cells #[.int .i64 0, .slice none 0 0, .slice none 0 0] 79)).alloc (.stringIter s 0)).heap[w1.heap.size]? = _
          rw [Below.heap_alloc _ _ _ (by simp)]
          exact heap_alloc_new w1 _
        · show _ ≤ ((w1.alloc (.cells #[.int .i64 0, .slice none 0 0, .slice none 0 0] 79)).alloc (.stringIter s 0)).heap.size
          simp
      case round =>
        obtain ⟨pos, f, st, vw, vs, hP, hit, hbw, hr, hf, ha4, hwl, hsl, hps⟩ := hrel
        have hwz : w1.heap.size + 1 < wr.heap.size := (Array.getElem?_eq_some_iff.1 hit).1
        by_cases hp : pos < s.size
        · have hnx : ∀ ty, (Instr.next (.pointer (some ⟨w1.heap.size + 1, 0, none⟩)) true ty).run Tryd.prog wr = _ := fun ty => Lib.run_next_any_at wr (w1.heap.size + 1) s pos ty hit hp
          have hne : s.data.toList.drop pos ≠ [] := by rw [drop_at s pos hp]; simp
          have hdl : Hid (Lib.decodeL (s.data.toList.drop pos) = Utf8.decode s pos) := hide (Lib.decodeL_drop s pos)
          have hR := Lib.decodeL_rune (s.data.toList.drop pos)
          have hW := Lib.decodeL_width (s.data.toList.drop pos)
          rw [hdl.out] at hR hW
          obtain ⟨f', rfl⟩ : ∃ f', f = f' + 1 := ⟨f - 1, by omega⟩
          have hst : Hid (ANS = if mayStandR (Utf8.decode s pos).1 = true then (match stp st.1 st.2.1 st.2.2 (Utf8.decode s pos).1 with
              | some s' => partF f' s' (s.data.toList.drop (pos + (Utf8.decode s pos).2))
              | none => none) else none) := hide (by
            rw [← hr.out]
            rw [partF, if_neg hne, hdl.out, List.drop_drop])
          have hP2 := hP.iterAt (k := w1.heap.size + 1) (by omega) (by omega) s (pos + (Utf8.decode s pos).2)
          have hit2 := Lib.iterAt_heap wr (w1.heap.size + 1) s pos (pos + (Utf8.decode s pos).2) hit
          have hbw2 := Lib.below_iterAt hbw (k := w1.heap.size + 1) (by omega) s (pos + (Utf8.decode s pos).2)
          clear hr hdl hne
          have hms := mayStand_any (Utf8.decode s pos).1
          have hwid : pos + (Utf8.decode s pos).2 ≤ s.size := by
            exact decode_within s pos hp
          generalize (Utf8.decode s pos).1 = R at *
          generalize (Utf8.decode s pos).2 = M at *
          have htk := take_any w1.heap.size (w1.heap.size + 2) st.1 st.2.1 st.2.2 vw vs R (wr.iterAt (w1.heap.size + 1) s (pos + M)) ha4 hR hP2 (by omega) (by omega)
          generalize wr.iterAt (w1.heap.size + 1) s (pos + M) = wi at *
          cases hm : mayStandR R with
          | false =>
            rw [hm] at hms
            have hst2 : Hid (ANS = none) := hide (by rw [hst.out, hm]; rfl)
            clear hst htk hm
            go_wp2_with (first
              | (go_at_call 42; refine (hms _).mono ?_; rintro e w2 ⟨rfl, rfl⟩))
            go_ret2
            rw [HRES.out, hst2.out]
            exact ⟨hb1.trans (hbw2.mono hb1.size), rfl⟩
          | true =>
            rw [hm] at hms
            have hst2 : Hid (ANS = (match stp st.1 st.2.1 st.2.2 R with
              | some s' => partF f' s' (s.data.toList.drop (pos + M))
              | none => none)) := hide (by rw [hst.out, hm]; rfl)
            clear hst hm
            cases ho : stp st.1 st.2.1 st.2.2 R with
            | none =>
              rw [ho] at htk hst2
              clear ho
              go_wp2_with (first
                | (go_at_call 42; refine (hms _).mono ?_; rintro e w2 ⟨rfl, rfl⟩)
                | (go_at_call 43; refine htk.mono ?_; rintro e w2 ⟨rfl, hK, hp⟩))
              go_ret2
              rw [HRES.out, hst2.out]
              exact ⟨hb1.trans ((hbw2.trans (hK.below (by omega))).mono hb1.size), rfl⟩
            | some st' =>
              rw [ho] at htk hst2
              have hle := stp_le ho
              clear ho
              go_wp2_with (first
                | (go_at_call 42; refine (hms _).mono ?_; rintro e w2 ⟨rfl, rfl⟩)
                | (go_at_call 43; refine htk.mono ?_; rintro e w2 ⟨rfl, hK, hp⟩))
              obtain ⟨vw', vs', hp'⟩ := hp st' rfl
              have hit3 : w2.heap[w1.heap.size + 1]? = some (.stringIter s (pos + M)) := (hK.block (w1.heap.size + 1) (by omega) (by omega)).trans hit2
              go_roundw
              case rel => exact ⟨pos + M, f', st', vw', vs', hp', hit3, hbw2.trans (hK.below (by omega)), hide hst2.out.symm, by omega, hle.1, by omega, by omega, hwid⟩
              case measure => simp only [World.iterPos, hit3, hit]; omega
        · have hnx : ∀ ty, (Instr.next (.pointer (some ⟨w1.heap.size + 1, 0, none⟩)) true ty).run Tryd.prog wr = _ := fun ty => Lib.run_next_end_at wr (w1.heap.size + 1) s pos ty hit hp
          have hA : Hid (ANS = some st) := hide (by
            rw [← hr.out, drop_end s pos hp]
            cases f with
            | zero => rfl
            | succ f => simp [partF])
          have hen := end_any w1.heap.size (w1.heap.size + 2) st.1 st.2.1 st.2.2 vw vs wr ha4 hP (by omega) (by omega)
          rw [show (st.1, st.2.1, st.2.2) = st from rfl] at hen
          clear hr
          cases ho : fin st with
          | none =>
            rw [ho] at hen
            have hA2 : Hid (fin st = none) := hide ho
            clear ho
            go_wp2_with (first
              | (go_at_call 44; refine hen.mono ?_; rintro e w2 ⟨rfl, hK, hp⟩))
            go_ret2
            rw [show RES = none by rw [HRES.out, hA.out]; simp only [ansM, hA2.out]]
            exact ⟨hb1.trans ((hbw.trans (hK.below (by omega))).mono hb1.size), rfl⟩
          | some ws =>
            rw [ho] at hen
            have hA2 : Hid (fin st = some ws) := hide ho
            clear ho
            go_wp2_with fail
            refine hen.mono ?_
            rintro e w2 ⟨rfl, hK, hp⟩
            obtain ⟨wd', vw', vs', hp'⟩ := hp ws rfl
            obtain ⟨sa, sc, rfl⟩ := own_form hp'.os
            have c2 := box_cell hp'.box 2 (by simp)
            simp only [List.getElem_toArray, List.getElem_cons_succ, List.getElem_cons_zero] at c2
            by_cases h16 : ws.length ≤ 16
            · have z16 : ¬ (16 : Int) < (ws.length : Int) := by omega
              go_wp2
              go_ret2
              rw [show RES = some ws by rw [HRES.out, hA.out]; simp only [ansM, hA2.out, if_pos h16]]
              exact ⟨hb1.trans ((hbw.trans (hK.below (by omega))).mono hb1.size), _, rfl, World.ownsRow.mono hp'.os (by have := hb1.size; omega)⟩
            · have z16 : (16 : Int) < (ws.length : Int) := by omega
              go_wp2
              go_ret2
              rw [show RES = none by rw [HRES.out, hA.out]; simp only [ansM, hA2.out, if_neg h16]]
              exact ⟨hb1.trans ((hbw.trans (hK.below (by omega))).mono hb1.size), rfl⟩
  · have hlz : (1024 : Int) < (s.size : Int) := by omega
    rw [if_neg (fun h => hl h.1)]
    clear hv
    go_enter Tryd.func22, Tryd.ntmps22
    go_wp2
    go_ret2
    exact ⟨Below.refl _ _, rfl⟩
end Go.Proofs.YthoeehgnkolgpaaDoor

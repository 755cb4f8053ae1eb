/- What Fold answers of any name. -/
import Derived.Test.YthoeehgnkolgpaaDoorFold1
import Derived.Deep.Upon
import Derived.Lib.EndianMore
namespace Go.Proofs.YthoeehgnkolgpaaDoor
open Go.RowKit

/-- Block b begins with these bytes, and may be written. -/
structure Row8 (w : World) (b : Nat) (l : List UInt8) : Prop where
  cell : ∀ j (h : j < l.length), w.cell? ⟨b, j, none⟩ = some (.int .u8 ((l[j]'h).toNat : Int))
  free : ∀ j, j < l.length → w.frozen? ⟨b, j, none⟩ = false
theorem Row8.of_heap {w w' : World} {b : Nat} {l : List UInt8} (h : Row8 w b l) (e : w'.heap[b]? = w.heap[b]?) : Row8 w' b l :=
  ⟨fun j hj => by rw [World.cell?_of_block (a := ⟨b, j, none⟩) e]; exact h.cell j hj, fun j hj => by rw [← h.free j hj]; simp only [World.frozen?, e]⟩
theorem Row8.put {w : World} {b : Nat} {pre mid suf : List UInt8} (h : Row8 w b (pre ++ (mid ++ suf))) (new : List UInt8) (hl : new.length = mid.length) :
    Row8 (w.setCells b pre.length (Lib.byteCells new)) b (pre ++ (new ++ suf)) := by
  have hbl : (Lib.byteCells new).length = new.length := Lib.byteCells_length _
  refine ⟨fun j hj => ?_, fun j hj => ?_⟩
  · have hj2 : j < (pre ++ (mid ++ suf)).length := by simp at hj ⊢; omega
    by_cases h1 : j < pre.length
    · rw [World.cell?_setCells_out b _ _ _ _ (fun _ _ => Or.inl h1), h.cell j hj2]
      rw [List.getElem_append_left h1, List.getElem_append_left h1]
    · by_cases h2 : j < pre.length + new.length
      · obtain ⟨k, rfl⟩ : ∃ k, j = pre.length + k := ⟨j - pre.length, by omega⟩
        have hk : k < (Lib.byteCells new).length := by rw [hbl]; omega
        rw [World.cell?_setCells_in b _ _ _ (fun i hi => by rw [h.cell (pre.length + i) (by simp; rw [hbl] at hi; omega)]; rfl) k hk]
        have hk2 : k < new.length := by omega
        simp [Lib.byteCells, List.getElem_append_right, List.getElem_append_left hk2]
      · rw [World.cell?_setCells_out b _ _ _ _ (fun _ _ => Or.inr (by rw [hbl]; show _ ≤ j; omega)), h.cell j hj2]
        rw [List.getElem_append_right (by omega), List.getElem_append_right (by omega), List.getElem_append_right (by omega), List.getElem_append_right (by omega)]
        simp only [hl]
  · rw [World.frozen?_setCells]
    exact h.free j (by simp at hj ⊢; omega)
theorem Row8.isAt {w : World} {b : Nat} {l : List UInt8} (h : Row8 w b l) (j : Nat) (hj : j < l.length) : (w.cell? ⟨b, j, none⟩).isSome = true := by rw [h.cell j hj]; rfl
theorem Row8.back {w : World} {b c : Nat} {l : List UInt8} (h : Row8 w b l) : (convert 40 9 (.slice (some ⟨b, 0, none⟩) l.length c)).run Tryd.prog w = .ok (.string ⟨l.toArray⟩) w :=
  run_convert_bytes_back (P := Tryd.prog) w 40 9 5 ⟨b, 0, none⟩ c l Tryd.underlying40 Tryd.underlying5 Tryd.underlying9 (fun j hj => by
    rw [show (⟨b, 0, none⟩ : Addr).add j = ⟨b, j, none⟩ by simp [Addr.add]; omega]; exact h.cell j hj)
/-- What []byte(s) leaves. -/
theorem bytes_row (w : World) (s : ByteArray) : Row8 (Lib.bytesWorld w 5 s) w.heap.size s.data.toList := by
  have hsz : ∀ j, j < s.data.toList.length → j < (Lib.bytesCells w 5 s).size := fun j hj => by
    rw [list_size] at hj
    unfold Lib.bytesCells
    rw [Array.size_append, Array.size_map]
    exact Nat.lt_of_lt_of_le hj (Nat.le_add_right _ _)
  refine ⟨fun j hj => ?_, fun j hj => ?_⟩
  · rw [Lib.bytesWorld_cell w _ s j (by rw [← list_size]; exact hj)]
    simp only [List.getD, List.getElem?_eq_getElem hj, Option.getD_some]
  · have := hsz j hj
    simp only [World.frozen?, Lib.bytesWorld_at_new]
    simp
    omega
theorem bytes_below (w : World) (s : ByteArray) : Below w.heap.size w (Lib.bytesWorld w 5 s) :=
  ⟨rfl, rfl, rfl, by rw [Lib.bytesWorld_size]; omega, fun k hk => Lib.bytesWorld_at_old w _ s k hk⟩

/-- A code point that Fold moves has as many bytes behind it. -/
theorem move_width (l : List UInt8) (h : movesR (Lib.decodeL l).1 = true) : (Lib.encodeRune (((Lib.decodeL l).1 : Int) + 32)).length = (Lib.decodeL l).2 := by
  have hd : Lib.decodeL l = Lib.decodeN ((⟨l.toArray⟩ : ByteArray).size - 0) ((⟨l.toArray⟩ : ByteArray).get! 0).toNat ((⟨l.toArray⟩ : ByteArray).get! (0 + 1)).toNat ((⟨l.toArray⟩ : ByteArray).get! (0 + 2)).toNat ((⟨l.toArray⟩ : ByteArray).get! (0 + 3)).toNat := Lib.decode_at _ 0
  rw [hd] at h ⊢
  generalize ((⟨l.toArray⟩ : ByteArray).get! 0).toNat = b0 at *
  generalize ((⟨l.toArray⟩ : ByteArray).get! (0 + 1)).toNat = b1 at *
  generalize ((⟨l.toArray⟩ : ByteArray).get! (0 + 2)).toNat = b2 at *
  generalize ((⟨l.toArray⟩ : ByteArray).get! (0 + 3)).toNat = b3 at *
  have hl : ∀ r : Nat, movesR r = true → (Lib.encodeRune ((r : Int) + 32)).length = if r < 128 then 1 else 2 := by
    intro r hr
    simp only [movesR, decide_eq_true_eq] at hr
    unfold Lib.encodeRune Lib.encodeRuneZ
    rw [List.length_map]
    split
    · rw [if_pos (by omega)]; rfl
    · rw [if_pos (by omega), if_neg (by omega)]; rfl
  rw [hl _ h]
  simp only [movesR, decide_eq_true_eq] at h
  revert h
  unfold Lib.decodeN
  repeat' split
  all_goals (intro h; first | omega | (dsimp only at *; omega) | dsimp only at *)

def foldF : Nat → List UInt8 → List UInt8
  | 0, l => l
  | f + 1, l => if l = [] then [] else (if movesR (Lib.decodeL l).1 = true then Lib.encodeRune (((Lib.decodeL l).1 : Int) + 32) else l.take (Lib.decodeL l).2) ++ foldF f (l.drop (Lib.decodeL l).2)
/-- What Fold answers. -/
def foldM (l : List UInt8) : List UInt8 := foldF l.length l

set_option maxHeartbeats 3200000 in
set_option maxRecDepth 100000 in
theorem fold_any (s : ByteArray) (w : World) (hmax : s.size ≤ 9223372036854775807) (hT : FoldTab w) :
    Calls Tryd.prog 14 #[.string s] w fun e w' => e = .returned (.string ⟨(foldM s.data.toList).toArray⟩) ∧ Below w.heap.size w w' := by
  have hcv := Lib.run_convert_string_bytes (P := Tryd.prog) w 9 40 5 s Tryd.underlying9 Tryd.underlying40 Tryd.underlying5
  have hrow := bytes_row w s
  have hbel := bytes_below w s
  have hz1 := Lib.bytesWorld_size w 5 s
  have hC := grownCap_ge w s.size 0 5
  generalize grownCap w s.size 0 5 = C at *
  generalize Lib.bytesWorld w 5 s = W1 at *
  obtain ⟨ANS, hANS⟩ : ∃ A, A = foldM s.data.toList := ⟨_, rfl⟩
  rw [← hANS]
  have HANS := hide hANS
  clear hANS
  have HT := hide hT
  clear hT
  go_enter Tryd.func14, Tryd.ntmps14
  go_wp2
  go_loopw [] (fun wr => ∃ (pos f : Nat) (pre : List UInt8), wr.heap[w.heap.size + 1]? = some (.stringIter s pos) ∧ Below w.heap.size w wr ∧ Hid (Row8 wr w.heap.size (pre ++ s.data.toList.drop pos)) ∧ Hid (pre ++ foldF f (s.data.toList.drop pos) = ANS) ∧ pre.length = pos ∧ s.size ≤ pos + f ∧ pos ≤ s.size) (fun wr => s.size - wr.iterPos (w.heap.size + 1))
  case atStart =>
    have hit := World.iter_heap W1 s 0
    rw [hz1] at hit
    refine ⟨0, s.size, [], hit, hbel.alloc (by omega) _, hide (Row8.of_heap (w := W1) hrow (Below.heap_alloc _ _ _ (by omega))), hide ?_, rfl, by omega, by omega⟩
    rw [HANS.out, foldM, list_size]; rfl
  case round =>
    obtain ⟨pos, f, pre, hit, hbw, hR, hr, hpl, hf, hps⟩ := hrel
    have hwz : w.heap.size + 1 < wr.heap.size := (Array.getElem?_eq_some_iff.1 hit).1
    by_cases hp : pos < s.size
    · have hnx : ∀ ty, (Instr.next (.pointer (some ⟨w.heap.size + 1, 0, none⟩)) true ty).run Tryd.prog wr = _ := fun ty => Lib.run_next_any_at wr (w.heap.size + 1) s pos ty hit hp
      have hne : s.data.toList.drop pos ≠ [] := by rw [drop_at s pos hp]; simp
      have hdl : Hid (Lib.decodeL (s.data.toList.drop pos) = Utf8.decode s pos) := hide (Lib.decodeL_drop s pos)
      have hRu := Lib.decodeL_rune (s.data.toList.drop pos)
      have hW := Lib.decodeL_width (s.data.toList.drop pos)
      have hmw := move_width (s.data.toList.drop pos)
      rw [hdl.out] at hRu hW hmw
      obtain ⟨f', rfl⟩ : ∃ f', f = f' + 1 := ⟨f - 1, by omega⟩
      have hwid : pos + (Utf8.decode s pos).2 ≤ s.size := decode_within s pos hp
      have hst : Hid (pre ++ ((if movesR (Utf8.decode s pos).1 = true then Lib.encodeRune (((Utf8.decode s pos).1 : Int) + 32) else (s.data.toList.drop pos).take (Utf8.decode s pos).2) ++ foldF f' (s.data.toList.drop (pos + (Utf8.decode s pos).2))) = ANS) := hide (by
        rw [← hr.out]
        rw [foldF, if_neg hne, hdl.out, List.drop_drop])
      have hR2 : Hid (Row8 (wr.iterAt (w.heap.size + 1) s (pos + (Utf8.decode s pos).2)) w.heap.size (pre ++ s.data.toList.drop pos)) := hide (hR.out.of_heap (Lib.iterAt_other _ _ _ _ _ (by omega)))
      have hit2 := Lib.iterAt_heap wr (w.heap.size + 1) s pos (pos + (Utf8.decode s pos).2) hit
      have hbw2 := Lib.below_iterAt hbw (k := w.heap.size + 1) (by omega) s (pos + (Utf8.decode s pos).2)
      have hz2 : w.heap.size + 1 < (wr.iterAt (w.heap.size + 1) s (pos + (Utf8.decode s pos).2)).heap.size := by rw [Lib.iterAt_size]; omega
      have hmv := moves_any (Utf8.decode s pos).1 (wr.iterAt (w.heap.size + 1) s (pos + (Utf8.decode s pos).2)) (HT.out.below hbw2)
      have hsplit : Hid (s.data.toList.drop pos = (s.data.toList.drop pos).take (Utf8.decode s pos).2 ++ s.data.toList.drop (pos + (Utf8.decode s pos).2)) := hide (by rw [← List.drop_drop, List.take_append_drop])
      have hmid : Hid (((s.data.toList.drop pos).take (Utf8.decode s pos).2).length = (Utf8.decode s pos).2) := hide (by rw [List.length_take, List.length_drop, list_size]; omega)
      clear hr hdl hne hR
      generalize (Utf8.decode s pos).1 = R at *
      generalize (Utf8.decode s pos).2 = M at *
      generalize wr.iterAt (w.heap.size + 1) s (pos + M) = wi at *
      cases hm : movesR R with
      | false =>
        rw [hm] at hmv hst
        clear hm hmw
        go_wp2_with (first
          | (go_at_call 36; refine hmv.mono ?_; rintro e w2 ⟨rfl, hb2⟩))
        have hit3 : w2.heap[w.heap.size + 1]? = some (.stringIter s (pos + M)) := (hb2.block (w.heap.size + 1) hz2).trans hit2
        go_roundw
        case rel =>
          refine ⟨pos + M, f', pre ++ (s.data.toList.drop pos).take M, hit3, hbw2.trans (hb2.mono (by omega)), hide ?_, hide (by rw [← hst.out, if_neg (by decide), List.append_assoc]), by rw [List.length_append, hmid.out, hpl], by omega, hwid⟩
          rw [List.append_assoc, ← hsplit.out]
          exact hR2.out.of_heap (hb2.block _ (by omega))
        case measure => simp only [World.iterPos, hit3, hit]; omega
      | true =>
        have hmw2 := hmw hm
        rw [hm] at hmv hst
        clear hmw
        simp only [movesR, decide_eq_true_eq] at hm
        have w1 : IntKind.i32.wrap ((R : Int) + 32) = (R : Int) + 32 := wr_i32 (by omega) (by omega)
        have hnp : ¬ ((s.size : Int) = (pos : Int)) := by omega
        have hnp2 : ¬ (s.size = pos) := by omega
        have hnp3 : ¬ (pos = s.size) := by omega
        have hle : (pos : Int) ≤ (s.size : Int) := by omega
        have hnC : ¬ C = pos := by omega
        have hnC2 : ¬ (pos = C) := by omega
        go_wp2_with (first
          | (go_at_call 36; refine hmv.mono ?_; rintro e w2 ⟨rfl, hb2⟩))
        have hit3 : w2.heap[w.heap.size + 1]? = some (.stringIter s (pos + M)) := (hb2.block (w.heap.size + 1) hz2).trans hit2
        have hR3 : Hid (Row8 w2 w.heap.size (pre ++ ((s.data.toList.drop pos).take M ++ s.data.toList.drop (pos + M)))) := hide (by
          rw [← hsplit.out]
          exact hR2.out.of_heap (hb2.block _ (by omega)))
        have hlr : (Lib.runeCells ((R : Int) + 32)).length = M := by rw [Lib.runeCells_length]; exact hmw2
        have hin : ∀ j, j < M → pos + j < (pre ++ ((s.data.toList.drop pos).take M ++ s.data.toList.drop (pos + M))).length := fun j hj => by rw [List.length_append, List.length_append, hmid.out, hpl]; omega
        have henc := Tryd.utf8_EncodeRune w.heap.size pos (s.size - pos) (C - pos) ((R : Int) + 32) (by omega) (by omega) w2 (by rw [hlr]; omega) (fun j hj => hR3.out.isAt _ (hin j (by omega))) (fun j hj => hR3.out.free _ (hin j (by omega)))
        rw [← Lib.byteCells_encodeRune] at henc
        have hput := hide (hR3.out.put (Lib.encodeRune ((R : Int) + 32)) (by rw [hmid.out]; exact hmw2))
        rw [hpl] at hput
        have hbs : Below w.heap.size w2 (w2.setCells w.heap.size pos (Lib.byteCells (Lib.encodeRune ((R : Int) + 32)))) := Lib.below_setCells_w (Nat.le_refl _) _ _ _
        have hit4 : (w2.setCells w.heap.size pos (Lib.byteCells (Lib.encodeRune ((R : Int) + 32)))).heap[w.heap.size + 1]? = some (.stringIter s (pos + M)) := by
          rw [World.heap_setCells_other _ _ _ _ (Array.getElem?_eq_some_iff.1 hit3).1 (by omega)]; exact hit3
        refine henc.mono ?_
        rintro e w3 ⟨rfl, rfl⟩
        generalize w2.setCells w.heap.size pos (Lib.byteCells (Lib.encodeRune ((R : Int) + 32))) = w3 at *
        go_wp2
        go_roundw
        case rel =>
          refine ⟨pos + M, f', pre ++ Lib.encodeRune ((R : Int) + 32), hit4, (hbw2.trans (hb2.mono (by omega))).trans hbs, hide ?_, hide (by rw [← hst.out, if_pos trivial, List.append_assoc]), by rw [List.length_append, hmw2, hpl], by omega, hwid⟩
          rw [List.append_assoc]
          exact hput.out
        case measure => simp only [World.iterPos, hit4, hit]; omega
    · have hnx : ∀ ty, (Instr.next (.pointer (some ⟨w.heap.size + 1, 0, none⟩)) true ty).run Tryd.prog wr = _ := fun ty => Lib.run_next_end_at wr (w.heap.size + 1) s pos ty hit hp
      have he : pos = s.size := by omega
      have hfin : Hid (pre = ANS) := hide (by
        rw [← hr.out, drop_end s pos hp]
        cases f with
        | zero => simp [foldF]
        | succ f => simp [foldF])
      have hRow : Hid (Row8 wr w.heap.size pre) := hide (by have := hR.out; rw [drop_end s pos hp, List.append_nil] at this; exact this)
      have hbk := hRow.out.back (c := C)
      rw [hpl, he] at hbk
      clear he hr hR
      go_wp2
      go_ret
      exact ⟨by rw [hfin.out]; rfl, hbw⟩
end Go.Proofs.YthoeehgnkolgpaaDoor

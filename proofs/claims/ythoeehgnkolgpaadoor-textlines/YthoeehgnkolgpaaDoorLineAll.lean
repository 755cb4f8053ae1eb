/- The law of lines: what it calls keeps what it asks. -/
import Derived.Test.YthoeehgnkolgpaaDoorLineLaw
import Derived.Test.YthoeehgnkolgpaaDoorRefWords
import Derived.Test.YthoeehgnkolgpaaDoorLineWalk
import Derived.Test.YthoeehgnkolgpaaDoorBegun
import Derived.Test.YthoeehgnkolgpaaDoorFrame2
namespace Go.Proofs.YthoeehgnkolgpaaDoor
open Go.RowKit Go.Sort

set_option maxHeartbeats 1600000 in
set_option maxRecDepth 100000 in
theorem mark_grow (i k : Nat) (w : World) (hk : k ≤ 1) :
    Calls Tryd.prog 25 #[.int .i64 i, .int .i64 k] w fun e w' => e = .returned (.string (markS i k)) ∧ ∃ os, w' = grow w os := by
  have h4 := fun W => str4 W (i % 256) (i / 256 % 256) (i / 65536 % 256) k (by omega) (by omega) (by omega) (by omega)
  obtain ⟨x, hx⟩ : ∃ x, x = i % 256 := ⟨_, rfl⟩
  obtain ⟨y, hy⟩ : ∃ x, x = i / 256 % 256 := ⟨_, rfl⟩
  obtain ⟨z, hz⟩ : ∃ x, x = i / 65536 % 256 := ⟨_, rfl⟩
  have w1 : IntKind.u8.wrap (i : Int) = (x : Int) := by rw [IntKind.wrap_u8']; omega
  have w2 : IntKind.u8.wrap ((i : Int) / 256) = (y : Int) := by rw [IntKind.wrap_u8']; omega
  have w3 : IntKind.u8.wrap ((i : Int) / 65536) = (z : Int) := by rw [IntKind.wrap_u8']; omega
  have w4 : IntKind.u8.wrap (k : Int) = (k : Int) := wr_u8 (by omega) (by omega)
  unfold markS
  rw [← hx, ← hy, ← hz] at h4 ⊢
  generalize (⟨#[UInt8.ofNat x, UInt8.ofNat y, UInt8.ofNat z, UInt8.ofNat k]⟩ : ByteArray) = M at *
  clear hx hy hz
  go_enter Tryd.func25, Tryd.ntmps25
  go_wp2_with fail
  go_ret
  exact ⟨rfl, _, alloc_eq_grow _ _⟩

def erM (s : ByteArray) : Int := match wordsM s.data.toList with | some _ => 0 | none => 23
def wsM (s : ByteArray) : List (List UInt8) := match wordsM s.data.toList with | some ws => ws | none => []

theorem words_few {l : List UInt8} {ws : List (List UInt8)} (h : wordsM l = some ws) : ws.length ≤ 16 := by
  unfold wordsM at h
  split at h
  · unfold ansM at h
    split at h
    · split at h
      · split at h
        · cases h; assumption
        · cases h
      · cases h
    · cases h
  · cases h
theorem wsM_few (s : ByteArray) : (wsM s).length ≤ 16 := by
  unfold wsM
  split
  · exact words_few ‹_›
  · simp

theorem told_is {s : ByteArray} {W w' : World} {e : Ending} (h : Told W (wordsM s.data.toList) e w') :
    ∃ v, e = .returned (.tuple #[v, .int .i64 (erM s)]) ∧ w'.ownsRow W.heap.size 9 1 v (wsM s).length (strs (wsM s)) ∧ Below W.heap.size W w' := by
  unfold erM wsM
  obtain ⟨hb, h⟩ := h
  cases hw : wordsM s.data.toList with
  | some ws =>
    rw [hw] at h
    obtain ⟨v, he, ho⟩ := h
    exact ⟨v, he, ho, hb⟩
  | none =>
    rw [hw] at h
    exact ⟨_, h, World.ownsRow_nil _ _ _ _, hb⟩

theorem lineCalls {m : Int} {w : World} (hT : Tabs m w) : LineCalls w erM (fun s => strs (wsM s)) (fun s => s.size ≤ 140737488355328) markS where
  begun := fun W hb => begun_any m W (hT.below hb)
  words := fun s W hok hb => (words_any s W (by omega) (hT.below hb).utf).mono fun e w' h => by
    obtain ⟨v, he, ho, hb⟩ := told_is h
    have := wsM_few s
    exact ⟨v, _, he, by omega, ho, hb⟩
  ref := fun s W hok => (refWords_any s W hok).mono fun e w' h => by
    obtain ⟨v, he, ho, hb⟩ := told_is h
    exact ⟨v, _, he, ho, hb⟩
  eq := fun s W K K' a n c a' n' c' _ h1 h2 => by
    have l1 := h1.1
    have l2 := h2.1
    rw [strs, List.length_map] at l1 l2
    obtain rfl : n = (wsM s).length := by omega
    obtain rfl : n' = (wsM s).length := by omega
    have := wsM_few s
    refine (eqStrings_same a a' c c' (wsM s) W (own_strs h1).2 (own_strs h2).2 (by omega)).mono fun e w' ⟨he, q, hq⟩ => ⟨he, ?_⟩
    rw [hq]
    exact ⟨rfl, rfl, rfl, Nat.le_refl _, fun _ _ => rfl⟩
  mark := fun i k W hk => mark_grow i k W hk

theorem linesLaw_walk (a : Option Addr) (len cap : Nat) (z : Nat → ByteArray) (B : Nat) (m : Int) (w : World) (hT : Tabs m w) (hl : TextsIn w a len z B) :
    Calls Tryd.prog 7 #[.slice a len cap] w fun e w' => e = .returned (.bool true) ∧ w.Since w.heap.size w' :=
  (lines_any a len cap z erM (fun s => strs (wsM s)) (fun s => s.size ≤ 140737488355328) markS w (lineCalls hT) hl.ln
    (fun j hj => ⟨by have := hl.sz j hj; omega, hl.cell j hj⟩)).mono fun e w' ⟨he, hb⟩ => ⟨he, ⟨hb.os, hb.tape, hb.output, hb.size, hb.block⟩⟩
end Go.Proofs.YthoeehgnkolgpaaDoor

/- The walk of spread.grown over lists of bytes. -/
import Derived.Test.YtgpmoakfbhcidaaYA2
namespace Go.Proofs.Ytgpmoakfbhcidaa
open Go.RowKit
set_option maxRecDepth 100000
set_option maxRecDepth 100000

/-- What is kept between two lists. -/
structure GrA (S : Nat → Prop) (w0 w : World) (B yb zb N p : Nat) (kv zv : Value) (A A' : Nat → Option Addr) (ln C C' : Nat → Nat) : Prop where
  yrow : w.rowIs yb 101 8 (sprB kv)
  on : p < N → GrI S w0 w B yb zb N p (ln p) kv zv (sl A ln C p) A A' ln C C'
  full : p = N → Full w yb N kv A ln C ∧ Full w zb N zv A' (fun i => ln i + 96) C'
  size : B ≤ w.heap.size
  kp : Kp S w0 w
theorem ownZ_frm {w : World} {B n : Nat} {v : Value} {x : Nat → Nat} (h : OwnZ w B v n x) {A : Nat → Option Addr} {ln C : Nat → Nat} {i : Nat} {a : Addr} (e : v = sl A ln C i) (ha : A i = some a) : a = ⟨a.block, 0, none⟩ ∧ ∃ cur fz, w.heap[a.block]? = some (.cells cur 5 fz) := by
  refine ⟨?_, ownZ_type h (by rw [e]; exact (sl_block _ _ _ _ _).2 ⟨a, ha, rfl⟩)⟩
  rcases h.2 with ⟨q, _⟩ | ⟨g, cap, cur, q, _⟩
  · rw [q] at e; unfold sl at e; rw [ha] at e; simp at e
  · rw [q] at e; unfold sl at e; rw [ha] at e
    injection e with e1
    rw [← Option.some.inj e1]
theorem SpM.grA {S : Nat → Prop} {w0 w : World} {B yb N : Nat} {kv : Value} {A : Nat → Option Addr} {ln C : Nat → Nat} (h : SpM S w0 w B yb N kv A ln C (fun i k => mrk i k)) (hB : B ≤ w.heap.size) {w1 : World} (hw1 : w1 = w.alloc (.cells #[.slice none 0 0, .slice none 0 0, .slice none 0 0, .slice none 0 0, .slice none 0 0, .slice none 0 0, .slice none 0 0, .slice none 0 0] 101)) :
    GrA S w0 w1 B yb w.heap.size N 0 kv (.slice none 0 0) A (fun _ => none) ln C (fun _ => 0) := by
  have hb : Below w.heap.size w w1 := by rw [hw1]; exact (Below.refl _ _).alloc (Nat.le_refl _) _
  have hz : w1.rowIs w.heap.size 101 8 (sprB (.slice none 0 0)) := by
    rw [hw1]
    exact World.rowIs_alloc w _ _ _ (fun i hi => by
      have hi' : i < 8 := hi
      match i, hi' with
      | 0, _ | 1, _ | 2, _ | 3, _ | 4, _ | 5, _ | 6, _ | 7, _ => rfl)
  have hy : w1.rowIs yb 101 8 (sprB kv) := h.row.of_block (hb.block yb h.row.lt)
  have hl : w1.ownsRow B 53 1 kv N ((List.range N).map (sl A ln C)) := owns_keep h.lst (fun q e => hb.block q (h.lst.lt q e).2)
  have hf : FZ w1 B N A ln C (fun i k => mrk i k) := h.fam.on hb
  have hby : ∀ i, i < N → Byt w1 (A i) (ln i) (mrk i) := fun i hi => by
    obtain ⟨x, cc, e, hb, _⟩ := ownZ_byt' (hf.own i hi)
    unfold sl at e
    injection e with e1
    rw [e1]
    exact hb
  have hbel : Kp S w0 w1 := h.kp.on hb
  have z0 := h.kp.size
  refine ⟨hy, fun hp => ⟨hy, hz, hl, World.ownsRow_nil _ _ _ _, hby, fun i _ h2 => hf.own i h2, fun i h1 => by omega, hf.own 0 hp, Nat.le_refl _, fun i a hi ha => ownZ_frm (hf.own i hi) rfl ha, fun q _ => by simp [Value.ownBlock], by have := h.row.lt; omega, z0, hf.dis, fun i j a a' _ hj => by omega, fun i j a a' hi => by omega, fun q i a e hi hne ha => ?_, fun q i a e hi => by omega, hbel, h.hS, fun q e => ?_, fun q e => by simp [Value.ownBlock] at e⟩, fun e => ⟨⟨hy, owns_form hl, hby⟩, ⟨hz, ⟨none, 0, by rw [← e], fun i hi => by omega⟩, fun i hi => by omega⟩⟩, by have := hb.size; omega, hbel⟩
  · obtain ⟨y, hy, hb⟩ := (sl_block _ _ _ _ _).1 e
    rw [← hb]
    exact hf.dis i 0 a y hi hp hne ha hy
  · obtain ⟨y, hy, hb⟩ := (sl_block _ _ _ _ _).1 e
    rw [← hb]
    exact h.hS 0 y hp hy
theorem GrI.zform {S : Nat → Prop} {w0 w : World} {B yb zb N p len : Nat} {kv zv v : Value} {A A' : Nat → Option Addr} {ln C C' : Nat → Nat} (h : GrI S w0 w B yb zb N p len kv zv v A A' ln C C') : ∃ a c, zv = .slice a p c := by
  obtain ⟨a, c, e, _⟩ := owns_form h.zlst
  exact ⟨a, c, e⟩
set_option maxHeartbeats 8000000 in
theorem sprB_grown {S : Nat → Prop} {w0 w : World} {B yb N : Nat} {kv : Value} {A : Nat → Option Addr} {ln C : Nat → Nat} (hN : N ≤ 100000) (hln : ∀ i, i < N → ln i + 96 ≤ 140737488355328) (h : SpM S w0 w B yb N kv A ln C (fun i k => mrk i k)) (hB : B ≤ w.heap.size) :
    Calls Try.prog 49 #[.pointer (some ⟨yb, 0, none⟩)] w fun e w' => ∃ zb zv A' C', e = .returned (.pointer (some ⟨zb, 0, none⟩)) ∧ Full w' yb N kv A ln C ∧ Full w' zb N zv A' (fun i => ln i + 96) C' ∧ Kp S w0 w' := by
  obtain ⟨ka, kc, rfl, hka⟩ := owns_form h.lst
  have hG0 := h.grA hB rfl
  generalize hw1 : w.alloc (.cells #[.slice none 0 0, .slice none 0 0, .slice none 0 0, .slice none 0 0, .slice none 0 0, .slice none 0 0, .slice none 0 0, .slice none 0 0] 101) = w1 at *
  have HW := hide hw1
  have HG0 := hide hG0
  have c0 : w1.cell? ⟨yb, 0, none⟩ = some (.slice none 0 0) := hG0.yrow.cell (i := 0) (by decide)
  clear h hw1 hG0 hka
  go_enter Try.func49, Try.ntmps49
  go_upto_region 2 with fail
  rw [HW.out]
  generalize w.heap.size = zb at *
  clear HW
  go_wp2_with fail
  go_loopg [4] 0 (fun q sx wx => q = 0 ∧ sx = .int .i64 0 ∧ w1 = wx)
  case atStart => exact ⟨rfl, rfl, rfl⟩
  case round =>
    obtain ⟨rfl, rfl, rfl⟩ := hrel
    go_wp2_with fail
    go_loopg [7, 8, 9] N (fun q s7 _ _ wx => ∃ (p : Nat) (zv : Value) (A' : Nat → Option Addr) (C' : Nat → Nat), p ≤ N ∧ q = N - p ∧ s7 = .int .i64 (p : Nat) ∧ GrA S w0 wx B yb zb N p (.slice ka N kc) zv A A' ln C C')
    case atStart => exact ⟨0, _, _, _, Nat.zero_le _, rfl, rfl, HG0.out⟩
    case round =>
      clear HG0 c0
      obtain ⟨p, zv, A', C', hp, rfl, rfl, hS⟩ := hrel
      have c1 : wr.cell? ⟨yb, 1, none⟩ = some (.slice ka N kc) := hS.yrow.cell (i := 1) (by decide)
      by_cases hlt : p < N
      · have hpz : (p : Int) < (N : Int) := by omega
        have hI := hS.on hlt
        have hBs := hS.size
        obtain ⟨_, _, e0, hka⟩ := owns_form hI.lst
        cases e0
        obtain ⟨kg, rfl, hkc⟩ := hka p hlt
        have hlp := hln p hlt
        obtain ⟨n, Hn⟩ : ∃ n, Hid (ln p = n) := ⟨_, rfl⟩
        obtain ⟨cp, Hcp⟩ : ∃ n, Hid (C p = n) := ⟨_, rfl⟩
        obtain ⟨ap, Hap⟩ : ∃ n, Hid (A p = n) := ⟨_, rfl⟩
        have ekc : wr.cell? ⟨kg, p, none⟩ = some (.slice ap n cp) := by rw [hkc]; unfold sl; rw [Hn.out, Hcp.out, Hap.out]
        have HI : Hid (GrI S w0 wr B yb zb N p n (.slice (some ⟨kg, 0, none⟩) N kc) zv (.slice ap n cp) A A' ln C C') := by
          have q := hI
          unfold sl at q
          rw [Hn.out, Hcp.out, Hap.out] at q
          exact q
        rw [Hn.out] at hlp
        clear hkc hI hS hka
        go_wp2_with fail
        go_loopg [8, 9] 96 (fun q s8 s9 wx => ∃ (k : Nat) (a : Option Addr) (c : Nat), k ≤ 96 ∧ q = 96 - k ∧ s8 = .slice a (n + k : Nat) c ∧ s9 = .int .i64 (k : Nat) ∧ GrI S w0 wx B yb zb N p (n + k) (.slice (some ⟨kg, 0, none⟩) N kc) zv (.slice a (n + k) c) A A' ln C C' ∧ B ≤ wx.heap.size)
        case atStart => exact ⟨0, ap, cp, Nat.zero_le _, rfl, rfl, rfl, HI.out, hBs⟩
        case round =>
          clear HI c1 ekc hBs
          obtain ⟨k, a, c, hk, rfl, rfl, rfl, hI, hBs⟩ := hrel
          by_cases hkn : k < 96
          · have hkz : (k : Int) < 96 := by omega
            obtain ⟨a2, c2, w2, hr, hI2, hB2⟩ := hI.more hBs hlt (by omega)
            have HSG : Hid (∀ W, Calls Try.prog 75 #[.int .i64 (p : Nat), .int .i64 (n + k : Nat)] W fun e w' => e = .returned (.int .u8 (mrk p (n + k) : Nat)) ∧ w' = W) := fun W => sign_any p (n + k) W (by omega)
            generalize mrk p (n + k) = mi at *
            have HR := hide hr
            have HE : Hid (GrI S w0 w2 B yb zb N p (n + (k + 1)) (.slice (some ⟨kg, 0, none⟩) N kc) zv (.slice a2 (n + (k + 1)) c2) A A' ln C C') := hI2
            have eK : n + (k + 1) = n + k + 1 := rfl
            generalize hnk : n + k = nk at *
            clear hr hI hI2
            go_wp2_with (first
              | (go_at_call 75; refine (HSG.out _).mono ?_; rintro e w4 ⟨rfl, rfl⟩)
              | (at_builtin; refine wpList_append_eq rfl _ _ 53 rfl _ _ _ (by rfl) (by rfl) (unhide HR) ?_))
            go_roundg (96 - (k + 1))
            case measure => go_light; omega
            case rel => go_light; exact ⟨k + 1, a2, c2, by omega, rfl, by rw [eK], by simp, HE.out, hB2⟩
          · have hkz : ¬ (k : Int) < 96 := by omega
            obtain rfl : k = 96 := by omega
            obtain ⟨z1, zc1, rfl⟩ := hI.zform
            obtain ⟨za, zc, w2, hr, f1, f2, f3⟩ := GrI.lay (S := S) (w0 := w0) (yb := yb) (zb := zb) (kv := .slice (some ⟨kg, 0, none⟩) N kc) (zv := .slice z1 p zc1) (A := A) (A' := A') (ln := ln) (C := C) (C' := C') (a := a) (c := c) (by rw [Hn.out]; exact hI) hBs hlt hN
            rw [Hn.out] at hr
            have HR := hide hr
            have HF := f3 _ rfl
            have g1 : wr.cell? ⟨zb, 1, none⟩ = some (.slice z1 p zc1) := hI.zrow.cell (i := 1) (by decide)
            have HE : Hid (GrA S w0 (w2.setCell ⟨zb, 1, none⟩ (.slice za (p + 1) zc)) B yb zb N (p + 1) (.slice (some ⟨kg, 0, none⟩) N kc) (.slice za (p + 1) zc) A (put A' p a) ln C (put C' p c)) :=
              ⟨HF.2.1, fun q => HF.2.2.1 _ q rfl, HF.2.2.2.1, HF.1, HF.2.2.2.2⟩
            clear hr HF f3 hI
            go_wp2_with (at_builtin; refine wpList_append_eq rfl _ _ 30 rfl _ _ _ (by rfl) (by rfl) (unhide HR) ?_)
            go_roundg (N - (p + 1))
            case measure => go_light; omega
            case rel => go_light; exact ⟨p + 1, _, _, _, by omega, rfl, by simp, HE.out⟩
      · obtain rfl : p = N := by omega
        have hpz : ¬ (p : Int) < (p : Int) := by omega
        obtain ⟨hF1, hF2⟩ := hS.full rfl
        have hbel := hS.kp
        have c2 : wr.cell? ⟨yb, 2, none⟩ = some (.slice none 0 0) := hS.yrow.cell (i := 2) (by decide)
        have c3 : wr.cell? ⟨yb, 3, none⟩ = some (.slice none 0 0) := hS.yrow.cell (i := 3) (by decide)
        have hrest := spr_rest yb (.pointer (some ⟨zb, 0, none⟩)) _ wr hS.yrow
        clear hS
        go_wp2_with fail
        go_loopg [10] 0 (fun q sx wx => q = 0 ∧ sx = .int .i64 0 ∧ wr = wx)
        case atStart => exact ⟨rfl, rfl, rfl⟩
        case round =>
          obtain ⟨rfl, rfl, rfl⟩ := hrel
          go_wp2_with fail
          go_loopg [13] 0 (fun q sx wx => q = 0 ∧ sx = .int .i64 0 ∧ wr = wx)
          case atStart => exact ⟨rfl, rfl, rfl⟩
          case round =>
            obtain ⟨rfl, rfl, rfl⟩ := hrel
            go_wp2_with fail
            go_at_call 76
            refine hrest.mono ?_
            rintro e w2 ⟨rfl, rfl⟩
            go_wp2_with fail
            go_ret
            exact ⟨zb, zv, A', C', rfl, hF1, hF2, hbel⟩
end Go.Proofs.Ytgpmoakfbhcidaa

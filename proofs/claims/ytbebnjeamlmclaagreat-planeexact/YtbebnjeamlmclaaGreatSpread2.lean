/- The marking of lists of ints. -/
import Derived.Test.YtbebnjeamlmclaaGreatSpread1
namespace Go.Proofs.YtbebnjeamlmclaaGreat
open Go.RowKit
set_option maxRecDepth 100000
set_option maxRecDepth 100000

theorem rows_cel {W : World} {K : Nat} {e : TypeId} {kb n c : Nat} {ks : List Value} (h : W.ownsRow K e 1 (.slice (some ⟨kb, 0, none⟩) n c) n ks) {i : Nat} {v : Value} (hv : ks[i]? = some v) : W.cell? ⟨kb, i, none⟩ = some v := by
  have := (List.getElem?_eq_some_iff.1 hv).1
  have hl := h.1
  rw [h.cellAt i (by omega)]
  exact hv
theorem rows_some {W : World} {K : Nat} {e : TypeId} {a : Option Addr} {n c : Nat} {ks : List Value} (h : W.ownsRow K e 1 (.slice a n c) n ks) (hn : 0 < n) : ∃ kb, a = some ⟨kb, 0, none⟩ := by
  obtain ⟨b, c', e, _⟩ := own_some h hn
  injection e with e1
  exact ⟨b, e1⟩
theorem rows_at {W : World} {K : Nat} {e : TypeId} {v : Value} {n i : Nat} {ks : List Value} (h : W.ownsRow K e 1 v n ks) (hi : i < n) : ∃ u, ks[i]? = some u :=
  ⟨ks[i]'(by have := h.1; omega), List.getElem?_eq_getElem _⟩

/-- The mark of list i. -/
def mI (i : Nat) : Value := .int .i64 (-1 - (i : Int))

set_option maxHeartbeats 4000000 in
theorem spr_mark (yb N : Nat) (kv : Value) (ks : List Value) (w W : World) (hN : N ≤ 1000) (hy : W.rowIs yb 61 8 (sprCell kv)) (hK : K1 w W kv N ks) :
    Calls Tryz.prog 17 #[.pointer (some ⟨yb, 0, none⟩)] W fun e w' => e = .returned (.tuple #[]) ∧ w'.rowIs yb 61 8 (sprCell kv) ∧ K2 mI w w' kv N ks N 0 := by
  obtain ⟨ka, kc, rfl, hkc, _⟩ := own_slice hK.row
  have hK2 : K2 mI w W (.slice ka N kc) N ks 0 0 := hK.marked
  clear hK
  have hNz : (N : Int) ≤ 1000 := by omega
  have hNkc : (N : Int) ≤ (kc : Int) := by omega
  go_enter Tryz.func17, Tryz.ntmps17
  go_wp2_with fail
  go_loopg [2, 3] N (fun q s2 s3 wr => ∃ (p : Nat), p ≤ N ∧ q = N - p ∧ s2 = .int .i64 p ∧ wr.rowIs yb 61 8 (sprCell (.slice ka N kc)) ∧ K2 mI w wr (.slice ka N kc) N ks p 0)
  case atStart => exact ⟨0, Nat.zero_le _, rfl, rfl, hy, hK2⟩
  case round =>
    obtain ⟨p, hp, rfl, rfl, hyr, hK⟩ := hrel
    clear hK2 hy
    have c0 : wr.cell? ⟨yb, 0, none⟩ = some (.slice ka N kc) := hyr.cell (i := 0) (by decide)
    by_cases hpi : p < N
    · have hpz : (p : Int) < (N : Int) := by omega
      obtain ⟨kb, rfl⟩ := rows_some hK.base.row (by omega)
      obtain ⟨v, hv⟩ := rows_at hK.base.row hpi
      obtain ⟨n, _, hn, ho, _⟩ := hK.marks p v hv
      obtain ⟨a, c, rfl, hnc, ha⟩ := own_slice ho
      clear ho
      have hnz : (n : Int) ≤ 1048576 := by omega
      have hncz : (n : Int) ≤ (c : Int) := by omega
      go_wp2_with fail
      clear c0
      go_loopg [3] n (fun q s3 wr => ∃ (k : Nat), k ≤ n ∧ q = n - k ∧ s3 = .int .i64 k ∧ wr.rowIs yb 61 8 (sprCell (.slice (some ⟨kb, 0, none⟩) N kc)) ∧ K2 mI w wr (.slice (some ⟨kb, 0, none⟩) N kc) N ks p k)
      case atStart => exact ⟨0, Nat.zero_le _, rfl, rfl, hyr, hK⟩
      case round =>
        obtain ⟨k, hk, rfl, rfl, hyr', hK'⟩ := hrel
        clear hK hyr
        have c0 : wr.cell? ⟨yb, 0, none⟩ = some (.slice (some ⟨kb, 0, none⟩) N kc) := hyr'.cell (i := 0) (by decide)
        have hcell := rows_cel hK'.base.row hv
        by_cases hkn : k < n
        · have hkz : (k : Int) < (n : Int) := by omega
          obtain ⟨m, zs, _, ho, _⟩ := hK'.marks p _ hv
          obtain ⟨g, c', eq, hgb, _, _, _⟩ := own_some ho (by
            obtain ⟨a2, c2, e2, _⟩ := own_slice ho
            have : n = m := by injection e2
            omega)
          obtain ⟨rfl, rfl, rfl⟩ : a = some ⟨g, 0, none⟩ ∧ n = m ∧ c = c' := by injection eq with e1 e2 e3; exact ⟨e1, e2, e3⟩
          have hlz : zs.length = n := by have := ho.1; omega
          have hgk : wr.cell? ⟨g, k, none⟩ = some zs[k] := by rw [ho.cellAt k (by omega)]; exact List.getElem?_eq_getElem (by omega)
          have hgf := ho.frozenAt k
          obtain ⟨z, hz'⟩ : ∃ z, zs[k] = z := ⟨_, rfl⟩
          rw [hz'] at hgk
          have hyg : yb ≠ g := fun e => row_apart ho hyr' (by decide) (by rw [e]; rfl)
          clear ho hz' hlz
          have hKs := hK'.store hv hkn
          have hys : (wr.setCell ⟨g, k, none⟩ (mI p)).rowIs yb 61 8 (sprCell (.slice (some ⟨kb, 0, none⟩) N kc)) := hyr'.of_block (Below.heap_setCell _ _ _ _ hyg)
          have hmark : (mI p) = .int .i64 (-1 - (p : Int)) := rfl
          rw [hmark] at hKs hys
          clear hK' hyr'
          go_wp2_with fail
          go_roundg (n - (k + 1))
          case measure => omega
          case rel => exact ⟨k + 1, by omega, rfl, by go_num, hys, hKs⟩
        · have hkz : ¬ (k : Int) < (n : Int) := by omega
          have hK3 := hK'.next hv rfl (by omega)
          clear hK'
          go_wp2_with fail
          go_roundg (N - (p + 1))
          case measure => omega
          case rel => exact ⟨p + 1, by omega, rfl, by go_num, hyr', hK3⟩
    · have hpz : ¬ (p : Int) < (N : Int) := by omega
      obtain rfl : p = N := by omega
      have c1 : wr.cell? ⟨yb, 1, none⟩ = some (.slice none 0 0) := hyr.cell (i := 1) (by decide)
      have c2 : wr.cell? ⟨yb, 2, none⟩ = some (.slice none 0 0) := hyr.cell (i := 2) (by decide)
      have c3 : wr.cell? ⟨yb, 3, none⟩ = some (.slice none 0 0) := hyr.cell (i := 3) (by decide)
      have c4 : wr.cell? ⟨yb, 4, none⟩ = some (.slice none 0 0) := hyr.cell (i := 4) (by decide)
      have c5 : wr.cell? ⟨yb, 5, none⟩ = some (.slice none 0 0) := hyr.cell (i := 5) (by decide)
      have c6 : wr.cell? ⟨yb, 6, none⟩ = some (.slice none 0 0) := hyr.cell (i := 6) (by decide)
      have c7 : wr.cell? ⟨yb, 7, none⟩ = some (.slice none 0 0) := hyr.cell (i := 7) (by decide)
      go_wp2_with fail
      go_loopg [4] 0 (fun q s4 wx => q = 0 ∧ s4 = .int .i64 0 ∧ wr = wx)
      case atStart => exact ⟨rfl, rfl, rfl⟩
      case round =>
        obtain ⟨rfl, rfl, rfl⟩ := hrel
        go_wp2_with fail
        go_loopg [6] 0 (fun q s6 wx => q = 0 ∧ s6 = .int .i64 0 ∧ wr = wx)
        case atStart => exact ⟨rfl, rfl, rfl⟩
        case round =>
          obtain ⟨rfl, rfl, rfl⟩ := hrel
          go_wp2_with fail
          go_loopg [8] 0 (fun q s8 wx => q = 0 ∧ s8 = .int .i64 0 ∧ wr = wx)
          case atStart => exact ⟨rfl, rfl, rfl⟩
          case round =>
            obtain ⟨rfl, rfl, rfl⟩ := hrel
            go_wp2_with fail
            go_loopg [10] 0 (fun q s10 wx => q = 0 ∧ s10 = .int .i64 0 ∧ wr = wx)
            case atStart => exact ⟨rfl, rfl, rfl⟩
            case round =>
              obtain ⟨rfl, rfl, rfl⟩ := hrel
              go_wp2_with fail
              go_loopg [12] 0 (fun q s12 wx => q = 0 ∧ s12 = .int .i64 0 ∧ wr = wx)
              case atStart => exact ⟨rfl, rfl, rfl⟩
              case round =>
                obtain ⟨rfl, rfl, rfl⟩ := hrel
                go_wp2_with fail
                go_loopg [14] 0 (fun q s14 wx => q = 0 ∧ s14 = .int .i64 0 ∧ wr = wx)
                case atStart => exact ⟨rfl, rfl, rfl⟩
                case round =>
                  obtain ⟨rfl, rfl, rfl⟩ := hrel
                  go_wp2_with fail
                  go_loopg [16] 0 (fun q s16 wx => q = 0 ∧ s16 = .int .i64 0 ∧ wr = wx)
                  case atStart => exact ⟨rfl, rfl, rfl⟩
                  case round =>
                    obtain ⟨rfl, rfl, rfl⟩ := hrel
                    go_wp2_with fail
                    go_end0
                    exact ⟨rfl, hyr, hK⟩
end Go.Proofs.YtbebnjeamlmclaaGreat

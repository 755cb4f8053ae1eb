/- Plain facts: the sum by long division from the highest bit is the sum by the mirrored register. -/
import Derived.Test.YthoeehgnkolgpaaDoorOrder
namespace Go.Proofs.YthoeehgnkolgpaaDoor.Crc

def mirGo : Nat → Nat → Nat → Nat
  | 0, _, m => m
  | k + 1, n, m => mirGo k (n / 2) (m * 2 + n % 2)
def mir (n : Nat) : Nat := mirGo 32 n 0
def mstep (r b : Nat) : Nat := ((2 * r + b) % 4294967296) ^^^ (if r / 2147483648 = 1 then 79764919 else 0)

theorem add_xor (a x : Nat) (hx : x < 2) : 2 * a + x = (2 * a) ^^^ x := by
  have h := split2 (2 * a + x)
  rw [show (2 * a + x) / 2 = a by omega, show (2 * a + x) % 2 = x by omega] at h
  exact h
theorem xor_two (a b : Nat) : 2 * (a ^^^ b) = (2 * a) ^^^ (2 * b) := by
  have h := Nat.shiftLeft_xor_distrib (a := a) (b := b) (i := 1)
  simp only [Nat.shiftLeft_eq] at h
  rw [Nat.mul_comm 2, Nat.mul_comm 2, Nat.mul_comm 2]; simpa using h
theorem join_xor (a b x y : Nat) (hx : x < 2) (hy : y < 2) : (a ^^^ b) * 2 + (x ^^^ y) = (a * 2 + x) ^^^ (b * 2 + y) := by
  have hxy : x ^^^ y < 2 := Nat.xor_lt_two_pow (n := 1) hx hy
  rw [Nat.mul_comm _ 2, Nat.mul_comm a 2, Nat.mul_comm b 2, add_xor _ _ hxy, add_xor _ _ hx, add_xor _ _ hy, xor_two, xor4]
theorem mirGo_xor : ∀ (k a b m n : Nat), mirGo k (a ^^^ b) (m ^^^ n) = mirGo k a m ^^^ mirGo k b n
  | 0, _, _, _, _ => rfl
  | k + 1, a, b, m, n => by
    show mirGo k ((a ^^^ b) / 2) ((m ^^^ n) * 2 + (a ^^^ b) % 2) = _
    rw [xor_div2, xor_mod2, join_xor _ _ _ _ (by omega) (by omega), mirGo_xor k]; rfl
theorem mir_xor (a b : Nat) : mir (a ^^^ b) = mir a ^^^ mir b := mirGo_xor 32 a b 0 0
theorem mstep_bit (r b : Nat) (hb : b < 2) : mstep r b = mstep r 0 ^^^ b := by
  unfold mstep
  have h1 : (2 * r + b) % 4294967296 = ((2 * r + 0) % 4294967296) ^^^ b := by
    have h := add_xor (r % 2147483648) b hb
    rw [show (2 * r + b) % 4294967296 = 2 * (r % 2147483648) + b by omega, show (2 * r + 0) % 4294967296 = 2 * (r % 2147483648) by omega]
    exact h
  rw [h1, Nat.xor_assoc, Nat.xor_assoc]; congr 1; exact Nat.xor_comm _ _
theorem div31_xor (a b : Nat) : (a ^^^ b) / 2147483648 = (a / 2147483648) ^^^ (b / 2147483648) := by
  have := Nat.shiftRight_xor_distrib (a := a) (b := b) (i := 31)
  simpa [Nat.shiftRight_eq_div_pow] using this
theorem mstep_xor (a b : Nat) (ha : a < 4294967296) (hb : b < 4294967296) : mstep (a ^^^ b) 0 = mstep a 0 ^^^ mstep b 0 := by
  unfold mstep
  have h1 : (2 * (a ^^^ b) + 0) % 4294967296 = ((2 * a + 0) % 4294967296) ^^^ ((2 * b + 0) % 4294967296) := by
    rw [Nat.add_zero, Nat.add_zero, Nat.add_zero, xor_two]
    exact Nat.xor_mod_two_pow (a := 2 * a) (b := 2 * b) (n := 32)
  rw [h1, div31_xor, xor4]
  congr 1
  have ha' : a / 2147483648 = 0 ∨ a / 2147483648 = 1 := by omega
  have hb' : b / 2147483648 = 0 ∨ b / 2147483648 = 1 := by omega
  rcases ha' with h | h <;> rcases hb' with g | g <;> rw [h, g] <;> simp
/-- Two linear maps that agree at the powers of two. -/
theorem lin_app (F : Nat → Nat) (hF : ∀ a b, a < 4294967296 → b < 4294967296 → F (a ^^^ b) = F a ^^^ F b) (h0 : F 0 = 0) : ∀ (n a v : Nat), a + n ≤ 32 → v < 2 ^ n → app ((List.range n).map fun i => F (2 ^ (a + i))) v = F (2 ^ a * v) := by
  intro n
  induction n with
  | zero => intro a v _ h; obtain rfl : v = 0 := by simpa using h
            simp [app, h0]
  | succ n ih =>
    intro a v ha h
    rw [List.range_succ_eq_map, List.map_cons, List.map_map]
    show (if v % 2 = 1 then F (2 ^ (a + 0)) else 0) ^^^ app _ (v / 2) = _
    have hm : ((fun i => F (2 ^ (a + i))) ∘ Nat.succ) = fun i => F (2 ^ ((a + 1) + i)) := by
      funext i; show F (2 ^ (a + (i + 1))) = _; congr 2; omega
    rw [hm, ih (a + 1) (v / 2) (by omega) (by rw [Nat.pow_succ] at h; omega)]
    have hv : 2 ^ a * v = (2 ^ (a + 1) * (v / 2)) ^^^ (2 ^ a * (v % 2)) := by
      have h2 : v <<< a = ((2 * (v / 2)) <<< a) ^^^ ((v % 2) <<< a) := by rw [← Nat.shiftLeft_xor_distrib, ← split2]
      rw [Nat.shiftLeft_eq, Nat.shiftLeft_eq, Nat.shiftLeft_eq] at h2
      rw [Nat.mul_comm, h2, Nat.pow_succ, show 2 * (v / 2) * 2 ^ a = 2 ^ a * 2 * (v / 2) by ac_rfl, Nat.mul_comm (v % 2)]
    have hbig : 2 ^ (a + 1) * (v / 2) < 4294967296 := by
      have h3 : v / 2 < 2 ^ n := by rw [Nat.pow_succ] at h; omega
      have h4 : 2 ^ (a + 1) * (v / 2) < 2 ^ (a + 1) * 2 ^ n := Nat.mul_lt_mul_of_pos_left h3 (Nat.two_pow_pos _)
      rw [← Nat.pow_add] at h4
      have h5 : 2 ^ (a + 1 + n) ≤ 2 ^ 32 := Nat.pow_le_pow_right (by decide) (by omega)
      exact Nat.lt_of_lt_of_le h4 h5
    have hsm : 2 ^ a * (v % 2) < 4294967296 := by
      have h5 : 2 ^ a < 2 ^ 32 := Nat.pow_lt_pow_right (by decide) (by omega)
      rcases Nat.mod_two_eq_zero_or_one v with e | e <;> rw [e]
      · simp
      · rw [Nat.mul_one]; exact h5
    rw [hv, hF _ _ hbig hsm, Nat.xor_comm]
    congr 1
    rcases Nat.mod_two_eq_zero_or_one v with e | e <;> rw [e]
    · simp [h0]
    · simp
theorem lin_ext (F G : Nat → Nat) (hF : ∀ a b, a < 4294967296 → b < 4294967296 → F (a ^^^ b) = F a ^^^ F b) (hG : ∀ a b, a < 4294967296 → b < 4294967296 → G (a ^^^ b) = G a ^^^ G b) (h0 : F 0 = 0) (g0 : G 0 = 0)
    (h : ∀ i : Fin 32, F (2 ^ i.val) = G (2 ^ i.val)) (v : Nat) (hv : v < 4294967296) : F v = G v := by
  have a := lin_app F hF h0 32 0 v (by decide) hv
  have b := lin_app G hG g0 32 0 v (by decide) hv
  have e : ((List.range 32).map fun i => F (2 ^ (0 + i))) = (List.range 32).map fun i => G (2 ^ (0 + i)) := List.map_congr_left (fun i hi => by
    have := h ⟨i, List.mem_range.1 hi⟩
    simpa using this)
  rw [Nat.pow_zero, Nat.one_mul] at a b
  rw [← a, ← b, e]
theorem mstep_lt (r b : Nat) : mstep r b < 4294967296 := by
  unfold mstep
  refine Nat.xor_lt_two_pow (n := 32) (Nat.mod_lt _ (by decide)) ?_
  split <;> decide
theorem mir_step0 (r : Nat) (hr : r < 4294967296) : mir (mstep r 0) = step (mir r) :=
  lin_ext (fun r => mir (mstep r 0)) (fun r => step (mir r)) (fun a b ha hb => by rw [mstep_xor a b ha hb, mir_xor]) (fun a b _ _ => by rw [mir_xor, step_xor]) (by decide +kernel) (by decide +kernel) (by decide +kernel) r hr
theorem mir_step (r b : Nat) (hr : r < 4294967296) (hb : b < 2) : mir (mstep r b) = step (mir r) ^^^ (2147483648 * b) := by
  rw [mstep_bit r b hb, mir_xor, mir_step0 r hr]
  congr 1
  have : b = 0 ∨ b = 1 := by omega
  rcases this with rfl | rfl <;> decide +kernel

/-- The register that takes its bits in at the top; the one that takes them in below. -/
def ms (b : Nat → Nat) : Nat → Nat
  | 0 => 0
  | q + 1 => step (ms b q) ^^^ (2147483648 * b q)
def dsr (b : Nat → Nat) : Nat → Nat
  | 0 => 0
  | q + 1 => step (dsr b q ^^^ b q)
theorem it_step (k s : Nat) : it k (step s) = step (it k s) := by
  have h1 : it (k + 1) s = it k (it 1 s) := it_add k 1 s
  exact h1.symm
theorem it_top (b : Nat) : it 32 (2147483648 * b) = step b := by
  have h1 := it_shift 31 b
  have h2 : it (1 + 31) (2 ^ 31 * b) = it 1 (it 31 (2 ^ 31 * b)) := it_add 1 31 _
  rw [h1] at h2
  exact h2
theorem ms_ds (b : Nat → Nat) : ∀ q, it 32 (ms b q) = dsr b q
  | 0 => by rw [ms, dsr]; exact it_zero 32
  | q + 1 => by
    rw [ms, dsr, it_xor, step_xor, it_step, it_top, ms_ds b q]
theorem ms_xor (b c : Nat → Nat) (hb : ∀ q, b q < 2) (hc : ∀ q, c q < 2) : ∀ q, ms (fun k => b k ^^^ c k) q = ms b q ^^^ ms c q
  | 0 => by simp [ms]
  | q + 1 => by
    show step (ms _ q) ^^^ (2147483648 * (b q ^^^ c q)) = (step (ms b q) ^^^ _) ^^^ (step (ms c q) ^^^ _)
    rw [ms_xor b c hb hc q, step_xor, xor4]
    congr 1
    have h1 : b q = 0 ∨ b q = 1 := by have := hb q; omega
    have h2 : c q = 0 ∨ c q = 1 := by have := hc q; omega
    rcases h1 with h | h <;> rcases h2 with g | g <;> rw [h, g] <;> decide
theorem ms_zero (b : Nat → Nat) (q0 : Nat) (h : ∀ q, q0 ≤ q → b q = 0) : ∀ d, ms b (q0 + d) = it d (ms b q0)
  | 0 => rfl
  | d + 1 => by
    show step (ms b (q0 + d)) ^^^ (2147483648 * b (q0 + d)) = step (it d (ms b q0))
    rw [h _ (by omega), Nat.mul_zero, Nat.xor_zero, ms_zero b q0 h d]

/-- The bits of a text. -/
def bitOf (len : Nat) (x : Nat → Nat) (q : Nat) : Nat := if q / 8 < len then x (q / 8) / 2 ^ (q % 8) % 2 else 0
def inv (q : Nat) : Nat := if q < 32 then 1 else 0
theorem bitOf_lt (len : Nat) (x : Nat → Nat) (q : Nat) : bitOf len x q < 2 := by unfold bitOf; split <;> omega
theorem inv_lt (q : Nat) : inv q < 2 := by unfold inv; split <;> decide
theorem dsr_bits (len : Nat) (x : Nat → Nat) (i : Nat) (hi : i < len) (h : dsr (bitOf len x) (8 * i) = fold 0 ((List.range i).map x)) : ∀ j, j ≤ 8 → dsr (bitOf len x) (8 * i + j) = it j (fold 0 ((List.range i).map x) ^^^ (x i % 2 ^ j))
  | 0, _ => by rw [Nat.pow_zero, Nat.mod_one, Nat.xor_zero]; exact h
  | j + 1, hj => by
    show step (dsr (bitOf len x) (8 * i + j) ^^^ bitOf len x (8 * i + j)) = step (it j _)
    rw [dsr_bits len x i hi h j (by omega), mod_succ, ← Nat.xor_assoc, it_xor j (_ ^^^ _)]
    congr 2
    unfold bitOf
    rw [show (8 * i + j) / 8 = i by omega, show (8 * i + j) % 8 = j by omega, if_pos hi]
    rcases Nat.mod_two_eq_zero_or_one (x i / 2 ^ j) with e | e <;> rw [e]
    · simp [it_zero]
    · simp [it_pow]
theorem dsr_fold (len : Nat) (x : Nat → Nat) (hx : ∀ j, x j < 256) : ∀ i, i ≤ len → dsr (bitOf len x) (8 * i) = fold 0 ((List.range i).map x)
  | 0, _ => rfl
  | i + 1, hi => by
    have h := dsr_bits len x i (by omega) (dsr_fold len x hx i (by omega)) 8 (Nat.le_refl _)
    rw [show 8 * (i + 1) = 8 * i + 8 by omega, h, List.range_succ, List.map_append, List.map_cons, List.map_nil, fold_snoc, byte_it, Nat.mod_eq_of_lt (hx i)]
theorem fold_zero_bytes (s : Nat) : ∀ n, fold s ((List.range n).map fun _ => 0) = it (8 * n) s
  | 0 => rfl
  | n + 1 => by
    rw [List.range_succ, List.map_append, List.map_cons, List.map_nil, fold_snoc, fold_zero_bytes s n, byte_it, Nat.xor_zero, ← it_add, show 8 + 8 * n = 8 * (n + 1) by omega]
/-- THE LONG DIVISION's REST, MIRRORED. -/
theorem ms_sum (len : Nat) (x : Nat → Nat) (hx : ∀ j, x j < 256) : ms (fun q => bitOf len x q ^^^ inv q) (8 * (len + 4)) = fold 4294967295 ((List.range len).map x) := by
  rw [ms_xor _ _ (bitOf_lt len x) inv_lt]
  have h1 : ms (bitOf len x) (8 * (len + 4)) = fold 0 ((List.range len).map x) := by
    rw [show 8 * (len + 4) = 8 * len + 32 by omega, ms_zero (bitOf len x) (8 * len) (fun q hq => by unfold bitOf; rw [if_neg (by omega)]) 32, ms_ds, dsr_fold len x hx len (Nat.le_refl _)]
  have h2 : ms inv (8 * (len + 4)) = it (8 * len) 4294967295 := by
    rw [show 8 * (len + 4) = 32 + 8 * len by omega, ms_zero inv 32 (fun q hq => by unfold inv; rw [if_neg (by omega)]), show ms inv 32 = 4294967295 by decide +kernel]
  have h3 := fold_map_xor len 4294967295 0 (fun _ => 0) x
  rw [Nat.xor_zero, fold_zero_bytes] at h3
  simp only [Nat.zero_xor] at h3
  rw [h1, h2, h3, Nat.xor_comm]
end Go.Proofs.YthoeehgnkolgpaaDoor.Crc

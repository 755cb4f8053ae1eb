/- Plain facts on the order of the register's step: behind fewer than 2 to the 32 less one steps a lone bit does not come back. -/
import Derived.Test.YthoeehgnkolgpaaDoorBits
namespace Go.Proofs.YthoeehgnkolgpaaDoor.Crc

/-- A linear map by what it makes of the powers of two. -/
def app : List Nat → Nat → Nat
  | [], _ => 0
  | m :: r, v => (if v % 2 = 1 then m else 0) ^^^ app r (v / 2)
def sq (M : List Nat) : List Nat := M.map (app M)
/-- e rounds of the map, by squaring. -/
def pw : Nat → List Nat → Nat → Nat → Nat
  | 0, _, _, v => v
  | f + 1, M, e, v => pw f (sq M) (e / 2) (if e % 2 = 1 then app M v else v)
def cols : List Nat := [poly, 1, 2, 4, 8, 16, 32, 64, 128, 256, 512, 1024, 2048, 4096, 8192, 16384, 32768, 65536, 131072, 262144, 524288, 1048576, 2097152, 4194304, 8388608, 16777216, 33554432, 67108864, 134217728, 268435456, 536870912, 1073741824]

def Rep (M : List Nat) (d : Nat) : Prop := M = (List.range 32).map fun i => it d (2 ^ i)
theorem rep_cols : Rep cols 1 := by unfold Rep; decide +kernel
theorem split2 (v : Nat) : v = (2 * (v / 2)) ^^^ (v % 2) := by
  apply Nat.eq_of_testBit_eq
  intro i
  rw [Nat.testBit_xor]
  cases i with
  | zero => simp [Nat.testBit_zero]
  | succ i =>
    have h1 : (2 * (v / 2)).testBit (i + 1) = v.testBit (i + 1) := by
      rw [Nat.testBit_succ, Nat.testBit_succ]; congr 1; omega
    have h2 : (v % 2).testBit (i + 1) = false := by
      rw [Nat.testBit_succ]; have : v % 2 / 2 = 0 := by omega
      rw [this, Nat.zero_testBit]
    rw [h1, h2]; simp
theorem app_gen (d : Nat) : ∀ (n a v : Nat), v < 2 ^ n → app ((List.range n).map fun i => it d (2 ^ (a + i))) v = it d (2 ^ a * v) := by
  intro n
  induction n with
  | zero => intro a v h; obtain rfl : v = 0 := by simpa using h
            simp [app, it_zero]
  | succ n ih =>
    intro a v h
    rw [List.range_succ_eq_map, List.map_cons, List.map_map]
    show (if v % 2 = 1 then it d (2 ^ (a + 0)) else 0) ^^^ app _ (v / 2) = _
    have hm : ((fun i => it d (2 ^ (a + i))) ∘ Nat.succ) = fun i => it d (2 ^ ((a + 1) + i)) := by
      funext i; show it d (2 ^ (a + (i + 1))) = _; congr 2; omega
    rw [hm, ih (a + 1) (v / 2) (by rw [Nat.pow_succ] at h; omega)]
    have hv : 2 ^ a * v = (2 ^ (a + 1) * (v / 2)) ^^^ (2 ^ a * (v % 2)) := by
      have h2 : v <<< a = ((2 * (v / 2)) <<< a) ^^^ ((v % 2) <<< a) := by rw [← Nat.shiftLeft_xor_distrib, ← split2]
      rw [Nat.shiftLeft_eq, Nat.shiftLeft_eq, Nat.shiftLeft_eq] at h2
      rw [Nat.mul_comm, h2, Nat.pow_succ, show 2 * (v / 2) * 2 ^ a = 2 ^ a * 2 * (v / 2) by ac_rfl, Nat.mul_comm (v % 2)]
    rw [hv, it_xor, Nat.xor_comm]
    congr 1
    rcases Nat.mod_two_eq_zero_or_one v with e | e <;> rw [e]
    · simp [it_zero]
    · simp
theorem app_rep {M : List Nat} {d : Nat} (h : Rep M d) (v : Nat) (hv : v < 4294967296) : app M v = it d v := by
  rw [h]
  have := app_gen d 32 0 v hv
  simpa using this
theorem rep_sq {M : List Nat} {d : Nat} (h : Rep M d) : Rep (sq M) (d + d) := by
  unfold Rep sq
  conv => lhs; arg 2; rw [h]
  rw [List.map_map]
  apply List.map_congr_left
  intro i hi
  have hi' := List.mem_range.1 hi
  show app M (it d (2 ^ i)) = _
  rw [app_rep h _ (it_lt d _ (Nat.pow_lt_pow_right (by decide) hi')), it_add]
theorem pw_rep : ∀ (f : Nat) (M : List Nat) (d e v : Nat), Rep M d → e < 2 ^ f → v < 4294967296 → pw f M e v = it (d * e) v := by
  intro f
  induction f with
  | zero => intro M d e v _ he _; obtain rfl : e = 0 := by simpa using he
            rfl
  | succ f ih =>
    intro M d e v h he hv
    show pw f (sq M) (e / 2) _ = _
    rw [ih (sq M) (d + d) (e / 2) _ (rep_sq h) (by rw [Nat.pow_succ] at he; omega) (by
      split
      · rw [app_rep h v hv]; exact it_lt d v hv
      · exact hv)]
    by_cases hb : e % 2 = 1
    · rw [if_pos hb, app_rep h v hv, ← it_add]
      congr 1
      have : e = 2 * (e / 2) + 1 := by omega
      conv => rhs; rw [this]
      rw [Nat.mul_add, Nat.mul_one, ← Nat.mul_assoc, Nat.mul_comm d 2, Nat.two_mul]
    · rw [if_neg hb]
      congr 1
      have : e = 2 * (e / 2) := by omega
      conv => rhs; rw [this]
      rw [← Nat.mul_assoc, Nat.mul_comm d 2, Nat.two_mul]
theorem it_pw (e : Nat) (he : e < 2 ^ 32) : it e 1 = pw 32 cols e 1 := by
  have := pw_rep 32 cols 1 e 1 rep_cols he (by decide)
  rw [Nat.one_mul] at this
  exact this.symm
theorem full : it 4294967295 1 = 1 := by rw [it_pw _ (by decide)]; decide +kernel
theorem part3 : it 1431655765 1 ≠ 1 := by rw [it_pw _ (by decide)]; decide +kernel
theorem part5 : it 858993459 1 ≠ 1 := by rw [it_pw _ (by decide)]; decide +kernel
theorem part17 : it 252645135 1 ≠ 1 := by rw [it_pw _ (by decide)]; decide +kernel
theorem part257 : it 16711935 1 ≠ 1 := by rw [it_pw _ (by decide)]; decide +kernel
theorem part65537 : it 65535 1 ≠ 1 := by rw [it_pw _ (by decide)]; decide +kernel

/-- What brings a lone bit back: closed under remainders, so under gcd. -/
theorem it_mul (d k : Nat) (h : it d 1 = 1) : it (d * k) 1 = 1 := by
  induction k with
  | zero => rfl
  | succ k ih => rw [Nat.mul_succ, it_add, h, ih]
theorem it_mod (a b : Nat) (ha : it a 1 = 1) (hb : it b 1 = 1) : it (a % b) 1 = 1 := by
  have e : a = b * (a / b) + a % b := (Nat.div_add_mod a b).symm
  have hx : it (b * (a / b)) (it (a % b) 1) = 1 := by rw [← it_add, ← e]; exact ha
  refine it_inj (b * (a / b)) _ _ (it_lt _ _ (by decide)) (by decide) ?_
  rw [hx, it_mul b _ hb]
theorem it_gcd (a b : Nat) (ha : it a 1 = 1) (hb : it b 1 = 1) : it (Nat.gcd a b) 1 = 1 := by
  induction a, b using Nat.gcd.induction with
  | H0 n => simpa using hb
  | H1 m n hm ih => rw [Nat.gcd_rec]; exact ih (it_mod n m hb ha) ha

/-- A number that divides a prime. -/
theorem div_prime (p r : Nat) (hr : p < (r + 1) * (r + 1)) (hs : ∀ k : Fin (r + 1), 2 ≤ k.val → p % k.val ≠ 0) (hp : 1 < p) (d : Nat) (h : d ∣ p) : d = 1 ∨ d = p := by
  obtain ⟨e, he⟩ := h
  have hd0 : d ≠ 0 := by rintro rfl; simp at he; omega
  have he0 : e ≠ 0 := by rintro rfl; simp at he; omega
  rcases Nat.lt_or_ge d (r + 1) with h1 | h1
  · rcases Nat.lt_or_ge d 2 with h2 | h2
    · left; omega
    · exact absurd (by rw [he]; simp) (hs ⟨d, h1⟩ h2)
  · have h3 : e < r + 1 := by
      rcases Nat.lt_or_ge e (r + 1) with h4 | h4
      · exact h4
      · have := Nat.mul_le_mul h1 h4; omega
    rcases Nat.lt_or_ge e 2 with h2 | h2
    · right; obtain rfl : e = 1 := by omega
      omega
    · exact absurd (by rw [he]; simp) (hs ⟨e, h3⟩ h2)
theorem gcd_prime (p m : Nat) (hp : ∀ d, d ∣ p → d = 1 ∨ d = p) (h : ¬ p ∣ m) : Nat.Coprime m p := by
  rcases hp _ (Nat.gcd_dvd_right m p) with e | e
  · exact e
  · exact absurd (e ▸ Nat.gcd_dvd_left m p) h
theorem parts (m : Nat) (h : m ∣ 4294967295) (h1 : m ≠ 1) : 3 ∣ m ∨ 5 ∣ m ∨ 17 ∣ m ∨ 257 ∣ m ∨ 65537 ∣ m := by
  by_cases a : 3 ∣ m
  · exact Or.inl a
  by_cases b : 5 ∣ m
  · exact Or.inr (Or.inl b)
  by_cases c : 17 ∣ m
  · exact Or.inr (Or.inr (Or.inl c))
  by_cases d : 257 ∣ m
  · exact Or.inr (Or.inr (Or.inr (Or.inl d)))
  by_cases e : 65537 ∣ m
  · exact Or.inr (Or.inr (Or.inr (Or.inr e)))
  exfalso
  have ca := gcd_prime 3 m (div_prime 3 1 (by decide) (by decide) (by decide)) a
  have cb := gcd_prime 5 m (div_prime 5 2 (by decide) (by decide) (by decide)) b
  have cc := gcd_prime 17 m (div_prime 17 4 (by decide) (by decide) (by decide)) c
  have cd := gcd_prime 257 m (div_prime 257 16 (by decide) (by decide +kernel) (by decide)) d
  have ce := gcd_prime 65537 m (div_prime 65537 256 (by decide) (by decide +kernel) (by decide)) e
  have call : Nat.Coprime m (3 * (5 * (17 * (257 * 65537)))) := ca.mul_right (cb.mul_right (cc.mul_right (cd.mul_right ce)))
  have : m ∣ 3 * (5 * (17 * (257 * 65537))) := h
  exact h1 (call.eq_one_of_dvd this)
/-- TWO BITS ARE TOLD. -/
theorem no_return (d : Nat) (h0 : 0 < d) (hd : d < 4294967295) : it d 1 ≠ 1 := by
  intro h
  have hg := it_gcd d 4294967295 h full
  obtain ⟨m, hm⟩ := Nat.gcd_dvd_right d 4294967295
  have hle : Nat.gcd d 4294967295 ≤ d := Nat.gcd_le_left _ h0
  generalize Nat.gcd d 4294967295 = g at *
  have hm1 : m ≠ 1 := by rintro rfl; omega
  have key : ∀ p q, p * q = 4294967295 → 0 < p → p ∣ m → it q 1 = 1 := by
    intro p q hpq hp0 hp
    obtain ⟨k, rfl⟩ := hp
    have : q = g * k := by
      have : p * q = p * (g * k) := by rw [hpq, hm]; ac_rfl
      exact Nat.eq_of_mul_eq_mul_left hp0 this
    rw [this]; exact it_mul g k hg
  rcases parts m ⟨g, by rw [hm, Nat.mul_comm]⟩ hm1 with a | a | a | a | a
  · exact part3 (key 3 _ (by decide) (by decide) a)
  · exact part5 (key 5 _ (by decide) (by decide) a)
  · exact part17 (key 17 _ (by decide) (by decide) a)
  · exact part257 (key 257 _ (by decide) (by decide) a)
  · exact part65537 (key 65537 _ (by decide) (by decide) a)
end Go.Proofs.YthoeehgnkolgpaaDoor.Crc

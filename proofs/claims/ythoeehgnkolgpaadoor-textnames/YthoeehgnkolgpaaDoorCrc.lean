/- Plain facts on the check sum by four bits at a time: it is linear under exclusive or. -/
namespace Go.Proofs.YthoeehgnkolgpaaDoor.Crc
def tab : List Int := [0, 498536548, 997073096, 651767980, 1994146192, 1802195444, 1303535960, 1342533948, 3988292384, 4027552580, 3604390888, 3412177804, 2607071920, 2262029012, 2685067896, 3183342108]
def T (i : Nat) : Nat := (tab.getD i 0).toNat
def half (s : Nat) : Nat := (s / 16) ^^^ T (s % 16)
def byte (s c : Nat) : Nat := half (half (s ^^^ c))
def fold (s : Nat) (l : List Nat) : Nat := l.foldl byte s
def sum (l : List Nat) : Nat := fold 4294967295 l ^^^ 4294967295

theorem T_lt (i : Nat) : T i < 4294967296 := by
  unfold T
  rcases Nat.lt_or_ge i 16 with h | h
  · have : ∀ i : Fin 16, (tab.getD i.val 0).toNat < 4294967296 := by decide +kernel
    exact this ⟨i, h⟩
  · have e : tab.getD i 0 = 0 := by
      rw [List.getD_eq_getElem?_getD, List.getElem?_eq_none (by exact h)]; rfl
    rw [e]; decide
theorem T_xor16 : ∀ a b : Fin 16, T (a.val ^^^ b.val) = T a.val ^^^ T b.val := by decide +kernel
theorem T_xor (a b : Nat) (ha : a < 16) (hb : b < 16) : T (a ^^^ b) = T a ^^^ T b := T_xor16 ⟨a, ha⟩ ⟨b, hb⟩
theorem half_lt (s : Nat) (h : s < 4294967296) : half s < 4294967296 :=
  Nat.xor_lt_two_pow (n := 32) (by show s / 16 < 4294967296; omega) (T_lt _)
theorem byte_lt (s c : Nat) (h : s < 4294967296) (hc : c < 4294967296) : byte s c < 4294967296 :=
  half_lt _ (half_lt _ (Nat.xor_lt_two_pow (n := 32) h hc))
theorem xor_div16 (a b : Nat) : (a ^^^ b) / 16 = (a / 16) ^^^ (b / 16) := by
  have := Nat.shiftRight_xor_distrib (a := a) (b := b) (i := 4)
  simpa [Nat.shiftRight_eq_div_pow] using this
theorem xor_mod16 (a b : Nat) : (a ^^^ b) % 16 = (a % 16) ^^^ (b % 16) := by
  simpa using Nat.xor_mod_two_pow (a := a) (b := b) (n := 4)
theorem xor4 (a b c d : Nat) : (a ^^^ b) ^^^ (c ^^^ d) = (a ^^^ c) ^^^ (b ^^^ d) := by
  rw [Nat.xor_assoc, Nat.xor_assoc]; congr 1; rw [← Nat.xor_assoc, ← Nat.xor_assoc, Nat.xor_comm b c]
theorem half_xor (a b : Nat) : half (a ^^^ b) = half a ^^^ half b := by
  unfold half
  rw [xor_div16, xor_mod16, T_xor _ _ (Nat.mod_lt _ (by decide)) (Nat.mod_lt _ (by decide)), xor4]
theorem byte_xor (a b c d : Nat) : byte (a ^^^ b) (c ^^^ d) = byte a c ^^^ byte b d := by
  unfold byte; rw [xor4, half_xor, half_xor]
theorem fold_snoc (s : Nat) (l : List Nat) (c : Nat) : fold s (l ++ [c]) = byte (fold s l) c := by
  unfold fold; rw [List.foldl_append]; rfl
theorem fold_lt (s : Nat) (l : List Nat) (h : s < 4294967296) (hl : ∀ c, c ∈ l → c < 256) : fold s l < 4294967296 := by
  induction l generalizing s with
  | nil => exact h
  | cons c r ih =>
    exact ih (byte s c) (byte_lt _ _ h (by have := hl c (by simp); omega)) (fun d hd => hl d (by simp [hd]))
theorem sum_lt (l : List Nat) (hl : ∀ c, c ∈ l → c < 256) : sum l < 4294967296 :=
  Nat.xor_lt_two_pow (n := 32) (fold_lt _ _ (by decide) hl) (by decide)
def mix (a b : List Nat) : List Nat := List.zipWith (fun x y => x ^^^ y) a b
theorem fold_mix (s t : Nat) (a b : List Nat) (h : a.length = b.length) : fold (s ^^^ t) (mix a b) = fold s a ^^^ fold t b := by
  induction a generalizing s t b with
  | nil => cases b with
    | nil => rfl
    | cons _ _ => simp at h
  | cons x a ih => cases b with
    | nil => simp at h
    | cons y b =>
      show fold (byte (s ^^^ t) (x ^^^ y)) (mix a b) = fold (byte s x) a ^^^ fold (byte t y) b
      rw [byte_xor]; exact ih _ _ _ (by simpa using h)
theorem sum_mix3 (a b c : List Nat) (h1 : a.length = b.length) (h2 : a.length = c.length) :
    sum (mix (mix a b) c) = sum a ^^^ sum b ^^^ sum c := by
  unfold sum
  have e : (4294967295 : Nat) = (4294967295 ^^^ 4294967295) ^^^ 4294967295 := by decide
  have hm : (mix a b).length = c.length := by unfold mix; rw [List.length_zipWith]; omega
  have h := fold_mix (4294967295 ^^^ 4294967295) 4294967295 (mix a b) c hm
  rw [← e, fold_mix _ _ a b h1] at h
  rw [h]
  generalize fold 4294967295 a = A
  generalize fold 4294967295 b = B
  generalize fold 4294967295 c = C
  have k : (A ^^^ 4294967295) ^^^ (B ^^^ 4294967295) = A ^^^ B := by
    rw [xor4, Nat.xor_self, Nat.xor_zero]
  rw [k, Nat.xor_assoc]
end Go.Proofs.YthoeehgnkolgpaaDoor.Crc

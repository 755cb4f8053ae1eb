/- The walk of CodePlace, whole. -/
import Derived.Test.YtbmdnlomhnodeabDoorPlace2
namespace Go.Proofs.YtbmdnlomhnodeabDoor
open Go.RowKit
set_option maxRecDepth 100000

set_option maxHeartbeats 6400000 in
set_option maxRecDepth 100000 in
theorem place_walk (a0 : Option Addr) (len cap0 : Nat) (a1 : Option Addr) (len1 cap1 : Nat) (x : Nat → Nat) (oa : Option Addr) (ob oo olen ocap : Nat) (w : World) (hlen : len ≤ 1048576) (hB0 : Byt w a0 len x) (hx : ∀ j, x j < 256) (hn0 : a0 = none → len = 0 ∧ cap0 = 0) (holen : olen ≤ 281474976710656) (hW : Wid w) (hoa : 0 < olen → oa = some ⟨ob, oo, none⟩)
    (hop : ∀ i, i < olen → ∃ (K WH M : Int) (N : Nat) (ba : Option Addr) (bl bc : Nat), w.cell? ⟨ob, oo + i * 5, none⟩ = some (.int .i64 K) ∧ w.cell? ⟨ob, oo + i * 5 + 1, none⟩ = some (.int .i64 WH) ∧ w.cell? ⟨ob, oo + i * 5 + 2, none⟩ = some (.int .i64 M) ∧ w.cell? ⟨ob, oo + i * 5 + 3, none⟩ = some (.int .u64 N) ∧ w.cell? ⟨ob, oo + i * 5 + 4, none⟩ = some (.slice ba bl bc) ∧ M ≤ 9223372036854775807) :
    Calls Tryd.prog 6 #[.agg #[.slice a0 len cap0, .slice a1 len1 cap1, .slice oa olen ocap]] w fun e w' => e = .returned (.bool true) ∧ w.Since w.heap.size w' := by
  have hs1 : w.Since w.heap.size (w.alloc (.cells #[.slice a0 len cap0, .slice a1 len1 cap1, .slice oa olen ocap] 26)) := (World.Since.refl _ _).alloc (Nat.le_refl _) _
  have e0 : (w.alloc (.cells #[.slice a0 len cap0, .slice a1 len1 cap1, .slice oa olen ocap] 26)).heap.size = w.heap.size + 1 := by simp
  have box0 : (w.alloc (.cells #[.slice a0 len cap0, .slice a1 len1 cap1, .slice oa olen ocap] 26)).cell? ⟨w.heap.size, 0, none⟩ = some (.slice a0 len cap0) := by simp
  have box2 : (w.alloc (.cells #[.slice a0 len cap0, .slice a1 len1 cap1, .slice oa olen ocap] 26)).cell? ⟨w.heap.size, 2, none⟩ = some (.slice oa olen ocap) := by simp
  go_enter Tryd.func6, Tryd.ntmps6
  go_upto_region 1 with fail
  generalize w.alloc (.cells #[.slice a0 len cap0, .slice a1 len1 cap1, .slice oa olen ocap] 26) = w1 at *
  have hfinW : ∀ W, w1.Since w1.heap.size W → w.Since w.heap.size W := fun W h => hs1.trans (since_mono h hs1.size)
  have hX0 : ∀ W, w1.Since w1.heap.size W → Byt W a0 len x := fun W h => hB0.since (hfinW W h)
  have hrd : ∀ W, w1.Since w1.heap.size W → ∀ (ia : Option Addr) (icap : Nat) (ba : Option Addr) (bcap : Nat) (z : Nat → Nat), Byt W ia len z → Byt W ba len z → (∀ j, z j < 256) → Calls Tryd.prog 30 #[.slice ia len icap, .slice ba len bcap, .slice oa olen ocap] W fun e w' => e = .returned (.bool true) ∧ W.Since W.heap.size w' := fun W h ia icap ba bcap z h1 h2 h3 => by
    have hf := hfinW W h
    refine read_walk ia len icap ba bcap z oa ob oo olen ocap W (by omega) h1 h2 h3 holen (hW.since hf) hoa (fun i hi => ?_)
    obtain ⟨K, WH, M, N, ba, bl, bc, c0, c1, c2, c3, c4, hM⟩ := hop i hi
    have mv : ∀ {o : Nat} {u : Value}, w.cell? ⟨ob, o, none⟩ = some u → W.cell? ⟨ob, o, none⟩ = some u := fun {o u} hc => by
      rw [hf.cell (a := ⟨ob, o, none⟩) (World.block_lt_of_cell? _ _ hc)]; exact hc
    exact ⟨K, WH, M, N, ba, bl, bc, mv c0, mv c1, mv c2, mv c3, mv c4, hM⟩
  generalize hsb : w.heap.size = sb at *
  have hbx : ∀ W, w1.Since w1.heap.size W → W.cell? ⟨sb, 0, none⟩ = some (.slice a0 len cap0) ∧ W.cell? ⟨sb, 2, none⟩ = some (.slice oa olen ocap) := fun W h =>
    ⟨by rw [h.cell (a := ⟨sb, 0, none⟩) (by show sb < w1.heap.size; omega)]; exact box0, by rw [h.cell (a := ⟨sb, 2, none⟩) (by show sb < w1.heap.size; omega)]; exact box2⟩
  have HRD := hide hrd
  clear hrd hop hW hs1 hB0
  have s11 : w1.Since w1.heap.size w1 := World.Since.refl _ _
  go_wp2_with fail
  refine (lend_any a0 len cap0 x w1 (by omega) (hX0 w1 s11) hn0).mono ?_
  rintro e w2 ⟨g, cap, f, rfl, hg, s12, hLe⟩
  obtain ⟨b20, b22⟩ := hbx w2 s12
  clear box0 box2
  go_wp2_with fail
  refine (other_any a0 len cap0 x w2 (by omega) (hX0 w2 s12) hx (fun h => (hn0 h).1)).mono ?_
  rintro e w3 ⟨ov, y, rfl, s23, hO, hy⟩
  obtain ⟨va, vc, rfl⟩ := own_form hO
  have s13 := s12.trans (since_mono s23 s12.size)
  clear b20 b22
  go_wp2_with fail
  refine (new_w w3).mono ?_
  rintro e w4 ⟨rfl, s34, e4, hI⟩
  have s14 := s13.trans (since_mono s34 s13.size)
  obtain ⟨b40, b42⟩ := hbx w4 s14
  have hL4 := (hLe.since s23).since s34
  have hO4 := own_since hO s34
  have hc1 := (unhide HRD) w4 s14 (some ⟨g, 0, none⟩) cap a0 cap0 x hL4.byt (hX0 w4 s14) hx
  go_wp2_with fail
  refine hc1.mono ?_
  rintro e w5 ⟨rfl, s45⟩
  clear hc1 b40 b42
  have s15 := s14.trans (since_mono s45 s14.size)
  have hg2 := hLe.row.lt
  have z23 := s23.size
  have z12 := s12.size
  have hL5 := hL4.since s45
  have hO5 := own_since hO4 s45
  have hI5 : IsL w5 w3.heap.size w4.heap.size (.slice none 0 0) [] := by
    have := hI (fun j => ([] : List Nat).getD j 0)
    exact isl_keep (l := []) this s45.size (fun k e => s45.block k (by
      rcases e with e | e
      · omega
      · simp [Value.ownBlock] at e))
  have hby := bytes_l w3.heap.size w4.heap.size (.slice none 0 0) [] (some ⟨g, 0, none⟩) len cap x w5 hI5 hL5.byt (fun e => by cases e) (by simp; omega) (fun b off e => by
    cases e
    exact ⟨by omega, by simp [Value.ownBlock]⟩)
  go_wp2_with fail
  refine hby.mono ?_
  rintro e w6 ⟨rfl, v1, hI6, hE6⟩
  clear hby
  have z45 := s45.size
  have s16 : w1.Since w1.heap.size w6 := hE6.since s15 (by omega) (by omega) (fun k e => by simp [Value.ownBlock] at e)
  have hkeep6 : ∀ k, k < w3.heap.size → w6.heap[k]? = w5.heap[k]? := fun k hk => hE6.block k (by omega) (by omega) (by simp [Value.ownBlock])
  have hL6 : Lent w6 g len cap x f := ⟨hL5.row.of_block (hkeep6 g (by omega)), hL5.room, hL5.cap, hL5.byte, hL5.k0, hL5.k1, hL5.k2⟩
  have hO6 := own_keep hO5 (w' := w6) (fun k e => hkeep6 k (own_lt hO k e))
  have hz6 := hE6.size
  go_wp2_with fail
  refine (read_any (some ⟨g, 0, none⟩) len cap x w6 (by omega) hL6.byt hx).mono ?_
  rintro e w7 ⟨rb, rfl, hrb, s67, hR⟩
  have hv6 := own_lt hI6.own
  have hvl : ∀ k, v1.ownBlock = some k → w5.heap.size ≤ k := fun k e => by
    rcases hE6.lies with e2 | ⟨q, e2, hq⟩
    · rw [e2] at e; simp [Value.ownBlock] at e
    · rw [e2] at e; cases e; exact hq
  have hol := own_lt hO
  have hog := own_block hO
  have hP7 : Pl w1 w7 g cap f w2.heap.size (.slice va len vc) len y w3.heap.size w4.heap.size v1 ([] ++ vl 9 len ++ (List.range len).map x) rb w6.heap.size x 0 := by
    refine ⟨s16.trans (since_mono s67 s16.size), row_since hL6.row s67, own_since hO6 s67, isl_keep hI6 s67.size (fun k e => s67.block k ?_), hR, hg, by omega, fun k e => ?_, by omega, by omega, fun e => ?_, fun e => ?_, fun e => ?_, fun k e e2 => ?_, ⟨by omega, by omega⟩, ⟨by omega, by omega⟩, ⟨fun e => ?_, fun e => ?_⟩, fun e => ?_⟩
    · rcases e with e | e
      · omega
      · exact hv6 k e
    · have := hvl k e
      omega
    · have := hvl g e
      omega
    · have := hog g e
      omega
    · have := hol _ e
      omega
    · have := hol _ e
      have := hvl _ e2
      omega
    · have := hv6 _ e
      omega
    · have := hv6 _ e
      omega
    · have := hol _ e
      omega
  have hroom := hLe.room
  have hf0 := hLe.byte
  clear hL4 hL5 hL6 hO4 hO5 hO6 hI hI5 hI6 hE6 hkeep6 s12 s13 s14 s15 s16 s23 s34 s45 s67 hR hrb hLe hO hvl hol hog hv6 hz6 z45 z23 z12 e4 hg hg2
  generalize w3.heap.size = wb at *
  generalize w4.heap.size = Bw at *
  generalize w6.heap.size = hb at *
  generalize w2.heap.size = Bo at *
  generalize hl1 : [] ++ vl 9 len ++ (List.range len).map x = l1 at *
  have hlen1 : l1.length ≤ len + 10 := by
    rw [← hl1]; have := vl_len 9 len; simp; omega
  obtain ⟨hob, hon⟩ := byt_of_own hP7.own
  have hin := into_any g len cap f va len vc y w7 hP7.row (by omega) (by omega) (Nat.le_refl _) hob (fun b off e => by
    intro e2
    subst e; subst e2
    exact hP7.go (by simp [Value.ownBlock]))
  go_wp2_with fail
  refine hin.mono ?_
  rintro e w8 ⟨rfl, hov⟩
  clear hin
  have hP8 := hP7.into hov.but hov.row
  have hy8 := row_byt (len := len) (z := y) hP8.row (by omega) (fun j hj => by simp [hj])
  obtain ⟨b80, b82⟩ := hbx w8 hP8.since
  have hc2 := (unhide HRD) w8 hP8.since (some ⟨g, 0, none⟩) cap va vc y hy8 (byt_of_own hP8.own).1 hy
  clear hP7 hov hob
  go_wp2_with fail
  refine hc2.mono ?_
  rintro e w9 ⟨rfl, s89⟩
  clear hc2 b80 b82
  have hP9 := hP8.later s89
  have hra := raw_l wb Bw v1 l1 (some ⟨g, 0, none⟩) len cap y w9 hP9.wr (hy8.since s89) (fun e => by cases e) (by omega)
  go_wp2_with fail
  refine hra.mono ?_
  rintro e w10 ⟨rfl, v2, hI10, hE10⟩
  have hP10 := hP9.wrote hI10 hE10
  clear hra hP8 hP9 hy8 s89 hI10 hE10
  obtain ⟨b100, b102⟩ := hbx w10 hP10.since
  have hX10 := hX0 w10 hP10.since
  have hin2 := into_any2 g len cap _ a0 len cap0 x w10 hP10.row (by omega) (by omega) (Nat.le_refl _) hX10 (fun hp b off e => by
    obtain ⟨b', off', e', hc⟩ := hX0 w1 s11 0 hp
    rw [e] at e'
    cases e'
    have h1 := World.block_lt_of_cell? _ _ hc
    have h2 := hP10.log
    replace h1 : b < w1.heap.size := h1
    omega)
  go_wp2_with fail
  refine hin2.mono ?_
  rintro e w11 ⟨rfl, hov⟩
  have hP11 := hP10.into hov.but hov.row
  have hx11 := row_byt (len := len) (z := x) hP11.row (by omega) (fun j hj => by simp [hj])
  obtain ⟨b110, b112⟩ := hbx w11 hP11.since
  clear hin2 hP10 hX10 hov b100 b102
  generalize hl2 : l1 ++ (List.range len).map y = l2 at *
  have hlen2 : l2.length ≤ 2 * len + 10 := by
    rw [← hl2]; simp; omega
  have hcr : ∀ W, w11.Since w11.heap.size W → Calls Tryd.prog 30 #[.slice (some ⟨g, 0, none⟩) len cap, .slice a0 len cap0, .slice oa olen ocap] W fun e w' => e = .returned (.bool true) ∧ w11.Since w11.heap.size w' ∧ w'.cell? ⟨sb, 0, none⟩ = some (.slice a0 len cap0) ∧ w'.cell? ⟨sb, 2, none⟩ = some (.slice oa olen ocap) := fun W h => by
    have hPW := hP11.later h
    exact ((unhide HRD) W hPW.since (some ⟨g, 0, none⟩) cap a0 cap0 x (hx11.since h) (hX0 W hPW.since) hx).mono (fun e w' ⟨h1, h2⟩ => ⟨h1, h.trans (since_mono h2 h.size), hbx w' (hPW.later h2).since⟩)
  have hraw : ∀ W, w11.Since w11.heap.size W → Calls Tryd.prog 34 #[.pointer (some ⟨rb, 0, none⟩), .int .i64 len] W fun e w' => ∃ ta, e = .returned (.slice ta len len) ∧ (w'.cell? ⟨sb, 0, none⟩ = some (.slice a0 len cap0) ∧ w'.cell? ⟨sb, 2, none⟩ = some (.slice oa olen ocap)) ∧ Byt w' ta len x ∧ Byt w' a0 len x ∧ ∃ at2, Pl w1 w' g cap (fun j => if j < len then .int .u8 (x j : Nat) else if j < len then .int .u8 (y j : Nat) else f j) Bo (.slice va len vc) len y wb Bw v2 l2 rb hb x at2 := fun W h => by
    have hPW := hP11.later h
    have hr := raw_r rb hb len 0 0 len x W hPW.rd (by omega)
    rw [rawAns_all] at hr
    refine hr.mono (fun e w' ⟨⟨ta, h1, h2⟩, h3, h4⟩ => ?_)
    have hPw := hPW.read h3 h4
    have ht := (txt_byt' h2).1
    simp only [Nat.zero_add] at ht
    exact ⟨ta, h1, hbx w' hPw.since, ht, hX0 w' hPw.since, _, hPw⟩
  have heq : ∀ W ta, Byt W ta len x → Byt W a0 len x → _ := fun W ta h1 h2 => eq_same ta a0 len len cap0 x W h1 h2 (by omega)
  go_upto_region 13 with fail
  go_region_held3 (fun W => W.cell? ⟨sb, 0, none⟩ = some (.slice a0 len cap0) ∧ W.cell? ⟨sb, 2, none⟩ = some (.slice oa olen ocap))
    ((first | exact ⟨b110, b112⟩ | exact hb12 | exact hb13))
    ((first
      | (go_at_call 30; refine (hcr _ (World.Since.refl _ _).drew).mono ?_; rintro e w12 ⟨rfl, s12, hb12⟩)
      | (go_at_call 34; refine (hraw _ s12).mono ?_; rintro e w13 ⟨ta, rfl, hb13, hy13, hx13, at2, hP13⟩)
      | (go_at_call 22; refine (heq _ _ hy13 hx13).mono ?_; rintro e w14 ⟨rfl, m14, rfl⟩)))
  all_goals
    have hP14 := hP13.later (since_drewN' (World.Since.refl _ _) m14)
    clear hcr hraw heq hP11 hP13 hx11 b110 b112 hb12 hb13 hy13 hx13
    generalize w13.drewN m14 = w14 at *
    obtain ⟨b140, _⟩ := hbx w14 hP14.since
    have hout : ∀ W, w14.Since w14.heap.size W → Calls Tryd.prog 11 #[.pointer (some ⟨wb, 0, none⟩)] W fun e w' => ∃ q, e = .returned (.slice (some ⟨q, 0, none⟩) l2.length l2.length) ∧ w14.Since w14.heap.size w' ∧ Byt w' (some ⟨q, 0, none⟩) l2.length (fun j => l2.getD j 0) ∧ w'.cell? ⟨sb, 0, none⟩ = some (.slice a0 len cap0) := fun W h => by
      have hPW := hP14.later h
      exact (out_w wb Bw v2 l2.length _ W hPW.wr (by omega)).mono (fun e w' ⟨h1, h2, _, h4⟩ => ⟨_, h1, h.trans (since_mono h2 h.size), Byt.of_row h4, (hbx w' (hPW.later h2).since).1⟩)
    have htx : ∀ W, w14.Since w14.heap.size W → Calls Tryd.prog 35 #[.slice a0 len cap0] W fun e w' => ∃ v a5 c5 w'', e = .returned v ∧ w'.cell? ⟨sb, 0, none⟩ = some (.slice a0 len cap0) ∧ Hid ((Builtin.append_ #[22, 22] 22 #[v, .slice va len vc]).run Tryd.prog w' = .ok (.slice a5 l2.length c5) w'') ∧ w''.cell? ⟨sb, 0, none⟩ = some (.slice a0 len cap0) ∧ Byt w'' a5 l2.length (fun j => l2.getD j 0) ∧ W.Since W.heap.size w'' := fun W h => by
      have hPW := hP14.later h
      refine (reftext a0 len cap0 x W (hX0 W hPW.since) hn0 (by omega)).mono (fun e w' ⟨v, h1, h2, h3⟩ => ?_)
      have hPw := hPW.later h2
      obtain ⟨ho1, ho2⟩ := byt_of_own hPw.own
      obtain ⟨v', w'', hr, hO2, hg, _⟩ := app_l h3 va len vc y ho1 ho2 (by have := vl_len 9 len; simp; omega) h2.size
      have hs2 := grown_since h2 hg h2.size (own_block h3)
      have hll : vl 9 len ++ (List.range len).map x ++ (List.range len).map y = l2 := by rw [← hl2, ← hl1]; simp
      rw [hll] at hO2
      obtain ⟨a5, c5, rfl⟩ := own_form hO2
      exact ⟨v, a5, c5, w'', h1, (hbx w' hPw.since).1, hide hr, (hbx w'' (hPW.later hs2).since).1, (byt_of_own hO2).1, hs2⟩
    have hfin : ∀ W, w14.Since w14.heap.size W → w.Since w.heap.size W := fun W h => hsb ▸ hfinW W (hP14.later h).since
    generalize hn2 : l2.length = n2 at *
    generalize (fun j => l2.getD j 0) = zl at *
    have hn2m : n2 ≤ 140737488355328 := by omega
    have heq : ∀ W q a5 c5, Byt W (some ⟨q, 0, none⟩) n2 zl → Byt W a5 n2 zl → Calls Tryd.prog 22 #[.slice (some ⟨q, 0, none⟩) n2 n2, .slice a5 n2 c5] W fun e w' => e = .returned (.bool true) ∧ ∃ m, w' = W.drewN m := fun W q a5 c5 h1 h2 =>
      eq_same _ a5 n2 n2 c5 zl W h1 h2 hn2m
    clear hP14 hbx hX0 HRD hl1 hl2 hlen1 hlen2 hn2
    go_upto_region 15 with fail
    go_region_held3 (fun W => W.cell? ⟨sb, 0, none⟩ = some (.slice a0 len cap0))
      ((first | exact b140 | exact hb17 | exact hb16 | exact hb15))
      ((first
        | (go_at_call 11; refine (hout _ (World.Since.refl _ _).drew).mono ?_; rintro e w15 ⟨q, rfl, s15, hy15, hb15⟩)
        | (go_at_call 35; refine (htx _ s15).mono ?_; rintro e w16 ⟨v, a5, c5, w17, rfl, hb16, HR, hb17, hy17, s17⟩)
        | (refine step_append_eq (by rfl) _ _ 22 (by rfl) _ _ _ (by rfl) (by rfl) (unhide HR) ?_)
        | (go_at_call 22; refine (heq _ _ _ _ (hy15.since s17) hy17).mono ?_; rintro e w18 ⟨rfl, m18, rfl⟩)))
    all_goals
      go_wp2_with fail
      go_ret
      exact ⟨rfl, hfin _ (since_drewN' (s15.trans (since_mono s17 s15.size)) m18)⟩
end Go.Proofs.YtbmdnlomhnodeabDoor

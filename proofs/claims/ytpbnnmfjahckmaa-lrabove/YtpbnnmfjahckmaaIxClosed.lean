/-
  The contract of items.closed.
-/
import Derived.Test.YtpbnnmfjahckmaaGrE
import Derived.Test.YtpbnnmfjahckmaaIxSort0
namespace Go.Proofs.Ytpbnnmfjahckmaa
open Go.RowKit
open Cg

structure RC11 (w0 : World) (g mb bo n gb cp : Nat) (b : List It) (D : DataW Unit) (O : Nat → Wd) (T : Nat) (po : Option Addr) (pc : Nat) (ps : List Pd) (x : It) (i : Nat) (u : Value) (d : Nat → Bool) (x12 x36 x37 x38 x39 x40 x41 x42 : Value) (W : World) : Prop where
  f0 : d 0 = true → x36 = (.agg #[.int .i64 (T : Int), .int .i64 (n : Int), .slice po ps.length pc])
  f1 : d 1 = true → x37 = (.pointer (some ⟨g, 1, none⟩))
  f2 : d 2 = true → x38 = (.slice (some ⟨gb, 0, none⟩) b.length cp)
  f3 : d 3 = true → x39 = (.int .i64 (i : Int))
  f4 : d 4 = true → x40 = (.pointer (some ⟨gb, i * 3, none⟩))
  f5 : d 5 = true → x41 = (.agg #[.int .i64 (x.1 : Int), .int .i64 (x.2.1 : Int), .int .i64 (x.2.2 : Int)])
  f6 : d 6 = true → u = x42
  f7 : d 7 = true → u = x12
  o7_6 : d 7 = true → d 6 = true
  cs : Cs w0 g mb bo n (.slice (some ⟨gb, 0, none⟩) b.length cp) b D O W
  sy : d 6 = true → Syms W u (rst ps x)
set_option maxHeartbeats 16000000 in
set_option maxRecDepth 20000 in
theorem closed_any (T n : Nat) (pv : Value) (ps : List Pd) (lv : Value) (l : List It) (be bf bw br bm : Nat) (E : Nat → Bool) (F V : Nat → Wd) (R M : Nat → Bool) (w : World) (hp : Pds w pv ps) (hk : chk (T : Int) n ps = 0) (hl : Its w lv l) (ok : ∀ x ∈ l, OkIt T ps x) (hx : Fx n be bf bw br bm E F V R M w) :
    Calls Try.prog 85 #[.agg #[.int .i64 (T : Int), .int .i64 (n : Int), pv], .agg #[.slice (some ⟨be, 0, none⟩) n n, .slice (some ⟨bf, 0, none⟩) n n, .slice (some ⟨bw, 0, none⟩) n n, .slice (some ⟨br, 0, none⟩) n n, .slice (some ⟨bm, 0, none⟩) n n], lv] w fun e w' => ∃ v r, e = .returned v ∧ Clsd T ps E F l r ∧ w'.ownsRow w.heap.size 145 3 v r.length (ics r) ∧ r.length ≤ 11439 ∧ Below w.heap.size w w' := by
  have HGB := Gb.box hp (T : Int) (n : Int)
  obtain ⟨po, pc, hpe⟩ := hp.len
  subst hpe
  have HK : Hid (chk (T : Int) n ps = 0) := hk
  have HOK : Hid (∀ x ∈ l, OkIt T ps x) := ok
  have HTN : Hid (T ≤ 30 ∧ n ≤ 20) := by have := okTN_le (chk_zero hk).1; exact ⟨by omega, by omega⟩
  have hmk := run_make_row' (P := Try.prog) 50 130 (.int .u64 0) 8 Try.underlying50 info130 rfl .i64 .i64 n (by have := HTN.out; omega) (by have := HTN.out; omega)
  obtain ⟨w0, HW0⟩ : ∃ z, Hid ((w.alloc (Obj.cells #[.int .i64 (T : Int), .int .i64 (n : Int), .slice po ps.length pc] 24)).alloc (Obj.cells #[.slice (some ⟨be, 0, none⟩) n n, .slice (some ⟨bf, 0, none⟩) n n, .slice (some ⟨bw, 0, none⟩) n n, .slice (some ⟨br, 0, none⟩) n n, .slice (some ⟨bm, 0, none⟩) n n] 52) = z) := ⟨_, (rfl : (w.alloc (Obj.cells #[.int .i64 (T : Int), .int .i64 (n : Int), .slice po ps.length pc] 24)).alloc (Obj.cells #[.slice (some ⟨be, 0, none⟩) n n, .slice (some ⟨bf, 0, none⟩) n n, .slice (some ⟨bw, 0, none⟩) n n, .slice (some ⟨br, 0, none⟩) n n, .slice (some ⟨bm, 0, none⟩) n n] 52) = _)⟩
  have hbw : Below w.heap.size w w0 := by rw [← HW0.out]; exact below_alloc2 w _ _
  have hsz : w0.heap.size = w.heap.size + 2 := by rw [← HW0.out]; simp
  have HG0 : Hid (Gb w w.heap.size (T : Int) (n : Int) (.slice po ps.length pc) ps w0) := by rw [← HW0.out]; exact HGB.next (below_alloc _ _)
  have HF0 : Hid (w0.rowIs (w.heap.size + 1) 52 5 (fun i => (#[.slice (some ⟨be, 0, none⟩) n n, .slice (some ⟨bf, 0, none⟩) n n, .slice (some ⟨bw, 0, none⟩) n n, .slice (some ⟨br, 0, none⟩) n n, .slice (some ⟨bm, 0, none⟩) n n] : Array Value).getD i undef)) := by
    rw [← HW0.out]
    have hs1 : (w.alloc (Obj.cells #[.int .i64 (T : Int), .int .i64 (n : Int), .slice po ps.length pc] 24)).heap.size = w.heap.size + 1 := by simp
    rw [← hs1]
    exact World.rowIs_alloc _ _ 52 _ fun i hi => by
      have : i = 0 ∨ i = 1 ∨ i = 2 ∨ i = 3 ∨ i = 4 := by simp at hi; omega
      rcases this with rfl | rfl | rfl | rfl | rfl <;> rfl
  have HPD : Hid (Pds w0 (.slice po ps.length pc) ps) := hp.below hbw
  have HFX : Hid (Fx n be bf bw br bm E F V R M w0) := hx.next hbw
  have HLS : Hid (Its w0 lv l) := hl.below hbw
  have HBW : Hid (Below w.heap.size w w0 ∧ w0.heap.size = w.heap.size + 2) := ⟨hbw, hsz⟩
  have hba := ba_new w0
  obtain ⟨w1, HW1⟩ : ∃ z, Hid ((w0.alloc (.map #[] 0)).alloc (Obj.cells #[.map (some w0.heap.size), .slice none 0 0] 163) = z) := ⟨_, (rfl : (w0.alloc (.map #[] 0)).alloc (Obj.cells #[.map (some w0.heap.size), .slice none 0 0] 163) = _)⟩
  rw [HW1.out] at hba
  have hb01 : Below w0.heap.size w0 w1 := by rw [← HW1.out]; exact below_alloc2 w0 _ _
  have HB01 : Hid (Below w0.heap.size w0 w1) := hb01
  have HOG : Hid (Og w0.heap.size (w0.heap.size + 1) w0.heap.size (.slice none 0 0) [] (fun z => z ∈ l.take 0) w1 w1 (.slice none 0 0) [] (.map [])) := ⟨hba, Ad.none (by simp) (fun z hz => by simp at hz), Fm.refl _ _, ⟨_, _, rfl⟩, fun k hk => Or.inl hk⟩
  obtain ⟨lo, lc, hle, hlm, hlc⟩ := id HLS.out
  subst hle
  rw [List.length_map] at hlm ⊢
  have hlm1 := hlm.1
  clear hp hk hl ok hx HGB hbw hsz hba hb01 hlm
  go_enter Try.func85, Try.ntmps85
  go_upto_region 1 with fail
  rw [HW0.out]
  have hmm := @run_makeMap Try.prog
  go_wp2_with fail
  rw [HW1.out]
  clear hmm
  obtain ⟨mb, HMB⟩ : ∃ z, Hid (w0.heap.size = z) := ⟨_, (rfl : w0.heap.size = _)⟩
  obtain ⟨g, HGG⟩ : ∃ z, Hid (w0.heap.size + 1 = z) := ⟨_, (rfl : w0.heap.size + 1 = _)⟩
  rw [HGG.out] at HOG
  have HOG2 : Hid (Og w0.heap.size g mb (.slice none 0 0) [] (fun z => z ∈ l.take 0) w1 w1 (.slice none 0 0) [] (.map [])) := by rw [← HMB.out]; exact HOG.out
  have HXB : Hid (∀ k, Xb g mb (.slice none 0 0) k → w0.heap.size ≤ k) := fun k hk => by
    rcases hk with h1 | h1 | h1
    · rw [h1, ← HGG.out]; omega
    · rw [h1, ← HMB.out]; omega
    · simp [Value.ownBlock] at h1
  rw [HGG.out]
  clear HOG
  go_loopw [19] (fun i wr => ∃ k : Nat, k ≤ l.length ∧ i = .int .i64 (k : Int) ∧ Hid (OpnP w0.heap.size g mb (.slice none 0 0) [] (fun z => z ∈ l.take k) w1 wr)) (fun i _ => l.length - (intOf i).toNat)
  case atStart => exact ⟨0, by omega, rfl, _, _, _, HOG2.out⟩
  case round =>
    obtain ⟨k, hk, rfl, HA⟩ := hrel
    clear HOG2
    by_cases hlt : k < l.length
    · obtain ⟨bl, ol, rfl, hbl, hcl⟩ := hlc.resolve_left (fun e => by rw [List.map_eq_nil_iff.1 e] at hlt; simp at hlt)
      obtain ⟨c0, c1, c2⟩ := hcl k (by simpa using hlt)
      rw [List.getElem_map] at c0 c1 c2
      have HB1 : Hid (Below w0.heap.size w0 wr) := by
        obtain ⟨v2, b2, D2, h2⟩ := HA.out
        exact HB01.out.trans (h2.fm.below HB01.out.size HXB.out)
      have HOX : Hid (OkIt T ps l[k]) := HOK.out _ (List.getElem_mem hlt)
      have HTK : Hid (∀ z, z ∈ l.take (k + 1) ↔ z ∈ l.take k ∨ z = l[k]) := fun z => by rw [List.take_succ_eq_append_getElem hlt, List.mem_append, List.mem_singleton]
      generalize l[k] = x at c0 c1 c2 HOX HTK
      simp only [up] at c0 c1 c2
      replace c0 : wr.cell? ⟨bl, ol + k * 3, none⟩ = _ := (HB1.out.cell (p := ⟨bl, ol + k * 3, none⟩) hbl).trans c0
      replace c1 : wr.cell? ⟨bl, ol + k * 3 + 1, none⟩ = _ := (HB1.out.cell (p := ⟨bl, ol + k * 3 + 1, none⟩) hbl).trans c1
      replace c2 : wr.cell? ⟨bl, ol + k * 3 + 2, none⟩ = _ := (HB1.out.cell (p := ⟨bl, ol + k * 3 + 2, none⟩) hbl).trans c2
      obtain ⟨v2, b2, D2, h2⟩ := HA.out
      have h3 := h2.next (below_alloc wr (Obj.cells #[.int .i64 (x.1 : Int), .int .i64 (x.2.1 : Int), .int .i64 (x.2.2 : Int)] 145))
      have hlen : b2.length ≤ 1000000 := by
        have := count_le HK.out h3.ad.nd (fun z hz => by
          rcases h3.ad.inn z hz with h4 | h4
          · simp at h4
          · exact HOK.out z (List.mem_of_mem_take h4))
        omega
      have hcall := add_any w0.heap.size g mb v2 b2 D2 x _ h3.ba (sml_ok HK.out HOX.out) hlen h3.fo
      have HO3 : Hid (Og w0.heap.size g mb (.slice none 0 0) [] (fun z => z ∈ l.take k) w1 (wr.alloc (Obj.cells #[.int .i64 (x.1 : Int), .int .i64 (x.2.1 : Int), .int .i64 (x.2.2 : Int)] 145)) v2 b2 D2) := h3
      have hk0 : (0 : Int) ≤ (k : Int) := by omega
      have hk1 : (k : Int) < (l.length : Int) := by omega
      clear hlc hcl h2 h3 hlen HA HOX HB1
      go_wp2_with fail
      refine hcall.mono ?_
      rintro _ w4 ⟨rfl, hadd⟩
      have HA4 : Hid (OpnP w0.heap.size g mb (.slice none 0 0) [] (fun z => z ∈ l.take (k + 1)) w1 w4) := HO3.out.put hadd HTK.out
      clear hcall hadd HO3 HTK c0 c1 c2
      go_wp2_with fail
      go_roundw
      case rel => exact ⟨k + 1, by omega, by go_num, HA4⟩
      case measure => simp [intOf]; omega
    · obtain ⟨v2, b2, D2, h2⟩ := HA.out
      have h3 := h2.same (Q := fun z => z ∈ l) (fun z => by rw [List.take_of_length_le (by omega)])
      have hb0 : Below w0.heap.size w0 wr := HB01.out.trans (h3.fm.below HB01.out.size HXB.out)
      have hmr := World.rowIs_made wr (.int .u64 0) n 130
      have hbm := below_alloc wr (Obj.cells (madeCells #[Value.int .u64 0] n) 130)
      obtain ⟨l1, l2, l3⟩ := h3.ba.lt
      have HCS0 : Hid (Cs w0 g mb wr.heap.size n v2 b2 D2 (fun _ => 0#64) (wr.alloc (Obj.cells (madeCells #[Value.int .u64 0] n) 130))) :=
        ⟨hb0.trans (hbm.mono hb0.size), h3.ba.next hbm, World.rowIs.congr hmr fun i _ => by simp, ⟨by omega, by omega, fun e => by have := l3 _ e; omega, hb0.size⟩, h3.fo⟩
      have HBG0 : Hid (Bg T ps E F l b2 0 (fun _ => 0#64)) := Bg.start h3.ad HOK.out
      have y1 : wr.cell? ⟨w.heap.size, 1, none⟩ = some (.int .i64 (n : Int)) := (hb0.cell (p := ⟨w.heap.size, 1, none⟩) (by have := HBW.out.2; show w.heap.size < _; omega)).trans HG0.out.c1
      have HGX : Hid ((∀ W, Below w0.heap.size w0 W → W.cell? ⟨w.heap.size, 0, none⟩ = some (.int .i64 (T : Int))) ∧ (∀ W, Below w0.heap.size w0 W → W.cell? ⟨w.heap.size, 1, none⟩ = some (.int .i64 (n : Int))) ∧ (∀ W, Below w0.heap.size w0 W → W.cell? ⟨w.heap.size, 2, none⟩ = some (.slice po ps.length pc))) :=
        ⟨fun W hW => (hW.cell (p := ⟨w.heap.size, 0, none⟩) HG0.out.lt).trans HG0.out.c0, fun W hW => (hW.cell (p := ⟨w.heap.size, 1, none⟩) HG0.out.lt).trans HG0.out.c1, fun W hW => (hW.cell (p := ⟨w.heap.size, 2, none⟩) HG0.out.lt).trans HG0.out.c2⟩
      obtain ⟨bo, HBO⟩ : ∃ z, Hid (wr.heap.size = z) := ⟨_, (rfl : wr.heap.size = _)⟩
      rw [HBO.out] at HCS0
      clear h2 h3 hb0 hmr hbm l1 l2 l3 HA hlc
      have hnn := HTN.out.2
      go_wp2_with fail
      rw [HBO.out]
      generalize (wr.alloc (Obj.cells (madeCells #[Value.int .u64 0] n) 130)) = w3 at HCS0 ⊢
      clear y1 hmk HBO
      go_loopw [11] (fun z wx => ∃ (i : Nat) (b : List It) (v : Value) (D : DataW Unit) (O : Nat → Wd), z = .int .i64 (i : Int) ∧ i ≤ b.length ∧ Hid (Bg T ps E F l b i O) ∧ Hid (Cs w0 g mb bo n v b D O wx)) (fun z _ => 11440 - (intOf z).toNat)
      case atStart => exact ⟨0, b2, v2, D2, _, rfl, by omega, HBG0, HCS0⟩
      case round =>
        obtain ⟨i, b, v, D, O, rfl, hib, HBG, HCS⟩ := hrel
        clear HBG0 HCS0
        have HLB : Hid (b.length ≤ 11439) := count_le HK.out HBG.out.nd HBG.out.ok
        by_cases hlt2 : i < b.length
        · obtain ⟨gb, cp, rfl⟩ := own_some HCS.out.ba.own (by omega)
          have HIL : Hid (i < b.length) := hlt2
          have y1 : wr.cell? ⟨g, 1, none⟩ = some (.slice (some ⟨gb, 0, none⟩) b.length cp) := HCS.out.ba.bx.cell (i := 1) (by omega)
          have HIT : Hid (∀ (W : World), W.ownsRow w0.heap.size 145 3 (.slice (some ⟨gb, 0, none⟩) b.length cp) b.length (ics b) → W.cell? ⟨gb, i * 3, none⟩ = some (.int .i64 (b[i].1 : Int)) ∧ W.cell? ⟨gb, i * 3 + 1, none⟩ = some (.int .i64 (b[i].2.1 : Int)) ∧ W.cell? ⟨gb, i * 3 + 2, none⟩ = some (.int .i64 (b[i].2.2 : Int))) := fun W hW => own_item hW hlt2
          have HOX : Hid (OkIt T ps b[i]) := HBG.out.ok _ (List.getElem_mem hlt2)
          obtain ⟨x, HXE⟩ : ∃ z, Hid (b[i] = z) := ⟨_, (rfl : b[i] = _)⟩
          rw [HXE.out] at HIT HOX
          have HAH : Hid (∀ W, Below w0.heap.size w0 W → Calls Try.prog 92 #[.agg #[.int .i64 (T : Int), .int .i64 (n : Int), .slice po ps.length pc], .agg #[.int .i64 (x.1 : Int), .int .i64 (x.2.1 : Int), .int .i64 (x.2.2 : Int)]] W fun e w' => ∃ v, e = .returned v ∧ Syms w' v (rst ps x) ∧ Below W.heap.size W w') := fun W hW => ahead_any (T : Int) (n : Int) _ ps T x HOX.out W (HPD.out.below hW)
          have HI : Hid ((0 : Int) ≤ (i : Int) ∧ (i : Int) < (b.length : Int)) := ⟨by omega, by omega⟩
          have hi1 : (i : Int) < (b.length : Int) := by omega
          have hlb := HLB.out
          go_upto_region 11 with fail
          obtain ⟨q0, HQ0⟩ : ∃ z, Hid (w.heap.size = z) := ⟨_, (rfl : w.heap.size = _)⟩
          clear y1
          refine wp_region_free mixed (fun a0 d a W => ∃ (u : Value) (x12 x36 x37 x38 x39 x40 x41 x42 : Value), a = ((((((((a0.put (some 12) x12).put (some 36) x36).put (some 37) x37).put (some 38) x38).put (some 39) x39).put (some 40) x40).put (some 41) x41).put (some 42) x42) ∧ Hid (RC11 w0 g mb bo n gb cp b D O T po pc ps x i u d x12 x36 x37 x38 x39 x40 x41 x42 W)) (by kernel_rfl) ⟨undef, u12, u36, u37, u38, u39, u40, u41, u42, by simp only [Act.put, List.setIfInBounds_toArray, List.set_cons_zero, List.set_cons_succ], ?_⟩ ?_ ?_
          · exact ⟨fun h => no_way h, fun h => no_way h, fun h => no_way h, fun h => no_way h, fun h => no_way h, fun h => no_way h, fun h => no_way h, fun h => no_way h, fun h => no_way h, HCS.out.next (Below.refl _ _).drew, fun h => no_way h⟩
          · simp only [StepAll, and_true]
            refine ⟨?_, ?_, ?_, ?_, ?_, ?_, ?_, ?_⟩
            · intro d a W hI hd hdep
              obtain ⟨u, x12, x36, x37, x38, x39, x40, x41, x42, rfl, hF⟩ := hI
              have cc := HGX.out.1 W hF.out.cs.bw
              have cd := HGX.out.2.1 W hF.out.cs.bw
              have ce := HGX.out.2.2 W hF.out.cs.bw
              clear hdep hd
              intro K hK
              simp only [Act.put, List.setIfInBounds_toArray, List.set_cons_zero, List.set_cons_succ]
              go_simp
              refine hK.out _ _ ⟨u, x12, (.agg #[.int .i64 (T : Int), .int .i64 (n : Int), .slice po ps.length pc]), x37, x38, x39, x40, x41, x42, by simp only [Act.put, List.setIfInBounds_toArray, List.set_cons_zero, List.set_cons_succ], ?_⟩
              exact ⟨fun _ => rfl, fun h => hF.out.f1 (by simpa using h), fun h => hF.out.f2 (by simpa using h), fun h => hF.out.f3 (by simpa using h), fun h => hF.out.f4 (by simpa using h), fun h => hF.out.f5 (by simpa using h), fun h => hF.out.f6 (by simpa using h), fun h => hF.out.f7 (by simpa using h), fun h => by have := hF.out.o7_6 (by simpa using h); simpa using this, hF.out.cs, fun h => hF.out.sy (by simpa using h)⟩
            · intro d a W hI hd hdep
              obtain ⟨u, x12, x36, x37, x38, x39, x40, x41, x42, rfl, hF⟩ := hI
              clear hdep hd
              intro K hK
              simp only [Act.put, List.setIfInBounds_toArray, List.set_cons_zero, List.set_cons_succ]
              go_simp
              refine hK.out _ _ ⟨u, x12, x36, (.pointer (some ⟨g, 1, none⟩)), x38, x39, x40, x41, x42, by simp only [Act.put, List.setIfInBounds_toArray, List.set_cons_zero, List.set_cons_succ], ?_⟩
              exact ⟨fun h => hF.out.f0 (by simpa using h), fun _ => rfl, fun h => hF.out.f2 (by simpa using h), fun h => hF.out.f3 (by simpa using h), fun h => hF.out.f4 (by simpa using h), fun h => hF.out.f5 (by simpa using h), fun h => hF.out.f6 (by simpa using h), fun h => hF.out.f7 (by simpa using h), fun h => by have := hF.out.o7_6 (by simpa using h); simpa using this, hF.out.cs, fun h => hF.out.sy (by simpa using h)⟩
            · intro d a W hI hd hdep
              obtain ⟨u, x12, x36, x37, x38, x39, x40, x41, x42, rfl, hF⟩ := hI
              have hd1 : d 1 = true := dep_of hdep 1 (by kernel_rfl)
              obtain rfl := hF.out.f1 hd1
              have cc : W.cell? ⟨g, 1, none⟩ = some (.slice (some ⟨gb, 0, none⟩) b.length cp) := hF.out.cs.ba.bx.cell (i := 1) (by omega)
              clear hdep hd hd1
              intro K hK
              simp only [Act.put, List.setIfInBounds_toArray, List.set_cons_zero, List.set_cons_succ]
              go_simp
              refine hK.out _ _ ⟨u, x12, x36, (.pointer (some ⟨g, 1, none⟩)), (.slice (some ⟨gb, 0, none⟩) b.length cp), x39, x40, x41, x42, by simp only [Act.put, List.setIfInBounds_toArray, List.set_cons_zero, List.set_cons_succ], ?_⟩
              exact ⟨fun h => hF.out.f0 (by simpa using h), fun h => hF.out.f1 (by simpa using h), fun _ => rfl, fun h => hF.out.f3 (by simpa using h), fun h => hF.out.f4 (by simpa using h), fun h => hF.out.f5 (by simpa using h), fun h => hF.out.f6 (by simpa using h), fun h => hF.out.f7 (by simpa using h), fun h => by have := hF.out.o7_6 (by simpa using h); simpa using this, hF.out.cs, fun h => hF.out.sy (by simpa using h)⟩
            · intro d a W hI hd hdep
              obtain ⟨u, x12, x36, x37, x38, x39, x40, x41, x42, rfl, hF⟩ := hI
              clear hdep hd
              intro K hK
              simp only [Act.put, List.setIfInBounds_toArray, List.set_cons_zero, List.set_cons_succ]
              go_simp
              refine hK.out _ _ ⟨u, x12, x36, x37, x38, (.int .i64 (i : Int)), x40, x41, x42, by simp only [Act.put, List.setIfInBounds_toArray, List.set_cons_zero, List.set_cons_succ], ?_⟩
              exact ⟨fun h => hF.out.f0 (by simpa using h), fun h => hF.out.f1 (by simpa using h), fun h => hF.out.f2 (by simpa using h), fun _ => rfl, fun h => hF.out.f4 (by simpa using h), fun h => hF.out.f5 (by simpa using h), fun h => hF.out.f6 (by simpa using h), fun h => hF.out.f7 (by simpa using h), fun h => by have := hF.out.o7_6 (by simpa using h); simpa using this, hF.out.cs, fun h => hF.out.sy (by simpa using h)⟩
            · intro d a W hI hd hdep
              obtain ⟨u, x12, x36, x37, x38, x39, x40, x41, x42, rfl, hF⟩ := hI
              have hd2 : d 2 = true := dep_of hdep 2 (by kernel_rfl)
              have hd3 : d 3 = true := dep_of hdep 3 (by kernel_rfl)
              obtain rfl := hF.out.f2 hd2
              obtain rfl := hF.out.f3 hd3
              have hik := HI.out.1
              have hik2 := HI.out.2
              clear hdep hd hd2 hd3
              intro K hK
              simp only [Act.put, List.setIfInBounds_toArray, List.set_cons_zero, List.set_cons_succ]
              go_simp
              refine hK.out _ _ ⟨u, x12, x36, x37, (.slice (some ⟨gb, 0, none⟩) b.length cp), (.int .i64 (i : Int)), (.pointer (some ⟨gb, i * 3, none⟩)), x41, x42, by simp only [Act.put, List.setIfInBounds_toArray, List.set_cons_zero, List.set_cons_succ], ?_⟩
              exact ⟨fun h => hF.out.f0 (by simpa using h), fun h => hF.out.f1 (by simpa using h), fun h => hF.out.f2 (by simpa using h), fun h => hF.out.f3 (by simpa using h), fun _ => rfl, fun h => hF.out.f5 (by simpa using h), fun h => hF.out.f6 (by simpa using h), fun h => hF.out.f7 (by simpa using h), fun h => by have := hF.out.o7_6 (by simpa using h); simpa using this, hF.out.cs, fun h => hF.out.sy (by simpa using h)⟩
            · intro d a W hI hd hdep
              obtain ⟨u, x12, x36, x37, x38, x39, x40, x41, x42, rfl, hF⟩ := hI
              have hd4 : d 4 = true := dep_of hdep 4 (by kernel_rfl)
              obtain rfl := hF.out.f4 hd4
              have cc := (HIT.out W hF.out.cs.ba.own).1
              have cd := (HIT.out W hF.out.cs.ba.own).2.1
              have ce := (HIT.out W hF.out.cs.ba.own).2.2
              clear hdep hd hd4
              intro K hK
              simp only [Act.put, List.setIfInBounds_toArray, List.set_cons_zero, List.set_cons_succ]
              go_simp
              refine hK.out _ _ ⟨u, x12, x36, x37, x38, x39, (.pointer (some ⟨gb, i * 3, none⟩)), (.agg #[.int .i64 (x.1 : Int), .int .i64 (x.2.1 : Int), .int .i64 (x.2.2 : Int)]), x42, by simp only [Act.put, List.setIfInBounds_toArray, List.set_cons_zero, List.set_cons_succ], ?_⟩
              exact ⟨fun h => hF.out.f0 (by simpa using h), fun h => hF.out.f1 (by simpa using h), fun h => hF.out.f2 (by simpa using h), fun h => hF.out.f3 (by simpa using h), fun h => hF.out.f4 (by simpa using h), fun _ => rfl, fun h => hF.out.f6 (by simpa using h), fun h => hF.out.f7 (by simpa using h), fun h => by have := hF.out.o7_6 (by simpa using h); simpa using this, hF.out.cs, fun h => hF.out.sy (by simpa using h)⟩
            · intro d a W hI hd hdep
              obtain ⟨u, x12, x36, x37, x38, x39, x40, x41, x42, rfl, hF⟩ := hI
              have hd0 : d 0 = true := dep_of hdep 0 (by kernel_rfl)
              have hd5 : d 5 = true := dep_of hdep 5 (by kernel_rfl)
              obtain rfl := hF.out.f0 hd0
              obtain rfl := hF.out.f5 hd5
              have HN7 : Hid (d 7 = false) := no_later hF.out.o7_6 hd
              clear hdep hd hd0 hd5
              intro K hK
              simp only [Act.put, List.setIfInBounds_toArray, List.set_cons_zero, List.set_cons_succ]
              go_simp
              refine (HAH.out W hF.out.cs.bw).mono ?_
              rintro _ W2 ⟨u9, rfl, hsy, hb⟩
              refine hK.out _ _ ⟨u9, x12, (.agg #[.int .i64 (T : Int), .int .i64 (n : Int), .slice po ps.length pc]), x37, x38, x39, x40, (.agg #[.int .i64 (x.1 : Int), .int .i64 (x.2.1 : Int), .int .i64 (x.2.2 : Int)]), u9, by simp only [Act.put, List.setIfInBounds_toArray, List.set_cons_zero, List.set_cons_succ], ?_⟩
              exact ⟨fun h => hF.out.f0 (by simpa using h), fun h => hF.out.f1 (by simpa using h), fun h => hF.out.f2 (by simpa using h), fun h => hF.out.f3 (by simpa using h), fun h => hF.out.f4 (by simpa using h), fun h => hF.out.f5 (by simpa using h), fun _ => rfl, fun h => by have := HN7.out; simp [this] at h, fun _ => by simp, hF.out.cs.next hb, fun _ => hsy⟩
            · intro d a W hI hd hdep
              obtain ⟨u, x12, x36, x37, x38, x39, x40, x41, x42, rfl, hF⟩ := hI
              have hd6 : d 6 = true := dep_of hdep 6 (by kernel_rfl)
              obtain rfl := hF.out.f6 hd6
              have e7_6 := hd6
              clear hdep hd hd6
              intro K hK
              simp only [Act.put, List.setIfInBounds_toArray, List.set_cons_zero, List.set_cons_succ]
              go_simp
              refine hK.out _ _ ⟨u, u, x36, x37, x38, x39, x40, x41, u, by simp only [Act.put, List.setIfInBounds_toArray, List.set_cons_zero, List.set_cons_succ], ?_⟩
              exact ⟨fun h => hF.out.f0 (by simpa using h), fun h => hF.out.f1 (by simpa using h), fun h => hF.out.f2 (by simpa using h), fun h => hF.out.f3 (by simpa using h), fun h => hF.out.f4 (by simpa using h), fun h => hF.out.f5 (by simpa using h), fun h => hF.out.f6 (by simpa using h), fun _ => rfl, fun _ => by simpa using e7_6, hF.out.cs, fun h => hF.out.sy (by simpa using h)⟩
          · intro d a W hI hall
            obtain ⟨u, x12, x36, x37, x38, x39, x40, x41, x42, rfl, hF⟩ := hI
            simp only [List.length_cons, List.length_nil] at hall
            obtain rfl := hF.out.f0 (hall 0 (by omega))
            obtain rfl := hF.out.f1 (hall 1 (by omega))
            obtain rfl := hF.out.f2 (hall 2 (by omega))
            obtain rfl := hF.out.f3 (hall 3 (by omega))
            obtain rfl := hF.out.f4 (hall 4 (by omega))
            obtain rfl := hF.out.f5 (hall 5 (by omega))
            obtain rfl := hF.out.f6 (hall 6 (by omega))
            obtain rfl := hF.out.f7 (hall 7 (by omega))
            have HCS2 : Hid (Cs w0 g mb bo n (.slice (some ⟨gb, 0, none⟩) b.length cp) b D O W) := hF.out.cs
            have hsy := hF.out.sy (hall 6 (by omega))
            clear hF hall HCS HAH
            obtain ⟨uo, uc, hue, hum, huc⟩ := id hsy
            subst hue
            have hum1 := hum.1
            obtain ⟨tl0, HRT⟩ : ∃ z, Hid (rst ps x = z) := ⟨_, (rfl : rst ps x = _)⟩
            have HOL : Hid (OkL (T : Int) n tl0) := by rw [← HRT.out]; exact rst_ok HK.out HOX.out
            rw [HRT.out] at hsy hum huc hum1 ⊢
            have HSY : Hid (Syms W (.slice uo tl0.length uc) tl0) := hsy
            clear hsy
            simp only [Act.put, List.setIfInBounds_toArray, List.set_cons_zero, List.set_cons_succ]
            cases tl0 with
            | nil =>
              have HBG2 : Hid (Bg T ps E F l b (i + 1) O) := HBG.out.skip HIL.out (fun m tl e => by have e2 := ((congrArg (rst ps) HXE.out).trans HRT.out).symm.trans e; cases e2)
              clear HBG huc
              go_wp2_with fail
              go_roundw
              case rel => exact ⟨i + 1, b, _, D, O, rfl, by have := HIL.out; omega, HBG2, HCS2⟩
              case measure => have := HLB.out; have := HIL.out; simp [intOf]; omega
            | cons s0 tl =>
              obtain ⟨bb, oo, rfl, hbb, hcc⟩ := huc.resolve_left (by simp)
              obtain ⟨c0, c1⟩ := hcc 0 (by simp)
              simp only [List.getElem_cons_zero, Nat.zero_mul, Nat.add_zero] at c0 c1
              obtain ⟨kd, nm⟩ := s0
              simp only at c0 c1
              clear huc hcc
              have hl1 : (0 : Int) < (((kd, nm) :: tl : List Sy).length : Int) := by rw [List.length_cons]; omega
              by_cases hk2 : kd = 2
              · subst hk2
                obtain ⟨m, hm1, hm2⟩ : ∃ m : Nat, nm = (m : Int) ∧ m < n := by
                  rcases HOL.out (2, nm) (by simp) with h1 | h1
                  · have h9 : (2 : Int) = 1 := h1.1
                    omega
                  · exact ⟨nm.toNat, by have := h1.2.1; have h9 : (0 : Int) ≤ nm := this; omega, by have := h1.2.1; have := h1.2.2; have h9 : (0 : Int) ≤ nm := h1.2.1; have h8 : nm < (n : Int) := h1.2.2; omega⟩
                subst hm1
                have HM : Hid (m < n) := hm2
                have hnn2 := HTN.out.2
                have HFS : Hid (Syms W (.slice (if uc = 1 then some ⟨bb, oo, none⟩ else some ⟨bb, oo + 1 * 2, none⟩) (((2, (m : Int)) :: tl : List Sy).length - 1) (uc - 1)) tl) := syms_drop HSY.out 1
                have HBE : Hid (∀ (W2 : World) (vv : Value), Below W.heap.size W W2 → Syms W vv tl → Calls Try.prog 65 #[.agg #[.slice (some ⟨be, 0, none⟩) n n, .slice (some ⟨bf, 0, none⟩) n n, .slice (some ⟨bw, 0, none⟩) n n, .slice (some ⟨br, 0, none⟩) n n, .slice (some ⟨bm, 0, none⟩) n n], vv, .int .u64 ((1#64 <<< x.2.2).toNat : Int)] W2 fun e w' => e = .returned (.int .u64 ((bg E F tl (1#64 <<< x.2.2)).toNat : Int)) ∧ Below W2.heap.size W2 w') := fun W2 vv hW hv => by
                  have hb2 := HCS2.out.bw.trans (hW.mono HCS2.out.ba.ge.2.2)
                  exact begin_any (T : Int) n be bf E F _ _ _ vv tl _ W2 (hv.below hW) (HFX.out.e.next hb2) (HFX.out.f.next hb2) (fun s hs => HOL.out s (by simp [hs])) (by have := HTN.out; omega)
                obtain ⟨r0, HR0⟩ : ∃ z, Hid (bg E F tl (1#64 <<< x.2.2) = z) := ⟨_, (rfl : bg E F tl (1#64 <<< x.2.2) = _)⟩
                obtain ⟨k1, HK1⟩ : ∃ z, Hid (r0 &&& ~~~ O m = z) := ⟨_, (rfl : r0 &&& ~~~ O m = _)⟩
                have hx2 : x.2.2 < 64 := by have := HOX.out.k; have := HTN.out; omega
                have hshl := shl_one x.2.2 hx2
                have han : bits .andNot .u64 (r0.toNat : Int) ((O m).toNat : Int) = (k1.toNat : Int) := by rw [andNot_wd, HK1.out]
                have hor : bits .or .u64 ((O m).toNat : Int) (k1.toNat : Int) = ((O m ||| k1).toNat : Int) := or64 _ _
                have hne : Nonempty (Kp (Sb W)) := ⟨⟨_, Sb.drew W⟩⟩
                have hlast : True := trivial
                have HFC : Hid (∀ j u, j < 5 → (#[.slice (some ⟨be, 0, none⟩) n n, .slice (some ⟨bf, 0, none⟩) n n, .slice (some ⟨bw, 0, none⟩) n n, .slice (some ⟨br, 0, none⟩) n n, .slice (some ⟨bm, 0, none⟩) n n] : Array Value).getD j undef = u → ∀ p : Kp (Sb W), p.W.cell? ⟨w.heap.size + 1, j, none⟩ = some u) := fun j u hj hu p => by
                  have h1 := HF0.out.cell hj
                  have hb2 := HCS2.out.bw.trans (Below.mono p.h HCS2.out.ba.ge.2.2)
                  rw [(hb2.cell (p := ⟨w.heap.size + 1, j, none⟩) (by have := HBW.out.2; show w.heap.size + 1 < _; omega)), h1, hu]
                have k0 := HFC.out 0 _ (by omega) rfl
                have k1' := HFC.out 1 _ (by omega) rfl
                have k2 := HFC.out 2 _ (by omega) rfl
                have k3 := HFC.out 3 _ (by omega) rfl
                have k4 := HFC.out 4 _ (by omega) rfl
                have k5 : ∀ p : Kp (Sb W), p.W.cell? ⟨g, 1, none⟩ = some (.slice (some ⟨gb, 0, none⟩) b.length cp) := fun p => (HCS2.out.next p.h).ba.bx.cell (i := 1) (by omega)
                have k6 : ∀ p : Kp (Sb W), p.W.cell? ⟨gb, i * 3 + 2, none⟩ = some (.int .i64 (x.2.2 : Int)) := fun p => (HIT.out p.W (HCS2.out.next p.h).ba.own).2.2
                have k7 : ∀ p : Kp (Sb W), p.W.cell? ⟨bo, m, none⟩ = some (.int .u64 ((O m).toNat : Int)) := fun p => (HCS2.out.next p.h).op.cell HM.out
                have hik := HI.out.1
                have hm0 : (0 : Int) ≤ (m : Int) := by omega
                have hm1 : (m : Int) < (n : Int) := by omega
                have HC1 : Hid (∀ (z : Int) (vv : Value), z = ((1#64 <<< x.2.2).toNat : Int) → Syms W vv tl → ∀ p : Kp (Sb W), Calls Try.prog 65 #[.agg #[.slice (some ⟨be, 0, none⟩) n n, .slice (some ⟨bf, 0, none⟩) n n, .slice (some ⟨bw, 0, none⟩) n n, .slice (some ⟨br, 0, none⟩) n n, .slice (some ⟨bm, 0, none⟩) n n], vv, .int .u64 z] p.W fun e w'' => e = .returned (.int .u64 (r0.toNat : Int)) ∧ ∃ q : Kp (Sb W), w'' = q.W) := fun z vv hz hv p => by
                  have := HBE.out p.W vv p.h hv
                  rw [HR0.out] at this
                  rw [hz]
                  exact Kp.calls p Sb.next this
                go_upto_region 14 with fail
                by_cases hu : uc = 1
                · subst hu
                  have HV : Hid (Syms W (.slice (some ⟨bb, oo, none⟩) tl.length 0) tl) := by
                    have h9 := HFS.out
                    rw [if_pos rfl] at h9
                    simp only [List.length_cons, Nat.add_sub_cancel, Nat.sub_self] at h9
                    exact h9
                  clear HFS
                  refine wp_region_kept mixed (by kernel_rfl) (Sb.drew W) ?_
                  repeat (go_big_quiet_step (first | (go_at_call 65; refine HC1.out _ _ (by first | rfl | exact hshl | simpa using hshl) (by first | exact HV.out | simpa using HV.out) _)))
                  refine wpQuiet_nil ?_
                  intro W2 hw2
                  obtain ⟨p2, rfl⟩ := hw2
                  have HCS3 : Hid (Cs w0 g mb bo n (.slice (some ⟨gb, 0, none⟩) b.length cp) b D O p2.W) := HCS2.out.next p2.h
                  generalize p2.W = w5 at HCS3 ⊢
                  clear k0 k1' k2 k3 k4 k5 k6 k7 HC1 hne p2 HV HCS2 HBE HFC
                  have y7 := HCS3.out.op.cell HM.out
                  have y8 := World.rowIs.frozen HCS3.out.op m
                  have HCS4 : Hid (Cs w0 g mb bo n (.slice (some ⟨gb, 0, none⟩) b.length cp) b D (upd O m (O m ||| k1)) (w5.setCell ⟨bo, m, none⟩ (.int .u64 ((O m ||| k1).toNat : Int)))) := HCS3.out.put m _
                  go_upto_region 16 with fail
                  rw [BitVec.toNat_or] at HCS4
                  generalize (w5.setCell ⟨bo, m, none⟩ (.int .u64 ((BitVec.toNat (O m) ||| BitVec.toNat k1 : Nat) : Int))) = w6 at HCS4 ⊢
                  clear y7 y8 HCS3 han hor hshl
                  have hcall := open_any w0.heap.size g mb _ b D T n _ ps m k1 w0 w6 (Nat.le_refl _) HCS4.out.bw HPD.out HK.out HCS4.out.ba HBG.out.nd HBG.out.ok HCS4.out.fo
                  have y0 := HGX.out.1 w6 HCS4.out.bw
                  have y1 := HGX.out.2.1 w6 HCS4.out.bw
                  have y2 := HGX.out.2.2 w6 HCS4.out.bw
                  go_wp2_with fail
                  refine hcall.mono ?_
                  rintro _ w7 ⟨rfl, hopn⟩
                  obtain ⟨v', b', D', hcs5, had⟩ := HCS4.out.opened hopn
                  have HCS5 : Hid (Cs w0 g mb bo n v' b' D' (upd O m (O m ||| k1)) w7) := hcs5
                  have HBG2 : Hid (Bg T ps E F l b' (i + 1) (upd O m (O m ||| k1))) := by
                    exact Bg.openX HBG.out HIL.out HXE.out HRT.out HR0.out HK1.out had
                  have HLE : Hid (i + 1 ≤ b'.length) := by
                    obtain ⟨cc9, hcc9⟩ := had.pre
                    show _ ≤ _
                    rw [hcc9, List.length_append]
                    have := HIL.out
                    omega
                  clear hcall hopn hcs5 had y0 y1 y2 HCS4 HBG
                  go_wp2_with fail
                  go_roundw
                  case rel => exact ⟨i + 1, b', v', D', _, rfl, HLE.out, HBG2, HCS5⟩
                  case measure => have := HLB.out; have := HIL.out; simp [intOf]; omega
                · have HV : Hid (Syms W (.slice (some ⟨bb, oo + 2, none⟩) tl.length (uc - 1)) tl) := by
                    have h9 := HFS.out
                    rw [if_neg hu] at h9
                    simp only [List.length_cons, Nat.add_sub_cancel, Nat.one_mul] at h9
                    exact h9
                  have hu1 : 1 < uc := by have := hum.2; simp at this; omega
                  clear HFS
                  refine wp_region_kept mixed (by kernel_rfl) (Sb.drew W) ?_
                  repeat (go_big_quiet_step (first | (go_at_call 65; refine HC1.out _ _ (by first | rfl | exact hshl | simpa using hshl) (by first | exact HV.out | simpa using HV.out) _)))
                  refine wpQuiet_nil ?_
                  intro W2 hw2
                  obtain ⟨p2, rfl⟩ := hw2
                  have HCS3 : Hid (Cs w0 g mb bo n (.slice (some ⟨gb, 0, none⟩) b.length cp) b D O p2.W) := HCS2.out.next p2.h
                  generalize p2.W = w5 at HCS3 ⊢
                  clear k0 k1' k2 k3 k4 k5 k6 k7 HC1 hne p2 HV HCS2 HBE HFC
                  have y7 := HCS3.out.op.cell HM.out
                  have y8 := World.rowIs.frozen HCS3.out.op m
                  have HCS4 : Hid (Cs w0 g mb bo n (.slice (some ⟨gb, 0, none⟩) b.length cp) b D (upd O m (O m ||| k1)) (w5.setCell ⟨bo, m, none⟩ (.int .u64 ((O m ||| k1).toNat : Int)))) := HCS3.out.put m _
                  go_upto_region 16 with fail
                  rw [BitVec.toNat_or] at HCS4
                  generalize (w5.setCell ⟨bo, m, none⟩ (.int .u64 ((BitVec.toNat (O m) ||| BitVec.toNat k1 : Nat) : Int))) = w6 at HCS4 ⊢
                  clear y7 y8 HCS3 han hor hshl
                  have hcall := open_any w0.heap.size g mb _ b D T n _ ps m k1 w0 w6 (Nat.le_refl _) HCS4.out.bw HPD.out HK.out HCS4.out.ba HBG.out.nd HBG.out.ok HCS4.out.fo
                  have y0 := HGX.out.1 w6 HCS4.out.bw
                  have y1 := HGX.out.2.1 w6 HCS4.out.bw
                  have y2 := HGX.out.2.2 w6 HCS4.out.bw
                  go_wp2_with fail
                  refine hcall.mono ?_
                  rintro _ w7 ⟨rfl, hopn⟩
                  obtain ⟨v', b', D', hcs5, had⟩ := HCS4.out.opened hopn
                  have HCS5 : Hid (Cs w0 g mb bo n v' b' D' (upd O m (O m ||| k1)) w7) := hcs5
                  have HBG2 : Hid (Bg T ps E F l b' (i + 1) (upd O m (O m ||| k1))) := by
                    exact Bg.openX HBG.out HIL.out HXE.out HRT.out HR0.out HK1.out had
                  have HLE : Hid (i + 1 ≤ b'.length) := by
                    obtain ⟨cc9, hcc9⟩ := had.pre
                    show _ ≤ _
                    rw [hcc9, List.length_append]
                    have := HIL.out
                    omega
                  clear hcall hopn hcs5 had y0 y1 y2 HCS4 HBG
                  go_wp2_with fail
                  go_roundw
                  case rel => exact ⟨i + 1, b', v', D', _, rfl, HLE.out, HBG2, HCS5⟩
                  case measure => have := HLB.out; have := HIL.out; simp [intOf]; omega
              · have b0 : (kd != 2) = true := by simpa using hk2
                have HBG2 : Hid (Bg T ps E F l b (i + 1) O) := HBG.out.skip HIL.out (fun m tl2 e => by have e2 := ((congrArg (rst ps) HXE.out).trans HRT.out).symm.trans e; simp only [List.cons.injEq, Prod.mk.injEq] at e2; exact hk2 e2.1.1)
                clear HBG hk2
                go_wp2_with fail
                go_roundw
                case rel => exact ⟨i + 1, b, _, D, O, rfl, by have := HIL.out; omega, HBG2, HCS2⟩
                case measure => have := HLB.out; have := HIL.out; simp [intOf]; omega

        · have hall9 : ∀ z, z ∈ b ↔ Clo T ps E F l z := HBG.out.over (by omega)
          have HCL : Hid (∀ z, z ∈ b ↔ Clo T ps E F l z) := hall9
          have HND : Hid (b.Nodup) := HBG.out.nd
          have y1 : wr.cell? ⟨g, 1, none⟩ = some v := HCS.out.ba.bx.cell (i := 1) (by omega)
          have hi2 : ¬ (i : Int) < (b.length : Int) := by omega
          clear hall9 HBG
          by_cases hb0 : b.length = 0
          · have hbe : b = [] := List.length_eq_zero_iff.1 hb0
            subst hbe
            obtain ⟨ao9, cp9, rfl⟩ := HCS.out.fo
            have hcall := sort_none ao9 cp9 (.func (.func 95) #[] #[]) wr
            have HFIN : Hid (Clsd T ps E F l [] ∧ wr.ownsRow w.heap.size 145 3 (.slice ao9 0 cp9) 0 (ics []) ∧ Below w.heap.size w wr) :=
              ⟨⟨List.Pairwise.nil, HCL.out⟩, own_lower HCS.out.ba.own (by have := HBW.out.2; omega), HBW.out.1.trans (HCS.out.bw.mono HBW.out.1.size)⟩
            simp only [List.length_nil] at y1 hi2 hib
            have hi3 : decide ((i : Int) < ((0 : Nat) : Int)) = false := by simp
            clear HCS HCL HND hb0
            go_wp2_with fail
            refine hcall.mono ?_
            rintro _ w8 ⟨rfl, rfl⟩
            clear hcall
            go_wp2_with fail
            go_ret
            exact ⟨_, [], rfl, HFIN.out.1, HFIN.out.2.1, by simp, HFIN.out.2.2⟩
          · obtain ⟨gb, cp, rfl⟩ := own_some HCS.out.ba.own (by omega)
            have hcall := sort_any w0.heap.size gb b.length cp b wr (by have := HLB.out; omega) HND.out HCS.out.ba.own
            have hi3 : decide ((i : Int) < (b.length : Int)) = false := by simpa using hi2
            have hi4 : decide (i < b.length) = false := by simp; omega
            go_wp2_with fail
            refine hcall.mono ?_
            rintro _ w8 ⟨rfl, r, hperm, hrise, hown, hgrow⟩
            have HFIN : Hid (Clsd T ps E F l r ∧ w8.ownsRow w.heap.size 145 3 (.slice (some ⟨gb, 0, none⟩) b.length cp) r.length (ics r) ∧ r.length ≤ 11439 ∧ Below w.heap.size w w8 ∧ r.length = b.length) := by
              have hlr : r.length = b.length := hperm.length_eq.symm
              refine ⟨⟨hrise, fun z => by rw [← HCL.out z]; exact hperm.symm.mem_iff⟩, ?_, by have := HLB.out; omega, ?_, hlr⟩
              · rw [hlr]
                exact own_lower hown (by have := HBW.out.2; omega)
              · have hbb : Below w0.heap.size w0 w8 := HCS.out.bw.trans (below_grown hgrow ((HCS.out.ba.own.lt gb rfl).1) HCS.out.ba.ge.2.2)
                exact HBW.out.1.trans (hbb.mono HBW.out.1.size)
            have y2 : w8.cell? ⟨g, 1, none⟩ = some (.slice (some ⟨gb, 0, none⟩) b.length cp) := (World.cell?_of_block (w := wr) (hgrow.block g HCS.out.ba.lt.1 (fun e => (HCS.out.ba.ne.2 gb rfl).1 (Option.some.inj e).symm))).trans y1
            clear hcall hperm hrise hown hgrow y1 HCS HCL HND
            go_wp2_with fail
            go_ret
            exact ⟨_, r, rfl, HFIN.out.1, HFIN.out.2.1, HFIN.out.2.2.1, HFIN.out.2.2.2.1⟩
end Go.Proofs.Ytpbnnmfjahckmaa

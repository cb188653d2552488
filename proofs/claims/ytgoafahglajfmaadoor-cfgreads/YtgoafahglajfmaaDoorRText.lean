/-
  The contract of pushref.CfgText.
-/
import Derived.Test.YtgoafahglajfmaaDoorWrite
namespace Go.Proofs.YtgoafahglajfmaaDoor
open Go.RowKit
open Cg
theorem ba_list (a b : ByteArray) : (a ++ b).data.toList = a.data.toList ++ b.data.toList := by simp
theorem kind_small {t n : Int} {s : Sy} (hs : okSy t n s = true) : s.1 = 1 ∨ s.1 = 2 := by
  unfold okSy at hs
  split at hs
  · rename_i h; first | exact Or.inl h | exact Or.inr h
  · split at hs
    · rename_i h; first | exact Or.inr h | exact Or.inl h
    · cases hs
structure RCt (w9 : World) (bb gx : Nat) (t n : Int) (dt dn : List UInt8) (d : Nat → Bool) (x3 x7 x8 x9 x10 x11 x12 x13 x14 x15 : Value) (W : World) : Prop where
  f0 : d 0 = true → x7 = (.pointer (some ⟨gx, 0, none⟩))
  f1 : d 1 = true → x8 = (.int .i64 t)
  f2 : d 2 = true → x9 = (.string (⟨dt.toArray⟩ : ByteArray))
  f3 : d 3 = true → x10 = (.string ((⟨dt.toArray⟩ : ByteArray) ++ (⟨#[32]⟩ : ByteArray)))
  f4 : d 4 = true → x11 = (.pointer (some ⟨gx, 1, none⟩))
  f5 : d 5 = true → x12 = (.int .i64 n)
  f6 : d 6 = true → x13 = (.string (⟨dn.toArray⟩ : ByteArray))
  f7 : d 7 = true → x14 = (.string (((⟨dt.toArray⟩ : ByteArray) ++ (⟨#[32]⟩ : ByteArray)) ++ (⟨dn.toArray⟩ : ByteArray)))
  f8 : d 8 = true → x15 = (.string ((((⟨dt.toArray⟩ : ByteArray) ++ (⟨#[32]⟩ : ByteArray)) ++ (⟨dn.toArray⟩ : ByteArray)) ++ (⟨#[10]⟩ : ByteArray)))
  f9 : d 9 = true → x3 = (.string ((((⟨dt.toArray⟩ : ByteArray) ++ (⟨#[32]⟩ : ByteArray)) ++ (⟨dn.toArray⟩ : ByteArray)) ++ (⟨#[10]⟩ : ByteArray)))
  kp : Below bb w9 W

set_option maxHeartbeats 8000000 in
set_option maxRecDepth 20000 in
theorem CfgText_ok (t n : Int) (pv : Value) (ps : List Pd) (w : World) (h : Pds w pv ps) (hok : chk t n ps = 0) :
    Calls Tryd.prog 7 #[.agg #[.int .i64 t, .int .i64 n, pv]] w fun e w' => e = .returned (.string ⟨(text t n ps).toArray⟩) ∧ Below w.heap.size w w' := by
  have HPL : Hid (ps.length ≤ 40) := (chk_zero hok).2.1
  have HCK : Hid (okTN t n = true ∧ ∀ p ∈ ps, chkP t n p = 0) := ⟨(chk_zero hok).1, (chk_zero hok).2.2⟩
  have hle := okTN_le (chk_zero hok).1
  obtain ⟨dt, HDT⟩ : ∃ dt, Hid (Go.Lib.decDigits t.toNat = dt) := ⟨_, (rfl : Go.Lib.decDigits t.toNat = Go.Lib.decDigits t.toNat)⟩
  obtain ⟨dn, HDN⟩ : ∃ dn, Hid (Go.Lib.decDigits n.toNat = dn) := ⟨_, (rfl : Go.Lib.decDigits n.toNat = Go.Lib.decDigits n.toNat)⟩
  have HT : Hid (∀ W, Calls Tryd.prog 15 #[.int .i64 t] W fun e w' => e = .returned (.string (⟨dt.toArray⟩ : ByteArray)) ∧ w' = W) := fun W => by have := itoa_any t (by omega) (by omega) W; rw [HDT.out] at this; exact this
  have HN : Hid (∀ W, Calls Tryd.prog 15 #[.int .i64 n] W fun e w' => e = .returned (.string (⟨dn.toArray⟩ : ByteArray)) ∧ w' = W) := fun W => by have := itoa_any n (by omega) (by omega) W; rw [HDN.out] at this; exact this
  have HLN : Hid (dt.length ≤ 2 ∧ dn.length ≤ 2) := ⟨by rw [← HDT.out]; exact dec_len (by omega), by rw [← HDN.out]; exact dec_len (by omega)⟩
  obtain ⟨hd0, HH0⟩ : ∃ hd0, Hid (dt ++ 32 :: (dn ++ [10]) = hd0) := ⟨_, (rfl : dt ++ 32 :: (dn ++ [10]) = dt ++ 32 :: (dn ++ [10]))⟩
  have HHD : Hid (((((⟨dt.toArray⟩ : ByteArray) ++ (⟨#[32]⟩ : ByteArray)) ++ (⟨dn.toArray⟩ : ByteArray)) ++ (⟨#[10]⟩ : ByteArray)).data.toList = hd0) := by
    show _ = _
    rw [← HH0.out, show ((((⟨dt.toArray⟩ : ByteArray) ++ (⟨#[32]⟩ : ByteArray)) ++ (⟨dn.toArray⟩ : ByteArray)) ++ (⟨#[10]⟩ : ByteArray)) = ⟨(dt ++ [32] ++ dn ++ [10]).toArray⟩ by rw [show (⟨#[32]⟩ : ByteArray) = ⟨[32].toArray⟩ from rfl, show (⟨#[10]⟩ : ByteArray) = ⟨[10].toArray⟩ from rfl, bs_append, bs_append, bs_append]]
    simp
  have HS8 : Hid (((((⟨dt.toArray⟩ : ByteArray) ++ (⟨#[32]⟩ : ByteArray)) ++ (⟨dn.toArray⟩ : ByteArray)) ++ (⟨#[10]⟩ : ByteArray)).size ≤ 6) := by
    show _ ≤ _
    rw [← data_size, HHD.out, ← HH0.out]
    have := HLN.out
    simp; omega
  obtain ⟨tx, HTX0⟩ : ∃ tx, Hid (text t n ps = tx) := ⟨_, (rfl : text t n ps = text t n ps)⟩
  have HTX : Hid (hd0 ++ linesT ps = tx) := by show _ = _; rw [← HTX0.out, ← HH0.out]; unfold text linesT; rw [HDT.out, HDN.out]
  rw [HTX0.out]
  have HG0 : Hid (Gb w w.heap.size t n pv ps (w.alloc (Obj.cells #[.int .i64 t, .int .i64 n, pv] 24))) := Gb.box h t n
  obtain ⟨ao, c, rfl, hm, hcs⟩ := h
  have HG1 := HG0
  clear hok hle HG0
  have HC : Hid ((w.alloc (Obj.cells #[.int .i64 t, .int .i64 n, .slice ao ps.length c] 24)).cell? ⟨w.heap.size, 0, none⟩ = some (.int .i64 t) ∧ (w.alloc (Obj.cells #[.int .i64 t, .int .i64 n, .slice ao ps.length c] 24)).cell? ⟨w.heap.size, 1, none⟩ = some (.int .i64 n) ∧ w.heap.size < (w.alloc (Obj.cells #[.int .i64 t, .int .i64 n, .slice ao ps.length c] 24)).heap.size) := ⟨HG1.out.c0, HG1.out.c1, HG1.out.lt⟩
  go_enter Tryd.func7, Tryd.ntmps7
  go_upto_region 1 with (fail)
  obtain ⟨bb, HBB⟩ : ∃ bb, Hid ((w.alloc (Obj.cells #[.int .i64 t, .int .i64 n, .slice ao ps.length c] 24)).heap.size = bb) := ⟨_, (rfl : (w.alloc (Obj.cells #[.int .i64 t, .int .i64 n, .slice ao ps.length c] 24)).heap.size = (w.alloc (Obj.cells #[.int .i64 t, .int .i64 n, .slice ao ps.length c] 24)).heap.size)⟩
  rw [HBB.out] at HC
  generalize w.alloc (Obj.cells #[.int .i64 t, .int .i64 n, .slice ao ps.length c] 24) = wb at HG1 HBB HC ⊢
  refine wp_region_free mixed (fun a0 d a W => ∃ (x3 x7 x8 x9 x10 x11 x12 x13 x14 x15 : Value), a = ((((((((((a0.put (some 3) x3).put (some 7) x7).put (some 8) x8).put (some 9) x9).put (some 10) x10).put (some 11) x11).put (some 12) x12).put (some 13) x13).put (some 14) x14).put (some 15) x15) ∧ Hid (RCt wb bb w.heap.size t n dt dn d x3 x7 x8 x9 x10 x11 x12 x13 x14 x15 W)) (by kernel_rfl) ⟨undef, undef, undef, undef, undef, undef, undef, undef, undef, undef, by simp only [Act.put, List.setIfInBounds_toArray, List.set_cons_zero, List.set_cons_succ], ?_⟩ ?_ ?_
  · exact ⟨fun h => no_way h, fun h => no_way h, fun h => no_way h, fun h => no_way h, fun h => no_way h, fun h => no_way h, fun h => no_way h, fun h => no_way h, fun h => no_way h, fun h => no_way h, Below.drew (Below.refl _ _)⟩
  · simp only [StepAll, and_true]
    refine ⟨?_, ?_, ?_, ?_, ?_, ?_, ?_, ?_, ?_, ?_⟩
    · intro d a W hI hd hdep
      obtain ⟨x3, x7, x8, x9, x10, x11, x12, x13, x14, x15, rfl, hF⟩ := hI
      clear hdep hd
      intro K hK
      simp only [Act.put, List.setIfInBounds_toArray, List.set_cons_zero, List.set_cons_succ]
      go_simp
      refine hK.out _ _ ⟨x3, (.pointer (some ⟨w.heap.size, 0, none⟩)), x8, x9, x10, x11, x12, x13, x14, x15, by simp only [Act.put, List.setIfInBounds_toArray, List.set_cons_zero, List.set_cons_succ], ?_⟩
      exact ⟨fun _ => rfl, fun h => hF.out.f1 (by simpa using h), fun h => hF.out.f2 (by simpa using h), fun h => hF.out.f3 (by simpa using h), fun h => hF.out.f4 (by simpa using h), fun h => hF.out.f5 (by simpa using h), fun h => hF.out.f6 (by simpa using h), fun h => hF.out.f7 (by simpa using h), fun h => hF.out.f8 (by simpa using h), fun h => hF.out.f9 (by simpa using h), hF.out.kp⟩
    · intro d a W hI hd hdep
      obtain ⟨x3, x7, x8, x9, x10, x11, x12, x13, x14, x15, rfl, hF⟩ := hI
      have hd0 : d 0 = true := dep_of hdep 0 (by kernel_rfl)
      obtain rfl := hF.out.f0 hd0
      have ya := (hF.out.kp.cell (p := ⟨w.heap.size, 0, none⟩) HC.out.2.2).trans HC.out.1
      clear hdep hd hd0
      intro K hK
      simp only [Act.put, List.setIfInBounds_toArray, List.set_cons_zero, List.set_cons_succ]
      go_simp
      refine hK.out _ _ ⟨x3, (.pointer (some ⟨w.heap.size, 0, none⟩)), (.int .i64 t), x9, x10, x11, x12, x13, x14, x15, by simp only [Act.put, List.setIfInBounds_toArray, List.set_cons_zero, List.set_cons_succ], ?_⟩
      exact ⟨fun h => hF.out.f0 (by simpa using h), fun _ => rfl, fun h => hF.out.f2 (by simpa using h), fun h => hF.out.f3 (by simpa using h), fun h => hF.out.f4 (by simpa using h), fun h => hF.out.f5 (by simpa using h), fun h => hF.out.f6 (by simpa using h), fun h => hF.out.f7 (by simpa using h), fun h => hF.out.f8 (by simpa using h), fun h => hF.out.f9 (by simpa using h), hF.out.kp⟩
    · intro d a W hI hd hdep
      obtain ⟨x3, x7, x8, x9, x10, x11, x12, x13, x14, x15, rfl, hF⟩ := hI
      have hd1 : d 1 = true := dep_of hdep 1 (by kernel_rfl)
      obtain rfl := hF.out.f1 hd1
      have hcl := HT.out W
      clear hdep hd hd1
      intro K hK
      simp only [Act.put, List.setIfInBounds_toArray, List.set_cons_zero, List.set_cons_succ]
      go_simp
      refine hcl.mono ?_
      rintro _ W1 ⟨rfl, hw1⟩
      subst hw1
      go_simp
      refine hK.out _ _ ⟨x3, x7, (.int .i64 t), (.string (⟨dt.toArray⟩ : ByteArray)), x10, x11, x12, x13, x14, x15, by simp only [Act.put, List.setIfInBounds_toArray, List.set_cons_zero, List.set_cons_succ], ?_⟩
      exact ⟨fun h => hF.out.f0 (by simpa using h), fun h => hF.out.f1 (by simpa using h), fun _ => rfl, fun h => hF.out.f3 (by simpa using h), fun h => hF.out.f4 (by simpa using h), fun h => hF.out.f5 (by simpa using h), fun h => hF.out.f6 (by simpa using h), fun h => hF.out.f7 (by simpa using h), fun h => hF.out.f8 (by simpa using h), fun h => hF.out.f9 (by simpa using h), hF.out.kp⟩
    · intro d a W hI hd hdep
      obtain ⟨x3, x7, x8, x9, x10, x11, x12, x13, x14, x15, rfl, hF⟩ := hI
      have hd2 : d 2 = true := dep_of hdep 2 (by kernel_rfl)
      obtain rfl := hF.out.f2 hd2
      have hl1 := HLN.out.1
      have hl2 := HLN.out.2
      clear hdep hd hd2
      intro K hK
      simp only [Act.put, List.setIfInBounds_toArray, List.set_cons_zero, List.set_cons_succ]
      go_simp
      rw [if_neg (by first | omega | (simp; omega))]
      go_simp
      refine hK.out _ _ ⟨x3, x7, x8, (.string (⟨dt.toArray⟩ : ByteArray)), (.string ((⟨dt.toArray⟩ : ByteArray) ++ (⟨#[32]⟩ : ByteArray))), x11, x12, x13, x14, x15, by simp only [Act.put, List.setIfInBounds_toArray, List.set_cons_zero, List.set_cons_succ], ?_⟩
      exact ⟨fun h => hF.out.f0 (by simpa using h), fun h => hF.out.f1 (by simpa using h), fun h => hF.out.f2 (by simpa using h), fun _ => rfl, fun h => hF.out.f4 (by simpa using h), fun h => hF.out.f5 (by simpa using h), fun h => hF.out.f6 (by simpa using h), fun h => hF.out.f7 (by simpa using h), fun h => hF.out.f8 (by simpa using h), fun h => hF.out.f9 (by simpa using h), hF.out.kp⟩
    · intro d a W hI hd hdep
      obtain ⟨x3, x7, x8, x9, x10, x11, x12, x13, x14, x15, rfl, hF⟩ := hI
      clear hdep hd
      intro K hK
      simp only [Act.put, List.setIfInBounds_toArray, List.set_cons_zero, List.set_cons_succ]
      go_simp
      refine hK.out _ _ ⟨x3, x7, x8, x9, x10, (.pointer (some ⟨w.heap.size, 1, none⟩)), x12, x13, x14, x15, by simp only [Act.put, List.setIfInBounds_toArray, List.set_cons_zero, List.set_cons_succ], ?_⟩
      exact ⟨fun h => hF.out.f0 (by simpa using h), fun h => hF.out.f1 (by simpa using h), fun h => hF.out.f2 (by simpa using h), fun h => hF.out.f3 (by simpa using h), fun _ => rfl, fun h => hF.out.f5 (by simpa using h), fun h => hF.out.f6 (by simpa using h), fun h => hF.out.f7 (by simpa using h), fun h => hF.out.f8 (by simpa using h), fun h => hF.out.f9 (by simpa using h), hF.out.kp⟩
    · intro d a W hI hd hdep
      obtain ⟨x3, x7, x8, x9, x10, x11, x12, x13, x14, x15, rfl, hF⟩ := hI
      have hd4 : d 4 = true := dep_of hdep 4 (by kernel_rfl)
      obtain rfl := hF.out.f4 hd4
      have ya := (hF.out.kp.cell (p := ⟨w.heap.size, 1, none⟩) HC.out.2.2).trans HC.out.2.1
      clear hdep hd hd4
      intro K hK
      simp only [Act.put, List.setIfInBounds_toArray, List.set_cons_zero, List.set_cons_succ]
      go_simp
      refine hK.out _ _ ⟨x3, x7, x8, x9, x10, (.pointer (some ⟨w.heap.size, 1, none⟩)), (.int .i64 n), x13, x14, x15, by simp only [Act.put, List.setIfInBounds_toArray, List.set_cons_zero, List.set_cons_succ], ?_⟩
      exact ⟨fun h => hF.out.f0 (by simpa using h), fun h => hF.out.f1 (by simpa using h), fun h => hF.out.f2 (by simpa using h), fun h => hF.out.f3 (by simpa using h), fun h => hF.out.f4 (by simpa using h), fun _ => rfl, fun h => hF.out.f6 (by simpa using h), fun h => hF.out.f7 (by simpa using h), fun h => hF.out.f8 (by simpa using h), fun h => hF.out.f9 (by simpa using h), hF.out.kp⟩
    · intro d a W hI hd hdep
      obtain ⟨x3, x7, x8, x9, x10, x11, x12, x13, x14, x15, rfl, hF⟩ := hI
      have hd5 : d 5 = true := dep_of hdep 5 (by kernel_rfl)
      obtain rfl := hF.out.f5 hd5
      have hcl := HN.out W
      clear hdep hd hd5
      intro K hK
      simp only [Act.put, List.setIfInBounds_toArray, List.set_cons_zero, List.set_cons_succ]
      go_simp
      refine hcl.mono ?_
      rintro _ W1 ⟨rfl, hw1⟩
      subst hw1
      go_simp
      refine hK.out _ _ ⟨x3, x7, x8, x9, x10, x11, (.int .i64 n), (.string (⟨dn.toArray⟩ : ByteArray)), x14, x15, by simp only [Act.put, List.setIfInBounds_toArray, List.set_cons_zero, List.set_cons_succ], ?_⟩
      exact ⟨fun h => hF.out.f0 (by simpa using h), fun h => hF.out.f1 (by simpa using h), fun h => hF.out.f2 (by simpa using h), fun h => hF.out.f3 (by simpa using h), fun h => hF.out.f4 (by simpa using h), fun h => hF.out.f5 (by simpa using h), fun _ => rfl, fun h => hF.out.f7 (by simpa using h), fun h => hF.out.f8 (by simpa using h), fun h => hF.out.f9 (by simpa using h), hF.out.kp⟩
    · intro d a W hI hd hdep
      obtain ⟨x3, x7, x8, x9, x10, x11, x12, x13, x14, x15, rfl, hF⟩ := hI
      have hd3 : d 3 = true := dep_of hdep 3 (by kernel_rfl)
      have hd6 : d 6 = true := dep_of hdep 6 (by kernel_rfl)
      obtain rfl := hF.out.f3 hd3
      obtain rfl := hF.out.f6 hd6
      have hl1 := HLN.out.1
      have hl2 := HLN.out.2
      clear hdep hd hd3 hd6
      intro K hK
      simp only [Act.put, List.setIfInBounds_toArray, List.set_cons_zero, List.set_cons_succ]
      go_simp
      rw [if_neg (by first | omega | (simp; omega))]
      go_simp
      refine hK.out _ _ ⟨x3, x7, x8, x9, (.string ((⟨dt.toArray⟩ : ByteArray) ++ (⟨#[32]⟩ : ByteArray))), x11, x12, (.string (⟨dn.toArray⟩ : ByteArray)), (.string (((⟨dt.toArray⟩ : ByteArray) ++ (⟨#[32]⟩ : ByteArray)) ++ (⟨dn.toArray⟩ : ByteArray))), x15, by simp only [Act.put, List.setIfInBounds_toArray, List.set_cons_zero, List.set_cons_succ], ?_⟩
      exact ⟨fun h => hF.out.f0 (by simpa using h), fun h => hF.out.f1 (by simpa using h), fun h => hF.out.f2 (by simpa using h), fun h => hF.out.f3 (by simpa using h), fun h => hF.out.f4 (by simpa using h), fun h => hF.out.f5 (by simpa using h), fun h => hF.out.f6 (by simpa using h), fun _ => rfl, fun h => hF.out.f8 (by simpa using h), fun h => hF.out.f9 (by simpa using h), hF.out.kp⟩
    · intro d a W hI hd hdep
      obtain ⟨x3, x7, x8, x9, x10, x11, x12, x13, x14, x15, rfl, hF⟩ := hI
      have hd7 : d 7 = true := dep_of hdep 7 (by kernel_rfl)
      obtain rfl := hF.out.f7 hd7
      have hl1 := HLN.out.1
      have hl2 := HLN.out.2
      clear hdep hd hd7
      intro K hK
      simp only [Act.put, List.setIfInBounds_toArray, List.set_cons_zero, List.set_cons_succ]
      go_simp
      rw [if_neg (by first | omega | (simp; omega))]
      go_simp
      refine hK.out _ _ ⟨x3, x7, x8, x9, x10, x11, x12, x13, (.string (((⟨dt.toArray⟩ : ByteArray) ++ (⟨#[32]⟩ : ByteArray)) ++ (⟨dn.toArray⟩ : ByteArray))), (.string ((((⟨dt.toArray⟩ : ByteArray) ++ (⟨#[32]⟩ : ByteArray)) ++ (⟨dn.toArray⟩ : ByteArray)) ++ (⟨#[10]⟩ : ByteArray))), by simp only [Act.put, List.setIfInBounds_toArray, List.set_cons_zero, List.set_cons_succ], ?_⟩
      exact ⟨fun h => hF.out.f0 (by simpa using h), fun h => hF.out.f1 (by simpa using h), fun h => hF.out.f2 (by simpa using h), fun h => hF.out.f3 (by simpa using h), fun h => hF.out.f4 (by simpa using h), fun h => hF.out.f5 (by simpa using h), fun h => hF.out.f6 (by simpa using h), fun h => hF.out.f7 (by simpa using h), fun _ => rfl, fun h => hF.out.f9 (by simpa using h), hF.out.kp⟩
    · intro d a W hI hd hdep
      obtain ⟨x3, x7, x8, x9, x10, x11, x12, x13, x14, x15, rfl, hF⟩ := hI
      have hd8 : d 8 = true := dep_of hdep 8 (by kernel_rfl)
      obtain rfl := hF.out.f8 hd8
      clear hdep hd hd8
      intro K hK
      simp only [Act.put, List.setIfInBounds_toArray, List.set_cons_zero, List.set_cons_succ]
      go_simp
      refine hK.out _ _ ⟨(.string ((((⟨dt.toArray⟩ : ByteArray) ++ (⟨#[32]⟩ : ByteArray)) ++ (⟨dn.toArray⟩ : ByteArray)) ++ (⟨#[10]⟩ : ByteArray))), x7, x8, x9, x10, x11, x12, x13, x14, (.string ((((⟨dt.toArray⟩ : ByteArray) ++ (⟨#[32]⟩ : ByteArray)) ++ (⟨dn.toArray⟩ : ByteArray)) ++ (⟨#[10]⟩ : ByteArray))), by simp only [Act.put, List.setIfInBounds_toArray, List.set_cons_zero, List.set_cons_succ], ?_⟩
      exact ⟨fun h => hF.out.f0 (by simpa using h), fun h => hF.out.f1 (by simpa using h), fun h => hF.out.f2 (by simpa using h), fun h => hF.out.f3 (by simpa using h), fun h => hF.out.f4 (by simpa using h), fun h => hF.out.f5 (by simpa using h), fun h => hF.out.f6 (by simpa using h), fun h => hF.out.f7 (by simpa using h), fun h => hF.out.f8 (by simpa using h), fun _ => rfl, hF.out.kp⟩
  · intro d a W hI hall
    obtain ⟨x3, x7, x8, x9, x10, x11, x12, x13, x14, x15, rfl, hF⟩ := hI
    simp only [List.length_cons, List.length_nil] at hall
    obtain rfl := hF.out.f0 (hall 0 (by omega))
    obtain rfl := hF.out.f1 (hall 1 (by omega))
    obtain rfl := hF.out.f2 (hall 2 (by omega))
    obtain rfl := hF.out.f3 (hall 3 (by omega))
    obtain rfl := hF.out.f4 (hall 4 (by omega))
    obtain rfl := hF.out.f5 (hall 5 (by omega))
    obtain rfl := hF.out.f6 (hall 6 (by omega))
    obtain rfl := hF.out.f7 (hall 7 (by omega))
    obtain rfl := hF.out.f8 (hall 8 (by omega))
    obtain rfl := hF.out.f9 (hall 9 (by omega))
    have HG5 : Hid (Gb w w.heap.size t n (.slice ao ps.length c) ps W) := HG1.out.next (by rw [HBB.out]; exact hF.out.kp)
    clear hF hall
    simp only [Act.put, List.setIfInBounds_toArray, List.set_cons_zero, List.set_cons_succ]
    obtain ⟨s8, HS8E⟩ : ∃ s8 : ByteArray, Hid (((((⟨dt.toArray⟩ : ByteArray) ++ (⟨#[32]⟩ : ByteArray)) ++ (⟨dn.toArray⟩ : ByteArray)) ++ (⟨#[10]⟩ : ByteArray)) = s8) := ⟨_, (rfl : ((((⟨dt.toArray⟩ : ByteArray) ++ (⟨#[32]⟩ : ByteArray)) ++ (⟨dn.toArray⟩ : ByteArray)) ++ (⟨#[10]⟩ : ByteArray)) = ((((⟨dt.toArray⟩ : ByteArray) ++ (⟨#[32]⟩ : ByteArray)) ++ (⟨dn.toArray⟩ : ByteArray)) ++ (⟨#[10]⟩ : ByteArray)))⟩
    rw [HS8E.out] at HHD HS8 ⊢
    obtain ⟨s7, HS7E⟩ : ∃ s7 : ByteArray, Hid ((((⟨dt.toArray⟩ : ByteArray) ++ (⟨#[32]⟩ : ByteArray)) ++ (⟨dn.toArray⟩ : ByteArray)) = s7) := ⟨_, (rfl : (((⟨dt.toArray⟩ : ByteArray) ++ (⟨#[32]⟩ : ByteArray)) ++ (⟨dn.toArray⟩ : ByteArray)) = (((⟨dt.toArray⟩ : ByteArray) ++ (⟨#[32]⟩ : ByteArray)) ++ (⟨dn.toArray⟩ : ByteArray)))⟩
    rw [HS7E.out]
    obtain ⟨s3, HS3E⟩ : ∃ s3 : ByteArray, Hid (((⟨dt.toArray⟩ : ByteArray) ++ (⟨#[32]⟩ : ByteArray)) = s3) := ⟨_, (rfl : ((⟨dt.toArray⟩ : ByteArray) ++ (⟨#[32]⟩ : ByteArray)) = ((⟨dt.toArray⟩ : ByteArray) ++ (⟨#[32]⟩ : ByteArray)))⟩
    rw [HS3E.out]
    go_wp2_with fail
    go_loopw [4, 3] (fun i so wr => ∃ (q : Nat) (sb : ByteArray), q ≤ ps.length ∧ i = .int .i64 (q : Int) ∧ so = .string sb ∧ sb.size ≤ 6 + 36 * q ∧ Hid (sb.data.toList = hd0 ++ linesT (ps.take q)) ∧ Hid (Gb w w.heap.size t n (.slice ao ps.length c) ps wr)) (fun i _ _ => ps.length - (intOf i).toNat)
    case atStart => exact ⟨0, s8, by omega, rfl, rfl, by have := HS8.out; omega, by show _ = _; rw [HHD.out]; simp [linesT], HG5⟩
    case round =>
      obtain ⟨q, sb, hq, rfl, rfl, hsb, HJ, HG6⟩ := hrel
      clear HG5
      have z2 := HG6.out.c2
      by_cases hlt : q < ps.length
      · obtain ⟨b, o, rfl, hb, hcc⟩ := hcs.resolve_left (by intro e; subst e; simp at hlt)
        have hbw : Below w.heap.size w wr := HG6.out.below
        obtain ⟨d0, u, d1, hsy⟩ := hcc q hlt
        have HOKP : Hid (chkP t n ps[q] = 0) := HCK.out.2 ps[q] (List.getElem_mem hlt)
        have HLT : Hid (linesT (ps.take (q + 1)) = linesT (ps.take q) ++ (prodT (ps[q].1, ps[q].2) ++ [10])) := by
          show _ = _
          unfold linesT
          rw [List.take_succ_eq_append_getElem hlt, List.flatMap_append]; simp
        generalize ps[q] = pq at d0 HOKP HLT hsy
        obtain ⟨x, l⟩ := pq
        simp only at d0 HLT hsy
        have HD0 : Hid (w.cell? ⟨b, o + q * 2, none⟩ = some (.int .i64 x)) := d0
        have HD1 : Hid (w.cell? ⟨b, o + q * 2 + 1, none⟩ = some u) := d1
        obtain ⟨uo, uc, rfl, hum, hus⟩ := hsy
        replace d0 : wr.cell? ⟨b, o + q * 2, none⟩ = _ := (hbw.cell (p := ⟨b, o + q * 2, none⟩) hb).trans d0
        clear d1
        have hk1 : (q : Int) < (ps.length : Int) := by omega
        have hq0 : (0 : Int) ≤ (q : Int) := by omega
        obtain ⟨k1, k2, k3⟩ := prod_small HCK.out.1 HOKP.out
        have HK3 : Hid (∀ s ∈ l, (0 ≤ s.2 ∧ s.2 < 100) ∧ (s.1 = 1 ∨ s.1 = 2)) := fun s hs => ⟨k3 s hs, kind_small (List.all_eq_true.1 (chkP_zero HOKP.out).2.2 s hs)⟩
        have hit := itoa_any x k1.1 k1.2 wr
        have HXL : Hid ((Go.Lib.decDigits x.toNat).length ≤ 2) := dec_len (by omega)
        have HPT : Hid (prodT (x, l) = Go.Lib.decDigits x.toNat ++ 58 :: bodyT l) := rfl
        obtain ⟨xd, HXD⟩ : ∃ xd, Hid (Go.Lib.decDigits x.toNat = xd) := ⟨_, (rfl : Go.Lib.decDigits x.toNat = Go.Lib.decDigits x.toNat)⟩
        rw [HXD.out] at hit HXL HPT
        rw [HPT.out] at HLT
        have hxl := HXL.out
        have hq40 : ps.length ≤ 40 := HPL.out
        clear k1 k3 hbw hcc
        go_wp2_with fail
        refine hit.mono ?_
        rintro _ w7 ⟨rfl, hw7⟩
        have hw8 := hw7.symm
        subst hw8
        clear hit hw7
        go_wp2_with fail
        clear z2 d0
        obtain ⟨s1, HS1⟩ : ∃ s1 : ByteArray, Hid (sb ++ ((⟨xd.toArray⟩ : ByteArray) ++ (⟨#[58]⟩ : ByteArray)) = s1) := ⟨_, (rfl : sb ++ ((⟨xd.toArray⟩ : ByteArray) ++ (⟨#[58]⟩ : ByteArray)) = sb ++ ((⟨xd.toArray⟩ : ByteArray) ++ (⟨#[58]⟩ : ByteArray)))⟩
        rw [HS1.out]
        obtain ⟨base, HBA⟩ : ∃ base, Hid (s1.data.toList = base) := ⟨_, (rfl : s1.data.toList = s1.data.toList)⟩
        have HS1L : Hid (base = hd0 ++ linesT (ps.take q) ++ (xd ++ [58])) := by
          show _ = _
          rw [← HBA.out, ← HS1.out, ba_list, ba_list, HJ.out]
        have hs1 : s1.size ≤ 9 + 36 * q := by
          rw [← data_size, HBA.out, HS1L.out, ← HJ.out]
          simp only [List.length_append, List.length_cons, List.length_nil]
          rw [data_size]; omega
        have HQL : Hid (q < ps.length) := hlt
        obtain ⟨W0, rfl⟩ : ∃ W0, W0 = wr := ⟨_, rfl⟩
        go_loopw [5, 3] (fun i so wr => ∃ (k : Nat) (s2 : ByteArray), k ≤ l.length ∧ i = .int .i64 (k : Int) ∧ so = .string s2 ∧ s2.size ≤ 9 + 36 * q + 4 * k ∧ Hid (s2.data.toList = base ++ bodyT (l.take k)) ∧ Hid (Gb w w.heap.size t n (.slice (some ⟨b, o, none⟩) ps.length c) ps wr)) (fun i _ _ => l.length - (intOf i).toNat)
        case atStart => exact ⟨0, s1, by omega, rfl, rfl, by omega, by show _ = _; rw [HBA.out]; simp [bodyT], HG6⟩
        case round =>
          obtain ⟨k, s2, hk, rfl, rfl, hs2, HI, HG7⟩ := hrel
          have z2 := HG7.out.c2
          have d1 : wr.cell? ⟨b, o + q * 2 + 1, none⟩ = _ := (HG7.out.below.cell (p := ⟨b, o + q * 2 + 1, none⟩) hb).trans HD1.out
          by_cases hkl : k < l.length
          · obtain ⟨b2, o2, rfl, hb2, hcc2⟩ := hus.resolve_left (by intro e; subst e; simp at hkl)
            obtain ⟨e0, e1⟩ := hcc2 k hkl
            have HK4 := HK3.out l[k] (List.getElem_mem hkl)
            have HTK : Hid (bodyT (l.take (k + 1)) = bodyT (l.take k) ++ (32 :: symT (l[k].1, l[k].2))) := by
              show _ = _
              unfold bodyT
              rw [List.take_succ_eq_append_getElem hkl, List.flatMap_append]; simp
            generalize l[k] = sy at e0 e1 HK4 HTK
            obtain ⟨x0, x1⟩ := sy
            simp only at e0 e1 HK4 HTK
            replace e0 : wr.cell? ⟨b2, o2 + k * 2, none⟩ = _ := (HG7.out.below.cell (p := ⟨b2, o2 + k * 2, none⟩) hb2).trans e0
            replace e1 : wr.cell? ⟨b2, o2 + k * 2 + 1, none⟩ = _ := (HG7.out.below.cell (p := ⟨b2, o2 + k * 2 + 1, none⟩) hb2).trans e1
            have hkk : (k : Int) < (l.length : Int) := by omega
            have hit := itoa_any x1 HK4.1.1 HK4.1.2 (wr.alloc (Obj.cells #[.int .i64 x0, .int .i64 x1] 42))
            have hdl : (Go.Lib.decDigits x1.toNat).length ≤ 2 := dec_len (by have := HK4.1; omega)
            obtain ⟨dd, HDD⟩ : ∃ dd, Hid (Go.Lib.decDigits x1.toNat = dd) := ⟨_, (rfl : Go.Lib.decDigits x1.toNat = Go.Lib.decDigits x1.toNat)⟩
            rw [HDD.out] at hit hdl
            have HG3 : Hid (Gb w w.heap.size t n (.slice (some ⟨b, o, none⟩) ps.length c) ps (wr.alloc (Obj.cells #[.int .i64 x0, .int .i64 x1] 42))) := HG7.out.next (below_alloc _ _)
            have g0 := cell_new wr #[.int .i64 x0, .int .i64 x1] 42 0
            have g1 := cell_new wr #[.int .i64 x0, .int .i64 x1] 42 1
            simp only [List.getElem?_toArray, List.getElem?_cons_zero, List.getElem?_cons_succ] at g0 g1
            have HK5 : Hid (x0 = 1 ∨ x0 = 2) := HK4.2
            clear HK4 hcc2
            go_upto_region 10 with (fail)
            clear z2 d1 e0 e1
            generalize wr.alloc (Obj.cells #[.int .i64 x0, .int .i64 x1] 42) = w6 at hit HG3 g0 g1 ⊢
            rcases HK5.out with hx | hx
            · have HKD : Hid (x0 = 1) := hx
              clear hx
              have bk : (x0 == 1) = true := by have := HKD.out; simp; omega
              have HST : Hid (symT (x0, x1) = 116 :: dd) := by
                show _ = _
                have hk := HKD.out
                unfold symT
                rw [if_neg (by simp only []; omega), HDD.out]
              have HI2 : Hid ((s2 ++ ((⟨#[32, 116]⟩ : ByteArray) ++ ⟨dd.toArray⟩)).data.toList = base ++ bodyT (l.take (k + 1))) := by
                show _ = _
                rw [ba_list, ba_list, HI.out, HTK.out, HST.out]
                simp
              clear HKD
              go_wp2_with fail
              refine hit.mono ?_
              rintro _ w7 ⟨rfl, hw7⟩
              have hw8 := hw7.symm
              subst hw8
              clear hit hw7
              go_wp2_with fail
              clear g0 g1 bk
              go_roundw
              case rel => exact ⟨k + 1, (s2 ++ ((⟨#[32, 116]⟩ : ByteArray) ++ ⟨dd.toArray⟩)), by omega, by go_num, rfl, by simp [ByteArray.size_append, size_list]; first | omega | (show s2.size + _ ≤ _; omega), HI2, HG3⟩
              case measure => simp [intOf]; omega
            · have HKD : Hid (x0 = 2) := hx
              clear hx
              have bk : (x0 == 1) = false := by have := HKD.out; simp; omega
              have HST : Hid (symT (x0, x1) = 110 :: dd) := by
                show _ = _
                have hk := HKD.out
                unfold symT
                rw [if_pos (by simp only []; omega), HDD.out]
              have HI2 : Hid ((s2 ++ ((⟨#[32, 110]⟩ : ByteArray) ++ ⟨dd.toArray⟩)).data.toList = base ++ bodyT (l.take (k + 1))) := by
                show _ = _
                rw [ba_list, ba_list, HI.out, HTK.out, HST.out]
                simp
              clear HKD
              go_wp2_with fail
              refine hit.mono ?_
              rintro _ w7 ⟨rfl, hw7⟩
              have hw8 := hw7.symm
              subst hw8
              clear hit hw7
              go_wp2_with fail
              clear g0 g1 bk
              go_roundw
              case rel => exact ⟨k + 1, (s2 ++ ((⟨#[32, 110]⟩ : ByteArray) ++ ⟨dd.toArray⟩)), by omega, by go_num, rfl, by simp [ByteArray.size_append, size_list]; first | omega | (show s2.size + _ ≤ _; omega), HI2, HG3⟩
              case measure => simp [intOf]; omega
          · obtain rfl : k = l.length := by omega
            have HI2 : Hid ((s2 ++ (⟨#[10]⟩ : ByteArray)).data.toList = hd0 ++ linesT (ps.take (q + 1))) := by
              show _ = _
              rw [ba_list, HI.out, List.take_of_length_le (Nat.le_refl _), HS1L.out, HLT.out]
              simp
            go_wp2_with fail
            go_roundw
            case rel => exact ⟨q + 1, s2 ++ (⟨#[10]⟩ : ByteArray), HQL.out, by go_num, rfl, by rw [ByteArray.size_append]; show s2.size + 1 ≤ _; omega, HI2, HG7⟩
            case measure => simp [intOf]; have := HQL.out; omega
      · have HSB : Hid (sb = ⟨tx.toArray⟩) := by
          show _ = _
          have e := HJ.out
          rw [List.take_of_length_le (by omega), HTX.out] at e
          apply ByteArray.ext
          rw [← Array.toArray_toList (xs := sb.data), e]
        have HB8 : Hid (Below w.heap.size w wr) := HG6.out.below
        go_wp2_with fail
        go_ret
        exact ⟨by rw [HSB.out]; rfl, HB8.out⟩

end Go.Proofs.YtgoafahglajfmaaDoor

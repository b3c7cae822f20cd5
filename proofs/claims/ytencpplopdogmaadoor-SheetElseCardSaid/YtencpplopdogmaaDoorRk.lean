/- The cube roots of the primes, reckoned. -/
import Derived.Test.YtencpplopdogmaaDoorRb
namespace Go.Proofs.YtencpplopdogmaaDoor
set_option maxRecDepth 100000
open Go.RowKit

theorem cu_0 : cuR (prs.getD 0 0) 35 % 4294967296 = kW.getD 0 0 := by decide +kernel
theorem cu_1 : cuR (prs.getD 1 0) 35 % 4294967296 = kW.getD 1 0 := by decide +kernel
theorem cu_2 : cuR (prs.getD 2 0) 35 % 4294967296 = kW.getD 2 0 := by decide +kernel
theorem cu_3 : cuR (prs.getD 3 0) 35 % 4294967296 = kW.getD 3 0 := by decide +kernel
theorem cu_4 : cuR (prs.getD 4 0) 35 % 4294967296 = kW.getD 4 0 := by decide +kernel
theorem cu_5 : cuR (prs.getD 5 0) 35 % 4294967296 = kW.getD 5 0 := by decide +kernel
theorem cu_6 : cuR (prs.getD 6 0) 35 % 4294967296 = kW.getD 6 0 := by decide +kernel
theorem cu_7 : cuR (prs.getD 7 0) 35 % 4294967296 = kW.getD 7 0 := by decide +kernel
theorem cu_8 : cuR (prs.getD 8 0) 35 % 4294967296 = kW.getD 8 0 := by decide +kernel
theorem cu_9 : cuR (prs.getD 9 0) 35 % 4294967296 = kW.getD 9 0 := by decide +kernel
theorem cu_10 : cuR (prs.getD 10 0) 35 % 4294967296 = kW.getD 10 0 := by decide +kernel
theorem cu_11 : cuR (prs.getD 11 0) 35 % 4294967296 = kW.getD 11 0 := by decide +kernel
theorem cu_12 : cuR (prs.getD 12 0) 35 % 4294967296 = kW.getD 12 0 := by decide +kernel
theorem cu_13 : cuR (prs.getD 13 0) 35 % 4294967296 = kW.getD 13 0 := by decide +kernel
theorem cu_14 : cuR (prs.getD 14 0) 35 % 4294967296 = kW.getD 14 0 := by decide +kernel
theorem cu_15 : cuR (prs.getD 15 0) 35 % 4294967296 = kW.getD 15 0 := by decide +kernel
theorem cu_16 : cuR (prs.getD 16 0) 35 % 4294967296 = kW.getD 16 0 := by decide +kernel
theorem cu_17 : cuR (prs.getD 17 0) 35 % 4294967296 = kW.getD 17 0 := by decide +kernel
theorem cu_18 : cuR (prs.getD 18 0) 35 % 4294967296 = kW.getD 18 0 := by decide +kernel
theorem cu_19 : cuR (prs.getD 19 0) 35 % 4294967296 = kW.getD 19 0 := by decide +kernel
theorem cu_20 : cuR (prs.getD 20 0) 35 % 4294967296 = kW.getD 20 0 := by decide +kernel
theorem cu_21 : cuR (prs.getD 21 0) 35 % 4294967296 = kW.getD 21 0 := by decide +kernel
theorem cu_22 : cuR (prs.getD 22 0) 35 % 4294967296 = kW.getD 22 0 := by decide +kernel
theorem cu_23 : cuR (prs.getD 23 0) 35 % 4294967296 = kW.getD 23 0 := by decide +kernel
theorem cu_24 : cuR (prs.getD 24 0) 35 % 4294967296 = kW.getD 24 0 := by decide +kernel
theorem cu_25 : cuR (prs.getD 25 0) 35 % 4294967296 = kW.getD 25 0 := by decide +kernel
theorem cu_26 : cuR (prs.getD 26 0) 35 % 4294967296 = kW.getD 26 0 := by decide +kernel
theorem cu_27 : cuR (prs.getD 27 0) 35 % 4294967296 = kW.getD 27 0 := by decide +kernel
theorem cu_28 : cuR (prs.getD 28 0) 35 % 4294967296 = kW.getD 28 0 := by decide +kernel
theorem cu_29 : cuR (prs.getD 29 0) 35 % 4294967296 = kW.getD 29 0 := by decide +kernel
theorem cu_30 : cuR (prs.getD 30 0) 35 % 4294967296 = kW.getD 30 0 := by decide +kernel
theorem cu_31 : cuR (prs.getD 31 0) 35 % 4294967296 = kW.getD 31 0 := by decide +kernel
theorem cu_32 : cuR (prs.getD 32 0) 35 % 4294967296 = kW.getD 32 0 := by decide +kernel
theorem cu_33 : cuR (prs.getD 33 0) 35 % 4294967296 = kW.getD 33 0 := by decide +kernel
theorem cu_34 : cuR (prs.getD 34 0) 35 % 4294967296 = kW.getD 34 0 := by decide +kernel
theorem cu_35 : cuR (prs.getD 35 0) 35 % 4294967296 = kW.getD 35 0 := by decide +kernel
theorem cu_36 : cuR (prs.getD 36 0) 35 % 4294967296 = kW.getD 36 0 := by decide +kernel
theorem cu_37 : cuR (prs.getD 37 0) 35 % 4294967296 = kW.getD 37 0 := by decide +kernel
theorem cu_38 : cuR (prs.getD 38 0) 35 % 4294967296 = kW.getD 38 0 := by decide +kernel
theorem cu_39 : cuR (prs.getD 39 0) 35 % 4294967296 = kW.getD 39 0 := by decide +kernel
theorem cu_40 : cuR (prs.getD 40 0) 35 % 4294967296 = kW.getD 40 0 := by decide +kernel
theorem cu_41 : cuR (prs.getD 41 0) 35 % 4294967296 = kW.getD 41 0 := by decide +kernel
theorem cu_42 : cuR (prs.getD 42 0) 35 % 4294967296 = kW.getD 42 0 := by decide +kernel
theorem cu_43 : cuR (prs.getD 43 0) 35 % 4294967296 = kW.getD 43 0 := by decide +kernel
theorem cu_44 : cuR (prs.getD 44 0) 35 % 4294967296 = kW.getD 44 0 := by decide +kernel
theorem cu_45 : cuR (prs.getD 45 0) 35 % 4294967296 = kW.getD 45 0 := by decide +kernel
theorem cu_46 : cuR (prs.getD 46 0) 35 % 4294967296 = kW.getD 46 0 := by decide +kernel
theorem cu_47 : cuR (prs.getD 47 0) 35 % 4294967296 = kW.getD 47 0 := by decide +kernel
theorem cu_48 : cuR (prs.getD 48 0) 35 % 4294967296 = kW.getD 48 0 := by decide +kernel
theorem cu_49 : cuR (prs.getD 49 0) 35 % 4294967296 = kW.getD 49 0 := by decide +kernel
theorem cu_50 : cuR (prs.getD 50 0) 35 % 4294967296 = kW.getD 50 0 := by decide +kernel
theorem cu_51 : cuR (prs.getD 51 0) 35 % 4294967296 = kW.getD 51 0 := by decide +kernel
theorem cu_52 : cuR (prs.getD 52 0) 35 % 4294967296 = kW.getD 52 0 := by decide +kernel
theorem cu_53 : cuR (prs.getD 53 0) 35 % 4294967296 = kW.getD 53 0 := by decide +kernel
theorem cu_54 : cuR (prs.getD 54 0) 35 % 4294967296 = kW.getD 54 0 := by decide +kernel
theorem cu_55 : cuR (prs.getD 55 0) 35 % 4294967296 = kW.getD 55 0 := by decide +kernel
theorem cu_56 : cuR (prs.getD 56 0) 35 % 4294967296 = kW.getD 56 0 := by decide +kernel
theorem cu_57 : cuR (prs.getD 57 0) 35 % 4294967296 = kW.getD 57 0 := by decide +kernel
theorem cu_58 : cuR (prs.getD 58 0) 35 % 4294967296 = kW.getD 58 0 := by decide +kernel
theorem cu_59 : cuR (prs.getD 59 0) 35 % 4294967296 = kW.getD 59 0 := by decide +kernel
theorem cu_60 : cuR (prs.getD 60 0) 35 % 4294967296 = kW.getD 60 0 := by decide +kernel
theorem cu_61 : cuR (prs.getD 61 0) 35 % 4294967296 = kW.getD 61 0 := by decide +kernel
theorem cu_62 : cuR (prs.getD 62 0) 35 % 4294967296 = kW.getD 62 0 := by decide +kernel
theorem cu_63 : cuR (prs.getD 63 0) 35 % 4294967296 = kW.getD 63 0 := by decide +kernel
end Go.Proofs.YtencpplopdogmaaDoor

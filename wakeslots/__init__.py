"""When two who sleep both wake."""
